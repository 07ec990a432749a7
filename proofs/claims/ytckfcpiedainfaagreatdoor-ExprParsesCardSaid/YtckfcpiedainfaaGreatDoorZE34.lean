/-
  WALKS over the document's reader: level, where a row stands.
-/
import Derived.Test.YtckfcpiedainfaaGreatDoorZE33
namespace Go.Proofs.YtckfcpiedainfaaGreatDoor
open Go Go.RowKit Go.Sort
set_option linter.unusedVariables false
/-- what a call that reads answers -/
def LPost (w : World) (A : Option Addr) (c : Nat) (all : List Tok) (fin : Int) (V : Rd) (N : Nat) (ts : List (Nat × Tr)) (e : Ending) (X' : World) : Prop := match V with
  | .ok q => ∃ p1, q.2 = all.drop p1 ∧ p1 ≤ all.length ∧ LGot w A c all fin N ts q.1 p1 e X'
  | .error l' => LBad w A c all fin N (placeV l' fin) e X'
/-- a call that reads, wherever the reader stands well at p -/
def DC (w : World) (A : Option Addr) (c : Nat) (all : List Tok) (fin : Int) (F : FuncId) (args : Array Value) (p : Nat) (V : Rd) : Prop := ∀ N ts X, N ≤ 4096 → DS w A c all fin (-1) N ts p X → Calls Tryz.prog F args X (LPost w A c all fin V N ts)
theorem DC.read {w : World} {A : Option Addr} {c : Nat} {all : List Tok} {fin : Int} {F : FuncId} {args : Array Value} {p n : Nat} (h : DC w A c all fin F args p (rdX (.lv n) (all.drop p))) (hp : p ≤ all.length) :
    (∃ l', rdX (.lv n) (all.drop p) = .error l' ∧ Hid (∀ N ts X, N ≤ 4096 → DS w A c all fin (-1) N ts p X → Calls Tryz.prog F args X (LBad w A c all fin N (placeV l' fin)))) ∨
    (∃ t p1, rdX (.lv n) (all.drop p) = .ok (t, all.drop p1) ∧ p < p1 ∧ p1 ≤ all.length ∧ Hid (∀ N ts X, N ≤ 4096 → DS w A c all fin (-1) N ts p X → Calls Tryz.prog F args X (LGot w A c all fin N ts t p1))) := by
  cases hr : rdX (.lv n) (all.drop p) with
  | error l' => exact .inl ⟨l', rfl, Lib.hid fun N ts X hN hS => (h N ts X hN hS).mono fun e X' hh => by rw [hr] at hh; exact hh⟩
  | ok q =>
    obtain ⟨t, l1⟩ := q
    obtain ⟨p1, e1, h1, h2⟩ := rdX_place hr hp
    have e1' : l1 = all.drop p1 := e1
    subst e1'
    refine .inr ⟨t, p1, rfl, h1, h2, Lib.hid fun N ts X hN hS => (h N ts X hN hS).mono fun e X' hh => ?_⟩
    rw [hr] at hh
    obtain ⟨p2, e2, h3, h4⟩ := hh
    obtain rfl := drop_inj h2 h3 e2
    exact h4
/-- what the loop over a row keeps: a tree, or where it has stopped -/
def RowD (w : World) (A : Option Addr) (c : Nat) (all : List Tok) (fin : Int) (n p : Nat) (R : Rd) (N : Nat) (ts : List (Nat × Tr)) (v : Value) (wr : World) : Prop :=
  (∃ (j : Nat) (t : Tr) (q : Nat), v = .int .i64 (j : Int) ∧ DS w A c all fin (-1) N ((j, t) :: ts) q wr ∧ p ≤ q ∧ rdX (.row n t) (all.drop q) = R) ∨ (∃ (x : Int) (l' : List Tok), v = .int .i64 x ∧ R = .error l' ∧ DBad w A c all fin (placeV l' fin) N wr)
def dmeas (len g : Nat) (X : World) : Nat := match X.cell? ⟨g, 3, none⟩ with
  | some (.int _ b) => if 0 ≤ b then 0 else len + 1 - atOf g X
  | _ => 0
theorem DS.meas {w X : World} {A : Option Addr} {c : Nat} {all : List Tok} {fin : Int} {N p : Nat} {ts : List (Nat × Tr)} (h : DS w A c all fin (-1) N ts p X) : dmeas all.length w.heap.size X = all.length + 1 - p := by
  obtain ⟨x0, x1, x2, x3, f1, f3⟩ := h.cells
  unfold dmeas atOf
  rw [x3, x1]
  rfl
theorem DBad.meas {w X : World} {A : Option Addr} {c : Nat} {all : List Tok} {fin q : Int} {N : Nat} (h : DBad w A c all fin q N X) : dmeas all.length w.heap.size X = 0 := by
  obtain ⟨h0, p, hp⟩ := h
  obtain ⟨x0, x1, x2, x3, f1, f3⟩ := hp.cells
  unfold dmeas
  rw [x3]
  exact if_pos h0
theorem DBad.cell3 {w X : World} {A : Option Addr} {c : Nat} {all : List Tok} {fin q : Int} {N : Nat} (h : DBad w A c all fin q N X) : X.cell? ⟨w.heap.size, 3, none⟩ = some (.int .i64 q) := by
  obtain ⟨h0, p, hp⟩ := h
  exact hp.cells.2.2.2.1
set_option maxHeartbeats 6400000 in
set_option maxRecDepth 20000 in
theorem dlevel1_any (w : World) (A : Option Addr) (c : Nat) (all : List Tok) (fin : Int) (hcx : DCx w A c all fin) (p : Nat) (hle : p ≤ all.length) (HD : ∀ q, p ≤ q → q ≤ all.length → DC w A c all fin 21 #[.pointer (some ⟨w.heap.size, 0, none⟩), .int .i64 2] q (rdX (.lv 2) (all.drop q))) :
    DC w A c all fin 21 #[.pointer (some ⟨w.heap.size, 0, none⟩), .int .i64 1] p (rdX (.lv 1) (all.drop p)) := by
  intro N ts X hN hS
  have hroom := hcx.ok.room
  generalize hR : rdX (.lv 1) (all.drop p) = R
  rw [row_eq (n := 1) (by decide)] at hR
  have HC : Hid (∀ N ts X, N ≤ 4096 → DS w A c all fin (-1) N ts p X → Calls Tryz.prog 21 #[.pointer (some ⟨w.heap.size, 0, none⟩), .int .i64 2] X (fun e X' => ∃ x, e = .returned x ∧ RowD w A c all fin 1 p R N ts x X')) := by
    rcases (HD p (Nat.le_refl _) hle).read hle with ⟨l', hr, HC⟩ | ⟨t1, p1, hr, hp1, hpl1, HC⟩
    · rw [hr, bind_err] at hR
      exact Lib.hid fun N ts X hN hS => (HC.out N ts X hN hS).mono fun e X' ⟨v, h1, h2⟩ => ⟨_, h1, .inr ⟨v, l', rfl, hR.symm, h2⟩⟩
    · rw [hr, bind_ok] at hR
      exact Lib.hid fun N ts X hN hS => (HC.out N ts X hN hS).mono fun e X' ⟨j, h1, h2⟩ => ⟨_, h1, .inl ⟨j, t1, p1, rfl, h2, by omega, hR⟩⟩
  have HS := Lib.hid hS
  obtain ⟨x0, x1, x2, x3, f1, f3⟩ := hS.cells
  have HX := Lib.hid hcx
  have HDD := Lib.hid HD
  clear hS hR hcx HD x0 x1 x2 f1 f3
  go_enter Tryz.func21, Tryz.ntmps21
  go_wp2_with (go_at_call 21; (with_reducible refine (HC.out _ _ _ hN HS.out).mono ?_); rintro e w1 ⟨v1, rfl, h1⟩; have H1 := Lib.hid h1; clear h1)
  go_loopw [6, 7, 8] (fun lv kd rt wr => Hid (RowD w A c all fin 1 p R N ts lv wr)) (fun _ _ _ wr => dmeas all.length w.heap.size wr)
  case atStart => exact H1
  case round =>
    rename World => wr
    rcases hrel.out with ⟨j, t, q, rfl, hD, hq, hRq⟩ | ⟨x, l', rfl, hRe, hB⟩
    · have HSr := Lib.hid hD
      have hqle := hD.le
      have HM : Hid (dmeas all.length w.heap.size wr = all.length + 1 - q) := Lib.hid hD.meas
      obtain ⟨y0, y1, y2, y3, g1, g3⟩ := hD.cells
      have hN1 : q < all.length → 1 ≤ N := fun hp => hD.pos hp
      clear hrel hD y0 y1 y2 g1 g3
      rw [row_eq2 (n := 1) (by decide)] at hRq
      have HBT : Hid (∀ N ts X, DS w A c all fin (-1) N ts q X → Calls Tryz.prog 42 #[.pointer (some ⟨w.heap.size, 0, none⟩), .int .i64 1] X (BetPost w A c all fin N ts q (signV 1 (all.drop q)))) := Lib.hid fun N ts X h => dbetween1 w A c all fin HX.out N q ts X h
      by_cases hv : signV 1 (all.drop q) = 0
      · rw [if_pos hv] at hRq
        rw [hv] at HBT
        subst hRq
        clear hv
        go_wp2_with (go_at_call 42; (with_reducible refine (HBT.out _ _ _ HSr.out).mono ?_); rintro e w2 ⟨rfl, hs2, -⟩; have HS2 := Lib.hid (hs2 rfl); clear hs2)
        go_ret
        exact ⟨q, rfl, hqle, j, rfl, HS2.out⟩
      · rw [if_neg hv, drop_one] at hRq
        have hql : q < all.length := by
          rcases Nat.lt_or_ge q all.length with hp | hp
          · exact hp
          · exact absurd (by rw [List.drop_eq_nil_of_le hp]; simp [signV, isM_nil]) hv
        have hN1' := hN1 hql
        generalize signV 1 (all.drop q) = kv at hv hRq HBT
        have q0 : (kv == 0) = false := by simpa using hv
        rcases (HDD.out (q + 1) (by omega) (by omega)).read (by omega) with ⟨l', hr, HC2⟩ | ⟨t2, p2, hr, hp2, hpl2, HC2⟩
        · rw [hr, bind_err] at hRq
          have HRq := Lib.hid hRq
          clear hr hRq
          go_wp2_with (first | (go_at_call 42; (with_reducible refine (HBT.out _ _ _ HSr.out).mono ?_); rintro e w2 ⟨rfl, -, hs2⟩; have HS2 := Lib.hid (hs2 hv); clear hs2) | (go_at_call 21; (with_reducible refine (HC2.out _ _ _ (by omega) HS2.out).mono ?_); rintro e w3 ⟨v3, rfl, hs3⟩; have HS3 := Lib.hid hs3; clear hs3) | (go_at_call 40; (with_reducible refine (HS3.out.add2 (by omega) _ _ _ _ _).mono ?_); rintro e w4 ⟨v4, rfl, hs4⟩; have HS4 := Lib.hid hs4; clear hs4))
          go_roundw
          case measure => rw [HM.out, HS4.out.meas]; omega
          case rel => exact Lib.hid (.inr ⟨v4, l', rfl, HRq.out.symm, HS4.out.relax (by omega)⟩)
        · rw [hr, bind_ok] at hRq
          have HRq := Lib.hid hRq
          clear hr hRq
          go_wp2_with (first | (go_at_call 42; (with_reducible refine (HBT.out _ _ _ HSr.out).mono ?_); rintro e w2 ⟨rfl, -, hs2⟩; have HS2 := Lib.hid (hs2 hv); clear hs2) | (go_at_call 21; (with_reducible refine (HC2.out _ _ _ (by omega) HS2.out).mono ?_); rintro e w3 ⟨j3, rfl, hs3⟩; have HS3 := Lib.hid hs3; clear hs3) | (go_at_call 40; (with_reducible refine (HS3.out.add2 (by omega) _ _ _).mono ?_); rintro e w4 ⟨j4, rfl, hs4⟩; have HS4 := Lib.hid hs4; clear hs4))
          go_roundw
          case measure => rw [HM.out, HS4.out.meas]; omega
          case rel => exact Lib.hid (.inl ⟨j4, _, p2, rfl, HS4.out.relax (by omega), by omega, HRq.out⟩)
    · have y3 := hB.cell3
      have q1 : decide (placeV l' fin < 0) = false := decide_eq_false (by have := hB.1; omega)
      have HBx := Lib.hid hB
      subst hRe
      clear hB hrel
      go_wp2_with fail
      go_ret
      exact ⟨x, rfl, HBx.out⟩
set_option maxHeartbeats 6400000 in
set_option maxRecDepth 20000 in
theorem dlevel2_any (w : World) (A : Option Addr) (c : Nat) (all : List Tok) (fin : Int) (hcx : DCx w A c all fin) (p : Nat) (hle : p ≤ all.length) (HD : ∀ q, p ≤ q → q ≤ all.length → DC w A c all fin 21 #[.pointer (some ⟨w.heap.size, 0, none⟩), .int .i64 3] q (rdX (.lv 3) (all.drop q))) :
    DC w A c all fin 21 #[.pointer (some ⟨w.heap.size, 0, none⟩), .int .i64 2] p (rdX (.lv 2) (all.drop p)) := by
  intro N ts X hN hS
  have hroom := hcx.ok.room
  generalize hR : rdX (.lv 2) (all.drop p) = R
  rw [row_eq (n := 2) (by decide)] at hR
  have HC : Hid (∀ N ts X, N ≤ 4096 → DS w A c all fin (-1) N ts p X → Calls Tryz.prog 21 #[.pointer (some ⟨w.heap.size, 0, none⟩), .int .i64 3] X (fun e X' => ∃ x, e = .returned x ∧ RowD w A c all fin 2 p R N ts x X')) := by
    rcases (HD p (Nat.le_refl _) hle).read hle with ⟨l', hr, HC⟩ | ⟨t1, p1, hr, hp1, hpl1, HC⟩
    · rw [hr, bind_err] at hR
      exact Lib.hid fun N ts X hN hS => (HC.out N ts X hN hS).mono fun e X' ⟨v, h1, h2⟩ => ⟨_, h1, .inr ⟨v, l', rfl, hR.symm, h2⟩⟩
    · rw [hr, bind_ok] at hR
      exact Lib.hid fun N ts X hN hS => (HC.out N ts X hN hS).mono fun e X' ⟨j, h1, h2⟩ => ⟨_, h1, .inl ⟨j, t1, p1, rfl, h2, by omega, hR⟩⟩
  have HS := Lib.hid hS
  obtain ⟨x0, x1, x2, x3, f1, f3⟩ := hS.cells
  have HX := Lib.hid hcx
  have HDD := Lib.hid HD
  clear hS hR hcx HD x0 x1 x2 f1 f3
  go_enter Tryz.func21, Tryz.ntmps21
  go_wp2_with (go_at_call 21; (with_reducible refine (HC.out _ _ _ hN HS.out).mono ?_); rintro e w1 ⟨v1, rfl, h1⟩; have H1 := Lib.hid h1; clear h1)
  go_loopw [6, 7, 8] (fun lv kd rt wr => Hid (RowD w A c all fin 2 p R N ts lv wr)) (fun _ _ _ wr => dmeas all.length w.heap.size wr)
  case atStart => exact H1
  case round =>
    rename World => wr
    rcases hrel.out with ⟨j, t, q, rfl, hD, hq, hRq⟩ | ⟨x, l', rfl, hRe, hB⟩
    · have HSr := Lib.hid hD
      have hqle := hD.le
      have HM : Hid (dmeas all.length w.heap.size wr = all.length + 1 - q) := Lib.hid hD.meas
      obtain ⟨y0, y1, y2, y3, g1, g3⟩ := hD.cells
      have hN1 : q < all.length → 1 ≤ N := fun hp => hD.pos hp
      clear hrel hD y0 y1 y2 g1 g3
      rw [row_eq2 (n := 2) (by decide)] at hRq
      have HBT : Hid (∀ N ts X, DS w A c all fin (-1) N ts q X → Calls Tryz.prog 42 #[.pointer (some ⟨w.heap.size, 0, none⟩), .int .i64 2] X (BetPost w A c all fin N ts q (signV 2 (all.drop q)))) := Lib.hid fun N ts X h => dbetween2 w A c all fin HX.out N q ts X h
      by_cases hv : signV 2 (all.drop q) = 0
      · rw [if_pos hv] at hRq
        rw [hv] at HBT
        subst hRq
        clear hv
        go_wp2_with (go_at_call 42; (with_reducible refine (HBT.out _ _ _ HSr.out).mono ?_); rintro e w2 ⟨rfl, hs2, -⟩; have HS2 := Lib.hid (hs2 rfl); clear hs2)
        go_ret
        exact ⟨q, rfl, hqle, j, rfl, HS2.out⟩
      · rw [if_neg hv, drop_one] at hRq
        have hql : q < all.length := by
          rcases Nat.lt_or_ge q all.length with hp | hp
          · exact hp
          · exact absurd (by rw [List.drop_eq_nil_of_le hp]; simp [signV, isM_nil]) hv
        have hN1' := hN1 hql
        generalize signV 2 (all.drop q) = kv at hv hRq HBT
        have q0 : (kv == 0) = false := by simpa using hv
        rcases (HDD.out (q + 1) (by omega) (by omega)).read (by omega) with ⟨l', hr, HC2⟩ | ⟨t2, p2, hr, hp2, hpl2, HC2⟩
        · rw [hr, bind_err] at hRq
          have HRq := Lib.hid hRq
          clear hr hRq
          go_wp2_with (first | (go_at_call 42; (with_reducible refine (HBT.out _ _ _ HSr.out).mono ?_); rintro e w2 ⟨rfl, -, hs2⟩; have HS2 := Lib.hid (hs2 hv); clear hs2) | (go_at_call 21; (with_reducible refine (HC2.out _ _ _ (by omega) HS2.out).mono ?_); rintro e w3 ⟨v3, rfl, hs3⟩; have HS3 := Lib.hid hs3; clear hs3) | (go_at_call 40; (with_reducible refine (HS3.out.add2 (by omega) _ _ _ _ _).mono ?_); rintro e w4 ⟨v4, rfl, hs4⟩; have HS4 := Lib.hid hs4; clear hs4))
          go_roundw
          case measure => rw [HM.out, HS4.out.meas]; omega
          case rel => exact Lib.hid (.inr ⟨v4, l', rfl, HRq.out.symm, HS4.out.relax (by omega)⟩)
        · rw [hr, bind_ok] at hRq
          have HRq := Lib.hid hRq
          clear hr hRq
          go_wp2_with (first | (go_at_call 42; (with_reducible refine (HBT.out _ _ _ HSr.out).mono ?_); rintro e w2 ⟨rfl, -, hs2⟩; have HS2 := Lib.hid (hs2 hv); clear hs2) | (go_at_call 21; (with_reducible refine (HC2.out _ _ _ (by omega) HS2.out).mono ?_); rintro e w3 ⟨j3, rfl, hs3⟩; have HS3 := Lib.hid hs3; clear hs3) | (go_at_call 40; (with_reducible refine (HS3.out.add2 (by omega) _ _ _).mono ?_); rintro e w4 ⟨j4, rfl, hs4⟩; have HS4 := Lib.hid hs4; clear hs4))
          go_roundw
          case measure => rw [HM.out, HS4.out.meas]; omega
          case rel => exact Lib.hid (.inl ⟨j4, _, p2, rfl, HS4.out.relax (by omega), by omega, HRq.out⟩)
    · have y3 := hB.cell3
      have q1 : decide (placeV l' fin < 0) = false := decide_eq_false (by have := hB.1; omega)
      have HBx := Lib.hid hB
      subst hRe
      clear hB hrel
      go_wp2_with fail
      go_ret
      exact ⟨x, rfl, HBx.out⟩
set_option maxHeartbeats 6400000 in
set_option maxRecDepth 20000 in
theorem dlevel5_any (w : World) (A : Option Addr) (c : Nat) (all : List Tok) (fin : Int) (hcx : DCx w A c all fin) (p : Nat) (hle : p ≤ all.length) (HD : ∀ q, p ≤ q → q ≤ all.length → DC w A c all fin 21 #[.pointer (some ⟨w.heap.size, 0, none⟩), .int .i64 6] q (rdX (.lv 6) (all.drop q))) :
    DC w A c all fin 21 #[.pointer (some ⟨w.heap.size, 0, none⟩), .int .i64 5] p (rdX (.lv 5) (all.drop p)) := by
  intro N ts X hN hS
  have hroom := hcx.ok.room
  generalize hR : rdX (.lv 5) (all.drop p) = R
  rw [row_eq (n := 5) (by decide)] at hR
  have HC : Hid (∀ N ts X, N ≤ 4096 → DS w A c all fin (-1) N ts p X → Calls Tryz.prog 21 #[.pointer (some ⟨w.heap.size, 0, none⟩), .int .i64 6] X (fun e X' => ∃ x, e = .returned x ∧ RowD w A c all fin 5 p R N ts x X')) := by
    rcases (HD p (Nat.le_refl _) hle).read hle with ⟨l', hr, HC⟩ | ⟨t1, p1, hr, hp1, hpl1, HC⟩
    · rw [hr, bind_err] at hR
      exact Lib.hid fun N ts X hN hS => (HC.out N ts X hN hS).mono fun e X' ⟨v, h1, h2⟩ => ⟨_, h1, .inr ⟨v, l', rfl, hR.symm, h2⟩⟩
    · rw [hr, bind_ok] at hR
      exact Lib.hid fun N ts X hN hS => (HC.out N ts X hN hS).mono fun e X' ⟨j, h1, h2⟩ => ⟨_, h1, .inl ⟨j, t1, p1, rfl, h2, by omega, hR⟩⟩
  have HS := Lib.hid hS
  obtain ⟨x0, x1, x2, x3, f1, f3⟩ := hS.cells
  have HX := Lib.hid hcx
  have HDD := Lib.hid HD
  clear hS hR hcx HD x0 x1 x2 f1 f3
  go_enter Tryz.func21, Tryz.ntmps21
  go_wp2_with (go_at_call 21; (with_reducible refine (HC.out _ _ _ hN HS.out).mono ?_); rintro e w1 ⟨v1, rfl, h1⟩; have H1 := Lib.hid h1; clear h1)
  go_loopw [6, 7, 8] (fun lv kd rt wr => Hid (RowD w A c all fin 5 p R N ts lv wr)) (fun _ _ _ wr => dmeas all.length w.heap.size wr)
  case atStart => exact H1
  case round =>
    rename World => wr
    rcases hrel.out with ⟨j, t, q, rfl, hD, hq, hRq⟩ | ⟨x, l', rfl, hRe, hB⟩
    · have HSr := Lib.hid hD
      have hqle := hD.le
      have HM : Hid (dmeas all.length w.heap.size wr = all.length + 1 - q) := Lib.hid hD.meas
      obtain ⟨y0, y1, y2, y3, g1, g3⟩ := hD.cells
      have hN1 : q < all.length → 1 ≤ N := fun hp => hD.pos hp
      clear hrel hD y0 y1 y2 g1 g3
      rw [row_eq2 (n := 5) (by decide)] at hRq
      have HBT : Hid (∀ N ts X, DS w A c all fin (-1) N ts q X → Calls Tryz.prog 42 #[.pointer (some ⟨w.heap.size, 0, none⟩), .int .i64 5] X (BetPost w A c all fin N ts q (signV 5 (all.drop q)))) := Lib.hid fun N ts X h => dbetween5 w A c all fin HX.out N q ts X h
      by_cases hv : signV 5 (all.drop q) = 0
      · rw [if_pos hv] at hRq
        rw [hv] at HBT
        subst hRq
        clear hv
        go_wp2_with (go_at_call 42; (with_reducible refine (HBT.out _ _ _ HSr.out).mono ?_); rintro e w2 ⟨rfl, hs2, -⟩; have HS2 := Lib.hid (hs2 rfl); clear hs2)
        go_ret
        exact ⟨q, rfl, hqle, j, rfl, HS2.out⟩
      · rw [if_neg hv, drop_one] at hRq
        have hql : q < all.length := by
          rcases Nat.lt_or_ge q all.length with hp | hp
          · exact hp
          · exact absurd (by rw [List.drop_eq_nil_of_le hp]; simp [signV, isM_nil]) hv
        have hN1' := hN1 hql
        generalize signV 5 (all.drop q) = kv at hv hRq HBT
        have q0 : (kv == 0) = false := by simpa using hv
        rcases (HDD.out (q + 1) (by omega) (by omega)).read (by omega) with ⟨l', hr, HC2⟩ | ⟨t2, p2, hr, hp2, hpl2, HC2⟩
        · rw [hr, bind_err] at hRq
          have HRq := Lib.hid hRq
          clear hr hRq
          go_wp2_with (first | (go_at_call 42; (with_reducible refine (HBT.out _ _ _ HSr.out).mono ?_); rintro e w2 ⟨rfl, -, hs2⟩; have HS2 := Lib.hid (hs2 hv); clear hs2) | (go_at_call 21; (with_reducible refine (HC2.out _ _ _ (by omega) HS2.out).mono ?_); rintro e w3 ⟨v3, rfl, hs3⟩; have HS3 := Lib.hid hs3; clear hs3) | (go_at_call 40; (with_reducible refine (HS3.out.add2 (by omega) _ _ _ _ _).mono ?_); rintro e w4 ⟨v4, rfl, hs4⟩; have HS4 := Lib.hid hs4; clear hs4))
          go_roundw
          case measure => rw [HM.out, HS4.out.meas]; omega
          case rel => exact Lib.hid (.inr ⟨v4, l', rfl, HRq.out.symm, HS4.out.relax (by omega)⟩)
        · rw [hr, bind_ok] at hRq
          have HRq := Lib.hid hRq
          clear hr hRq
          go_wp2_with (first | (go_at_call 42; (with_reducible refine (HBT.out _ _ _ HSr.out).mono ?_); rintro e w2 ⟨rfl, -, hs2⟩; have HS2 := Lib.hid (hs2 hv); clear hs2) | (go_at_call 21; (with_reducible refine (HC2.out _ _ _ (by omega) HS2.out).mono ?_); rintro e w3 ⟨j3, rfl, hs3⟩; have HS3 := Lib.hid hs3; clear hs3) | (go_at_call 40; (with_reducible refine (HS3.out.add2 (by omega) _ _ _).mono ?_); rintro e w4 ⟨j4, rfl, hs4⟩; have HS4 := Lib.hid hs4; clear hs4))
          go_roundw
          case measure => rw [HM.out, HS4.out.meas]; omega
          case rel => exact Lib.hid (.inl ⟨j4, _, p2, rfl, HS4.out.relax (by omega), by omega, HRq.out⟩)
    · have y3 := hB.cell3
      have q1 : decide (placeV l' fin < 0) = false := decide_eq_false (by have := hB.1; omega)
      have HBx := Lib.hid hB
      subst hRe
      clear hB hrel
      go_wp2_with fail
      go_ret
      exact ⟨x, rfl, HBx.out⟩
set_option maxHeartbeats 6400000 in
set_option maxRecDepth 20000 in
theorem dlevel6_any (w : World) (A : Option Addr) (c : Nat) (all : List Tok) (fin : Int) (hcx : DCx w A c all fin) (p : Nat) (hle : p ≤ all.length) (HD : ∀ q, p ≤ q → q ≤ all.length → DC w A c all fin 21 #[.pointer (some ⟨w.heap.size, 0, none⟩), .int .i64 7] q (rdX (.lv 7) (all.drop q))) :
    DC w A c all fin 21 #[.pointer (some ⟨w.heap.size, 0, none⟩), .int .i64 6] p (rdX (.lv 6) (all.drop p)) := by
  intro N ts X hN hS
  have hroom := hcx.ok.room
  generalize hR : rdX (.lv 6) (all.drop p) = R
  rw [row_eq (n := 6) (by decide)] at hR
  have HC : Hid (∀ N ts X, N ≤ 4096 → DS w A c all fin (-1) N ts p X → Calls Tryz.prog 21 #[.pointer (some ⟨w.heap.size, 0, none⟩), .int .i64 7] X (fun e X' => ∃ x, e = .returned x ∧ RowD w A c all fin 6 p R N ts x X')) := by
    rcases (HD p (Nat.le_refl _) hle).read hle with ⟨l', hr, HC⟩ | ⟨t1, p1, hr, hp1, hpl1, HC⟩
    · rw [hr, bind_err] at hR
      exact Lib.hid fun N ts X hN hS => (HC.out N ts X hN hS).mono fun e X' ⟨v, h1, h2⟩ => ⟨_, h1, .inr ⟨v, l', rfl, hR.symm, h2⟩⟩
    · rw [hr, bind_ok] at hR
      exact Lib.hid fun N ts X hN hS => (HC.out N ts X hN hS).mono fun e X' ⟨j, h1, h2⟩ => ⟨_, h1, .inl ⟨j, t1, p1, rfl, h2, by omega, hR⟩⟩
  have HS := Lib.hid hS
  obtain ⟨x0, x1, x2, x3, f1, f3⟩ := hS.cells
  have HX := Lib.hid hcx
  have HDD := Lib.hid HD
  clear hS hR hcx HD x0 x1 x2 f1 f3
  go_enter Tryz.func21, Tryz.ntmps21
  go_wp2_with (go_at_call 21; (with_reducible refine (HC.out _ _ _ hN HS.out).mono ?_); rintro e w1 ⟨v1, rfl, h1⟩; have H1 := Lib.hid h1; clear h1)
  go_loopw [6, 7, 8] (fun lv kd rt wr => Hid (RowD w A c all fin 6 p R N ts lv wr)) (fun _ _ _ wr => dmeas all.length w.heap.size wr)
  case atStart => exact H1
  case round =>
    rename World => wr
    rcases hrel.out with ⟨j, t, q, rfl, hD, hq, hRq⟩ | ⟨x, l', rfl, hRe, hB⟩
    · have HSr := Lib.hid hD
      have hqle := hD.le
      have HM : Hid (dmeas all.length w.heap.size wr = all.length + 1 - q) := Lib.hid hD.meas
      obtain ⟨y0, y1, y2, y3, g1, g3⟩ := hD.cells
      have hN1 : q < all.length → 1 ≤ N := fun hp => hD.pos hp
      clear hrel hD y0 y1 y2 g1 g3
      rw [row_eq2 (n := 6) (by decide)] at hRq
      have HBT : Hid (∀ N ts X, DS w A c all fin (-1) N ts q X → Calls Tryz.prog 42 #[.pointer (some ⟨w.heap.size, 0, none⟩), .int .i64 6] X (BetPost w A c all fin N ts q (signV 6 (all.drop q)))) := Lib.hid fun N ts X h => dbetween6 w A c all fin HX.out N q ts X h
      by_cases hv : signV 6 (all.drop q) = 0
      · rw [if_pos hv] at hRq
        rw [hv] at HBT
        subst hRq
        clear hv
        go_wp2_with (go_at_call 42; (with_reducible refine (HBT.out _ _ _ HSr.out).mono ?_); rintro e w2 ⟨rfl, hs2, -⟩; have HS2 := Lib.hid (hs2 rfl); clear hs2)
        go_ret
        exact ⟨q, rfl, hqle, j, rfl, HS2.out⟩
      · rw [if_neg hv, drop_one] at hRq
        have hql : q < all.length := by
          rcases Nat.lt_or_ge q all.length with hp | hp
          · exact hp
          · exact absurd (by rw [List.drop_eq_nil_of_le hp]; simp [signV, isM_nil]) hv
        have hN1' := hN1 hql
        generalize signV 6 (all.drop q) = kv at hv hRq HBT
        have q0 : (kv == 0) = false := by simpa using hv
        rcases (HDD.out (q + 1) (by omega) (by omega)).read (by omega) with ⟨l', hr, HC2⟩ | ⟨t2, p2, hr, hp2, hpl2, HC2⟩
        · rw [hr, bind_err] at hRq
          have HRq := Lib.hid hRq
          clear hr hRq
          go_wp2_with (first | (go_at_call 42; (with_reducible refine (HBT.out _ _ _ HSr.out).mono ?_); rintro e w2 ⟨rfl, -, hs2⟩; have HS2 := Lib.hid (hs2 hv); clear hs2) | (go_at_call 21; (with_reducible refine (HC2.out _ _ _ (by omega) HS2.out).mono ?_); rintro e w3 ⟨v3, rfl, hs3⟩; have HS3 := Lib.hid hs3; clear hs3) | (go_at_call 40; (with_reducible refine (HS3.out.add2 (by omega) _ _ _ _ _).mono ?_); rintro e w4 ⟨v4, rfl, hs4⟩; have HS4 := Lib.hid hs4; clear hs4))
          go_roundw
          case measure => rw [HM.out, HS4.out.meas]; omega
          case rel => exact Lib.hid (.inr ⟨v4, l', rfl, HRq.out.symm, HS4.out.relax (by omega)⟩)
        · rw [hr, bind_ok] at hRq
          have HRq := Lib.hid hRq
          clear hr hRq
          go_wp2_with (first | (go_at_call 42; (with_reducible refine (HBT.out _ _ _ HSr.out).mono ?_); rintro e w2 ⟨rfl, -, hs2⟩; have HS2 := Lib.hid (hs2 hv); clear hs2) | (go_at_call 21; (with_reducible refine (HC2.out _ _ _ (by omega) HS2.out).mono ?_); rintro e w3 ⟨j3, rfl, hs3⟩; have HS3 := Lib.hid hs3; clear hs3) | (go_at_call 40; (with_reducible refine (HS3.out.add2 (by omega) _ _ _).mono ?_); rintro e w4 ⟨j4, rfl, hs4⟩; have HS4 := Lib.hid hs4; clear hs4))
          go_roundw
          case measure => rw [HM.out, HS4.out.meas]; omega
          case rel => exact Lib.hid (.inl ⟨j4, _, p2, rfl, HS4.out.relax (by omega), by omega, HRq.out⟩)
    · have y3 := hB.cell3
      have q1 : decide (placeV l' fin < 0) = false := decide_eq_false (by have := hB.1; omega)
      have HBx := Lib.hid hB
      subst hRe
      clear hB hrel
      go_wp2_with fail
      go_ret
      exact ⟨x, rfl, HBx.out⟩
end Go.Proofs.YtckfcpiedainfaaGreatDoor

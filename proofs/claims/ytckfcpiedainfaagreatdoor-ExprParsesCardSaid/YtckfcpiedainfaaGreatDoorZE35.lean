/-
  WALKS over the document's reader: level at not, cmp, post; post.
-/
import Derived.Test.YtckfcpiedainfaaGreatDoorZE34
namespace Go.Proofs.YtckfcpiedainfaaGreatDoor
open Go Go.RowKit Go.Sort
set_option linter.unusedVariables false
set_option maxHeartbeats 6400000 in
set_option maxRecDepth 20000 in
theorem dlevel3_any (w : World) (A : Option Addr) (c : Nat) (all : List Tok) (fin : Int) (hcx : DCx w A c all fin) (p : Nat) (hle : p ≤ all.length) (HD4 : DC w A c all fin 21 #[.pointer (some ⟨w.heap.size, 0, none⟩), .int .i64 4] p (rdX (.lv 4) (all.drop p))) (HD3 : p < all.length → DC w A c all fin 21 #[.pointer (some ⟨w.heap.size, 0, none⟩), .int .i64 3] (p + 1) (rdX (.lv 3) (all.drop (p + 1)))) :
    DC w A c all fin 21 #[.pointer (some ⟨w.heap.size, 0, none⟩), .int .i64 3] p (rdX (.lv 3) (all.drop p)) := by
  intro N ts X hN hS
  have hroom := hcx.ok.room
  have HS := Lib.hid hS
  obtain ⟨x0, x1, x2, x3, f1, f3⟩ := hS.cells
  clear x0 x2 f3
  have hpos := fun h => hS.pos h
  clear hS
  rw [not_eq]
  have hw1 : IntKind.i64.wrap ((p : Int) + 1) = (p : Int) + 1 := IntWalk.i64_in _ (by omega)
  cases hM : isM (all.drop p) [110, 111, 116] with
  | false =>
    rw [if_neg (by decide)]
    have HI0 := DS.isH hcx p ⟨#[110, 111, 116]⟩ (b := false) hM
    rcases HD4.read hle with ⟨l', hr, HC⟩ | ⟨t1, p1, hr, hp1, hpl1, HC⟩
    · rw [hr]
      clear hr hM hcx HD4 HD3 f1 x1
      go_enter Tryz.func21, Tryz.ntmps21
      go_wp2_with (first | (go_at_call 39; (with_reducible refine (HI0.out _ _ _ HS.out).mono ?_); rintro e w1 ⟨rfl, hs⟩; have HS1 := Lib.hid hs; clear hs) | (go_at_call 21; (with_reducible refine (HC.out _ _ _ hN HS1.out).mono ?_); rintro e w2 ⟨v2, rfl, h2⟩; have H2 := Lib.hid h2; clear h2))
      go_ret
      exact ⟨v2, rfl, H2.out⟩
    · rw [hr]
      clear hr hM hcx HD4 HD3 f1 x1
      go_enter Tryz.func21, Tryz.ntmps21
      go_wp2_with (first | (go_at_call 39; (with_reducible refine (HI0.out _ _ _ HS.out).mono ?_); rintro e w1 ⟨rfl, hs⟩; have HS1 := Lib.hid hs; clear hs) | (go_at_call 21; (with_reducible refine (HC.out _ _ _ hN HS1.out).mono ?_); rintro e w2 ⟨v2, rfl, h2⟩; have H2 := Lib.hid h2; clear h2))
      go_ret
      exact ⟨p1, rfl, hpl1, v2, rfl, H2.out⟩
  | true =>
    rw [if_pos rfl, drop_one]
    have HI0 := DS.isH hcx p ⟨#[110, 111, 116]⟩ (b := true) hM
    have hp : p < all.length := by
      rcases Nat.lt_or_ge p all.length with hp | hp
      · exact hp
      · rw [List.drop_eq_nil_of_le hp] at hM; cases hM
    have h1N := hpos hp
    rcases (HD3 hp).read hp with ⟨l', hr, HC⟩ | ⟨t1, p1, hr, hp1, hpl1, HC⟩
    · rw [hr, bind_err]
      clear hr hM hcx HD4 HD3 f1 x1 hpos
      go_enter Tryz.func21, Tryz.ntmps21
      go_wp2_with (first | (go_at_call 39; (with_reducible refine (HI0.out _ _ _ HS.out).mono ?_); rintro e w1 ⟨rfl, hs⟩; have HS1 := Lib.hid hs; obtain ⟨x0, x1, x2, x4, f1, f3⟩ := hs.cells; clear hs x0 x2 f3) | (go_at_call 21; (with_reducible refine (HC.out _ _ _ (by omega) (HS1.out.inc hp)).mono ?_); rintro e w2 ⟨v2, rfl, h2⟩; have H2 := Lib.hid h2; clear h2) | (go_at_call 40; (with_reducible refine (H2.out.add1 (by omega) _ _ _ _).mono ?_); rintro e w3 ⟨v3, rfl, h3⟩; have H3 := Lib.hid h3; clear h3))
      go_ret
      exact ⟨v3, rfl, H3.out.relax (by omega)⟩
    · rw [hr, bind_ok]
      clear hr hM hcx HD4 HD3 f1 x1 hpos
      go_enter Tryz.func21, Tryz.ntmps21
      go_wp2_with (first | (go_at_call 39; (with_reducible refine (HI0.out _ _ _ HS.out).mono ?_); rintro e w1 ⟨rfl, hs⟩; have HS1 := Lib.hid hs; obtain ⟨x0, x1, x2, x4, f1, f3⟩ := hs.cells; clear hs x0 x2 f3) | (go_at_call 21; (with_reducible refine (HC.out _ _ _ (by omega) (HS1.out.inc hp)).mono ?_); rintro e w2 ⟨v2, rfl, h2⟩; have H2 := Lib.hid h2; clear h2) | (go_at_call 40; (with_reducible refine (H2.out.add1 (by omega) _ _ _).mono ?_); rintro e w3 ⟨v3, rfl, h3⟩; have H3 := Lib.hid h3; clear h3))
      go_ret
      exact ⟨p1, rfl, hpl1, v3, rfl, H3.out.relax (by omega)⟩
set_option maxHeartbeats 6400000 in
set_option maxRecDepth 20000 in
theorem dlevel7_any (w : World) (A : Option Addr) (c : Nat) (all : List Tok) (fin : Int) (hcx : DCx w A c all fin) (p : Nat) (hle : p ≤ all.length) (HP : DC w A c all fin 41 #[.pointer (some ⟨w.heap.size, 0, none⟩)] p (rdX (.lv 7) (all.drop p))) :
    DC w A c all fin 21 #[.pointer (some ⟨w.heap.size, 0, none⟩), .int .i64 7] p (rdX (.lv 7) (all.drop p)) := by
  intro N ts X hN hS
  have hroom := hcx.ok.room
  have HS := Lib.hid hS
  obtain ⟨x0, x1, x2, x3, f1, f3⟩ := hS.cells
  clear x0 x2 f3
  clear hS f1 x1
  rcases HP.read hle with ⟨l', hr, HC⟩ | ⟨t1, p1, hr, hp1, hpl1, HC⟩
  · rw [hr]
    clear hr hcx HP
    go_enter Tryz.func21, Tryz.ntmps21
    go_wp2_with (go_at_call 41; (with_reducible refine (HC.out _ _ _ hN HS.out).mono ?_); rintro e w2 ⟨v2, rfl, h2⟩; have H2 := Lib.hid h2; clear h2)
    go_ret
    exact ⟨v2, rfl, H2.out⟩
  · rw [hr]
    clear hr hcx HP
    go_enter Tryz.func21, Tryz.ntmps21
    go_wp2_with (go_at_call 41; (with_reducible refine (HC.out _ _ _ hN HS.out).mono ?_); rintro e w2 ⟨v2, rfl, h2⟩; have H2 := Lib.hid h2; clear h2)
    go_ret
    exact ⟨p1, rfl, hpl1, v2, rfl, H2.out⟩
/-- what the loop over a pair keeps -/
def PairD (w : World) (A : Option Addr) (c : Nat) (all : List Tok) (fin : Int) (p : Nat) (R : Rd) (N : Nat) (ts : List (Nat × Tr)) (v : Value) (wr : World) : Prop :=
  (∃ (j : Nat) (t : Tr) (q : Nat), v = .int .i64 (j : Int) ∧ DS w A c all fin (-1) N ((j, t) :: ts) q wr ∧ p ≤ q ∧ (if signV 4 (all.drop q) = 0 then .ok (t, all.drop q) else bindR (rdX (.lv 5) ((all.drop q).drop 1)) fun b => .ok (⟨signV 4 (all.drop q), ByteArray.empty, 0, row2 t b.1⟩, b.2)) = R) ∨ (∃ (x : Int) (l' : List Tok), v = .int .i64 x ∧ R = .error l' ∧ DBad w A c all fin (placeV l' fin) N wr)
set_option maxHeartbeats 6400000 in
set_option maxRecDepth 20000 in
theorem dlevel4_any (w : World) (A : Option Addr) (c : Nat) (all : List Tok) (fin : Int) (hcx : DCx w A c all fin) (p : Nat) (hle : p ≤ all.length) (HD : ∀ q, p ≤ q → q ≤ all.length → DC w A c all fin 21 #[.pointer (some ⟨w.heap.size, 0, none⟩), .int .i64 5] q (rdX (.lv 5) (all.drop q))) :
    DC w A c all fin 21 #[.pointer (some ⟨w.heap.size, 0, none⟩), .int .i64 4] p (rdX (.lv 4) (all.drop p)) := by
  intro N ts X hN hS
  have hroom := hcx.ok.room
  generalize hR : rdX (.lv 4) (all.drop p) = R
  rw [pair_eq] at hR
  have HC : Hid (∀ N ts X, N ≤ 4096 → DS w A c all fin (-1) N ts p X → Calls Tryz.prog 21 #[.pointer (some ⟨w.heap.size, 0, none⟩), .int .i64 5] X (fun e X' => ∃ x, e = .returned x ∧ PairD w A c all fin p R N ts x X')) := by
    rcases (HD p (Nat.le_refl _) hle).read hle with ⟨l', hr, HC⟩ | ⟨t1, p1, hr, hp1, hpl1, HC⟩
    · rw [hr, bind_err] at hR
      exact Lib.hid fun N ts X hN hS => (HC.out N ts X hN hS).mono fun e X' ⟨v, h1, h2⟩ => ⟨_, h1, .inr ⟨v, l', rfl, hR.symm, h2⟩⟩
    · rw [hr, bind_ok] at hR
      exact Lib.hid fun N ts X hN hS => (HC.out N ts X hN hS).mono fun e X' ⟨j, h1, h2⟩ => ⟨_, h1, .inl ⟨j, t1, p1, rfl, h2, by omega, hR⟩⟩
  have HS := Lib.hid hS
  obtain ⟨x0, x1, x2, x3, f1, f3⟩ := hS.cells
  have HX := Lib.hid hcx
  have HDD := Lib.hid HD
  clear hS hR hcx HD x0 x1 x2 f1 f3
  go_enter Tryz.func21, Tryz.ntmps21
  go_wp2_with (go_at_call 21; (with_reducible refine (HC.out _ _ _ hN HS.out).mono ?_); rintro e w1 ⟨v1, rfl, h1⟩; have H1 := Lib.hid h1; clear h1)
  go_loopw [6, 7, 8] (fun lv kd rt wr => Hid (PairD w A c all fin p R N ts lv wr)) (fun _ _ _ wr => dmeas all.length w.heap.size wr)
  case atStart => exact H1
  case round =>
    rename World => wr
    rcases hrel.out with ⟨j, t, q, rfl, hD, hq, hRq⟩ | ⟨x, l', rfl, hRe, hB⟩
    · have HSr := Lib.hid hD
      have hqle := hD.le
      obtain ⟨y0, y1, y2, y3, g1, g3⟩ := hD.cells
      have hN1 : q < all.length → 1 ≤ N := fun hp => hD.pos hp
      clear hrel hD y0 y1 y2 g1 g3
      have HBT : Hid (∀ N ts X, DS w A c all fin (-1) N ts q X → Calls Tryz.prog 42 #[.pointer (some ⟨w.heap.size, 0, none⟩), .int .i64 4] X (BetPost w A c all fin N ts q (signV 4 (all.drop q)))) := Lib.hid fun N ts X h => dbetween4 w A c all fin HX.out N q ts X h
      by_cases hv : signV 4 (all.drop q) = 0
      · rw [if_pos hv] at hRq
        rw [hv] at HBT
        subst hRq
        clear hv
        go_wp2_with (go_at_call 42; (with_reducible refine (HBT.out _ _ _ HSr.out).mono ?_); rintro e w2 ⟨rfl, hs2, -⟩; have HS2 := Lib.hid (hs2 rfl); clear hs2)
        go_ret
        exact ⟨q, rfl, hqle, j, rfl, HS2.out⟩
      · rw [if_neg hv, drop_one] at hRq
        have hql : q < all.length := by
          rcases Nat.lt_or_ge q all.length with hp | hp
          · exact hp
          · exact absurd (by rw [List.drop_eq_nil_of_le hp]; simp [signV, isM_nil]) hv
        have hN1' := hN1 hql
        generalize signV 4 (all.drop q) = kv at hv hRq HBT
        have q0 : (kv == 0) = false := by simpa using hv
        rcases (HDD.out (q + 1) (by omega) (by omega)).read (by omega) with ⟨l', hr, HC2⟩ | ⟨t2, p2, hr, hp2, hpl2, HC2⟩
        · rw [hr, bind_err] at hRq
          subst hRq
          clear hr
          go_wp2_with (first | (go_at_call 42; (with_reducible refine (HBT.out _ _ _ HSr.out).mono ?_); rintro e w2 ⟨rfl, -, hs2⟩; have HS2 := Lib.hid (hs2 hv); clear hs2) | (go_at_call 21; (with_reducible refine (HC2.out _ _ _ (by omega) HS2.out).mono ?_); rintro e w3 ⟨v3, rfl, hs3⟩; have HS3 := Lib.hid hs3; clear hs3) | (go_at_call 40; (with_reducible refine (HS3.out.add2 (by omega) _ _ _ _ _).mono ?_); rintro e w4 ⟨v4, rfl, hs4⟩; have HS4 := Lib.hid hs4; clear hs4))
          go_ret
          exact ⟨v4, rfl, HS4.out.relax (by omega)⟩
        · rw [hr, bind_ok] at hRq
          subst hRq
          clear hr
          go_wp2_with (first | (go_at_call 42; (with_reducible refine (HBT.out _ _ _ HSr.out).mono ?_); rintro e w2 ⟨rfl, -, hs2⟩; have HS2 := Lib.hid (hs2 hv); clear hs2) | (go_at_call 21; (with_reducible refine (HC2.out _ _ _ (by omega) HS2.out).mono ?_); rintro e w3 ⟨j3, rfl, hs3⟩; have HS3 := Lib.hid hs3; clear hs3) | (go_at_call 40; (with_reducible refine (HS3.out.add2 (by omega) _ _ _).mono ?_); rintro e w4 ⟨j4, rfl, hs4⟩; have HS4 := Lib.hid hs4; clear hs4))
          go_ret
          exact ⟨p2, rfl, hpl2, j4, rfl, HS4.out.relax (by omega)⟩
    · have y3 := hB.cell3
      have q1 : decide (placeV l' fin < 0) = false := decide_eq_false (by have := hB.1; omega)
      have HBx := Lib.hid hB
      subst hRe
      clear hB hrel
      go_wp2_with fail
      go_ret
      exact ⟨x, rfl, HBx.out⟩
end Go.Proofs.YtckfcpiedainfaaGreatDoor

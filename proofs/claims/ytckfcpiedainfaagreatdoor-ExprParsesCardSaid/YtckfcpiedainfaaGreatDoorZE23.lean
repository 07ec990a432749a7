/-
  WALKS over package expr's reader: prefix, row.
  WALKS over package expr's reader: steps.
-/
import Derived.Test.YtckfcpiedainfaaGreatDoorZE22
namespace Go.Proofs.YtckfcpiedainfaaGreatDoor
open Go Go.RowKit Go.Sort
set_option linter.unusedVariables false
theorem not_eq (l : List Tok) : rdX (.lv 3) l = if isM l [110, 111, 116] then bindR (rdX (.lv 3) (l.drop 1)) fun a => .ok (⟨29, ByteArray.empty, 0, row1 a.1⟩, a.2) else rdX (.lv 4) l := by
  conv => lhs; rw [rdX_lv (n := 3) ⟨by decide, by decide⟩]
  rfl
theorem drop_one (l : List Tok) (p : Nat) : (l.drop p).drop 1 = l.drop (p + 1) := by simp [List.drop_drop, Nat.add_comm]
/-- something that reads a level: it ends at a fault, or with a tree -/
theorem read_any {g c n p : Nat} {A : Option Addr} {all : List Tok} {fin : Int} {F : FuncId} {args : Array Value} (w : World) (H : ∀ X, RdC X g A c all fin p → Calls Tryz.prog F args X (RPost X g A c all fin (rdX (.lv n) (all.drop p)))) (hpl : p ≤ all.length) :
    (∃ l', rdX (.lv n) (all.drop p) = .error l' ∧ Hid (∀ ts X, St w g A c all fin ts p X → Calls Tryz.prog F args X (ThrewR w g (placeV l' fin)))) ∨
    (∃ t p1, rdX (.lv n) (all.drop p) = .ok (t, all.drop p1) ∧ p < p1 ∧ p1 ≤ all.length ∧ t.size + (all.length - p1) ≤ all.length - p ∧ Hid (∀ ts X, St w g A c all fin ts p X → Calls Tryz.prog F args X (GotT w g A c all fin ts t p1))) := by
  cases hr : rdX (.lv n) (all.drop p) with
  | error l' => exact .inl ⟨l', rfl, Lib.hid fun ts X hS => (H X hS.rd).mono fun e X' h => hS.threw (by rw [hr] at h; exact h)⟩
  | ok q =>
    obtain ⟨t, l1⟩ := q
    obtain ⟨p1, e1, h1, h2⟩ := rdX_place hr hpl
    have e1' : l1 = all.drop p1 := e1
    subst e1'
    have hz := rdX_size hr
    rw [List.length_drop, List.length_drop] at hz
    exact .inr ⟨t, p1, rfl, h1, h2, hz, Lib.hid fun ts X hS => (H X hS.rd).mono fun e X' h => hS.got h2 (by rw [hr] at h; exact h)⟩
set_option maxHeartbeats 1600000 in
set_option maxRecDepth 20000 in
theorem prefix_any (g c : Nat) (A : Option Addr) (all : List Tok) (fin : Int) (F : FuncId) : ∀ (m : Nat) (w : World) (p : Nat), all.length - p ≤ m → RdC w g A c all fin p → LvF g A c all fin F 4 p →
    Calls Tryz.prog 97 #[.pointer (some ⟨g, 0, none⟩), .int .i64 3, .func (.func F) #[.pointer (some ⟨g, 0, none⟩)] #[]] w (RPost w g A c all fin (rdX (.lv 3) (all.drop p))) := by
  intro m
  induction m using Nat.strongRecOn with
  | _ m ih =>
  intro w p hm h HF
  have hen := HF.enters
  have HS := Lib.hid (St.start h)
  have hle := h.rd.le
  have hroom := h.rd.room
  have hsn := sign_not (txt_drop h.rd.txt p)
  rw [not_eq]
  cases hM : isM (all.drop p) [110, 111, 116] with
  | false =>
    rw [if_neg (by decide)]
    have HSN := St.signNo (p := p) w fin A c g (m := 3) (by rw [hsn, hM]; rfl)
    rcases HF.read w (Nat.le_refl p) hle with ⟨l', hr, HC⟩ | ⟨t1, p1, hr, hp1, hpl1, hz1, HC⟩
    · rw [hr]
      clear h HF hr hsn hM ih
      go_enter Tryz.func97, Tryz.ntmps97
      go_wp2_with (first | (go_at_call 79; (with_reducible refine (HSN.out _ _ HS.out).mono ?_); rintro e w1 ⟨rfl, hS1⟩; have HS1 := Lib.hid hS1; clear hS1) | ((with_reducible refine (HC.out _ _ HS1.out).mono ?_); rintro e w2 ⟨rfl, hg2⟩))
      exact ⟨rfl, rfl, hg2⟩
    · rw [hr]
      clear h HF hr hsn hM ih
      go_enter Tryz.func97, Tryz.ntmps97
      go_wp2_with (first | (go_at_call 79; (with_reducible refine (HSN.out _ _ HS.out).mono ?_); rintro e w1 ⟨rfl, hS1⟩; have HS1 := Lib.hid hS1; clear hS1) | ((with_reducible refine (HC.out _ _ HS1.out).mono ?_); rintro e w2 ⟨b2, rfl, hS2⟩; have HS2 := Lib.hid hS2; clear hS2))
      go_ret
      exact HS2.out.done
  | true =>
    rw [if_pos rfl, drop_one]
    have hk : signK 3 (all.drop p) = some 29 := by rw [hsn, hM]; rfl
    have hpl := signK_lt hk
    have HSY := St.signYes w fin A c g hk hpl
    have e29 : ((29 : Nat) : Int) = 29 := rfl
    rw [e29] at HSY
    rcases read_any (F := 97) (args := #[.pointer (some ⟨g, 0, none⟩), .int .i64 3, .func (.func F) #[.pointer (some ⟨g, 0, none⟩)] #[]]) (n := 3) (p := p + 1) w (fun X hX => ih (m - 1) (by omega) X (p + 1) (by omega) hX (HF.later (by omega))) (by omega) with ⟨l', hr, HC⟩ | ⟨t1, p1, hr, hp1, hpl1, hz1, HC⟩
    · rw [hr, bind_err]
      clear h HF hr hsn hM ih hk e29
      go_enter Tryz.func97, Tryz.ntmps97
      go_wp2_with (first | (go_at_call 79; (with_reducible refine (HSY.out _ _ HS.out).mono ?_); rintro e w1 ⟨rfl, hS1⟩; have HS1 := Lib.hid hS1; clear hS1) | (go_at_call 97; (with_reducible refine (HC.out _ _ HS1.out).mono ?_); rintro e w2 ⟨rfl, hg2⟩))
      exact ⟨rfl, rfl, hg2⟩
    · rw [hr, bind_ok]
      clear h HF hr hsn hM ih hk e29
      go_enter Tryz.func97, Tryz.ntmps97
      go_wp2_with (first | (go_at_call 79; (with_reducible refine (HSY.out _ _ HS.out).mono ?_); rintro e w1 ⟨rfl, hS1⟩; have HS1 := Lib.hid hS1; clear hS1) | (go_at_call 80; (with_reducible refine (HS2.out.new1 (by omega) _ _).mono ?_); rintro e w3 ⟨b3, rfl, hS3⟩; have HS3 := Lib.hid hS3; clear hS3) | (go_at_call 97; (with_reducible refine (HC.out _ _ HS1.out).mono ?_); rintro e w2 ⟨b2, rfl, hS2⟩; have HS2 := Lib.hid hS2; clear hS2))
      go_ret
      exact HS3.out.done
theorem row_eq {n : Nat} (hn : n = 1 ∨ n = 2 ∨ n = 5 ∨ n = 6) (l : List Tok) : rdX (.lv n) l = bindR (rdX (.lv (n + 1)) l) fun a => rdX (.row n a.1) a.2 := by
  rw [rdX_lv (n := n) (by show 1 ≤ n ∧ n ≤ 8; omega)]
  rcases hn with rfl | rfl | rfl | rfl <;> rfl
theorem row_eq2 {n : Nat} (hn : n = 1 ∨ n = 2 ∨ n = 5 ∨ n = 6) (t : Tr) (l : List Tok) : rdX (.row n t) l = if signV n l = 0 then .ok (t, l) else bindR (rdX (.lv (n + 1)) (l.drop 1)) fun b => rdX (.row n ⟨signV n l, ByteArray.empty, 0, row2 t b.1⟩) b.2 := by
  rw [rdX_row (n := n) hn]; rfl
/-- where the reader stands, by its own cell -/
def atOf (g : Nat) (X : World) : Nat := match X.cell? ⟨g, 1, none⟩ with
  | some (.int _ k) => k.toNat
  | _ => 0
theorem St.atOf {w X : World} {g c p : Nat} {A : Option Addr} {all : List Tok} {fin : Int} {ts : List (Nat × Tr)} (h : St w g A c all fin ts p X) : atOf g X = p := by
  have := h.rd.rd.blk.cell 1
  unfold Go.Proofs.YtckfcpiedainfaaGreatDoor.atOf
  rw [this]
  rfl
set_option maxHeartbeats 3200000 in
set_option maxRecDepth 20000 in
theorem row_any (w : World) (g c p : Nat) (A : Option Addr) (all : List Tok) (fin : Int) (h : RdC w g A c all fin p) (F : FuncId) (n : Nat) (hn : n = 1 ∨ n = 2 ∨ n = 5 ∨ n = 6) (HF : LvF g A c all fin F (n + 1) p) :
    Calls Tryz.prog 56 #[.pointer (some ⟨g, 0, none⟩), .int .i64 n, .func (.func F) #[.pointer (some ⟨g, 0, none⟩)] #[]] w (RPost w g A c all fin (rdX (.lv n) (all.drop p))) := by
  have hen := HF.enters
  have HS := Lib.hid (St.start h)
  have htx := h.rd.txt
  have hroom := h.rd.room
  have hle := h.rd.le
  have HFF := Lib.hid HF
  clear h HF
  rw [row_eq hn]
  rcases HFF.out.read w (Nat.le_refl p) hle with ⟨l', hr, HC⟩ | ⟨t1, p1, hr, hp1, hpl1, hz1, HC⟩
  · rw [hr, bind_err]
    clear hr
    go_enter Tryz.func56, Tryz.ntmps56
    go_wp2_with ((with_reducible refine (HC.out _ _ HS.out).mono ?_); rintro e w1 ⟨rfl, hg1⟩)
    exact ⟨rfl, rfl, hg1⟩
  · rw [hr, bind_ok]
    dsimp only
    clear hr
    generalize hR : rdX (.row n t1) (all.drop p1) = R
    have HR0 := Lib.hid hR
    clear hR
    go_enter Tryz.func56, Tryz.ntmps56
    go_wp2_with ((with_reducible refine (HC.out _ _ HS.out).mono ?_); rintro e w1 ⟨b1, rfl, hS1⟩; have HS1 := Lib.hid hS1; clear hS1)
    go_loopw [7, 8, 9] (fun tv kk ok wr => ∃ (b : Nat) (t : Tr) (q : Nat), tv = .pointer (some ⟨b, 0, none⟩) ∧ Hid (St w g A c all fin [(b, t)] q wr ∧ p ≤ q ∧ rdX (.row n t) (all.drop q) = R ∧ t.size + (all.length - q) ≤ all.length)) (fun _ _ _ wr => all.length - atOf g wr)
    case atStart => exact ⟨b1, t1, p1, rfl, Lib.hid ⟨HS1.out, by omega, HR0.out, by omega⟩⟩
    case round =>
      obtain ⟨b, t, q, rfl, HI⟩ := hrel
      rename World => wr
      obtain ⟨hS, hq, hRq, hsz⟩ := HI.out
      have HSr := Lib.hid hS
      have hqle := hS.le
      have HAT : Hid (atOf g wr = q) := Lib.hid hS.atOf
      rw [row_eq2 hn] at hRq
      clear HI hS
      rcases sign_cases (n := n) (by omega) (txt_drop htx q) with ⟨hk, hv⟩ | ⟨k, hk, hv, hv0⟩
      · rw [if_pos hv] at hRq
        subst hRq
        have HSN := St.signNo w fin A c g hk
        clear hv hk
        go_wp2_with (go_at_call 79; (with_reducible refine (HSN.out _ _ HSr.out).mono ?_); rintro e w2 ⟨rfl, hS2⟩; have HS2 := Lib.hid hS2; clear hS2)
        go_ret
        exact HS2.out.done
      · rw [if_neg hv0, hv, drop_one] at hRq
        have hpl := signK_lt hk
        have HSY := St.signYes w fin A c g hk hpl
        rcases HFF.out.read w (show p ≤ q + 1 by omega) (by omega) with ⟨l', hr, HC2⟩ | ⟨t2, p2, hr, hp2, hpl2, hz2, HC2⟩
        · rw [hr, bind_err] at hRq
          subst hRq
          clear hr hk hv hv0
          go_wp2_with (first | (go_at_call 79; (with_reducible refine (HSY.out _ _ HSr.out).mono ?_); rintro e w2 ⟨rfl, hS2⟩; have HS2 := Lib.hid hS2; clear hS2) | ((with_reducible refine (HC2.out _ _ HS2.out).mono ?_); rintro e w3 ⟨rfl, hg3⟩))
          exact ⟨rfl, rfl, hg3⟩
        · rw [hr, bind_ok] at hRq
          have HRq := Lib.hid hRq
          clear hr hk hv hv0 hRq
          go_wp2_with (first | (go_at_call 79; (with_reducible refine (HSY.out _ _ HSr.out).mono ?_); rintro e w2 ⟨rfl, hS2⟩; have HS2 := Lib.hid hS2; clear hS2) | (go_at_call 80; (with_reducible refine (HS3.out.new2 (by omega) _ _).mono ?_); rintro e w4 ⟨b4, rfl, hS4⟩; have HS4 := Lib.hid hS4; clear hS4) | ((with_reducible refine (HC2.out _ _ HS2.out).mono ?_); rintro e w3 ⟨b3, rfl, hS3⟩; have HS3 := Lib.hid hS3; clear hS3))
          have HAT4 : Hid (atOf g w4 = p2) := Lib.hid HS4.out.atOf
          go_roundw
          case measure => rw [HAT.out, HAT4.out]; omega
          case rel => exact ⟨b4, _, p2, rfl, Lib.hid ⟨HS4.out, by omega, HRq.out, by show 1 + (t.size + t2.size) + _ ≤ _; omega⟩⟩
end Go.Proofs.YtckfcpiedainfaaGreatDoor
namespace Go.Proofs.YtckfcpiedainfaaGreatDoor
open Go Go.RowKit Go.Sort
set_option linter.unusedVariables false
/-- a step, its name or none -/
theorem step_eq (t : Tr) (l : List Tok) : rdX (.step t) l = if stepV l = 0 then .ok (t, l) else bindR (nameOfV (stepV l) (l.drop 1)) fun x => rdX (.step ⟨stepV l, x.1, 0, row1 t⟩) x.2 := by
  rw [rdX_step]
  unfold stepsV
  by_cases h0 : stepV l = 0
  · rw [if_pos h0, if_pos h0]
  rw [if_neg h0, if_neg h0]
  by_cases h1 : stepV l = 11
  · rw [if_pos h1, h1]
    rfl
  · rw [if_neg h1]
    have : namedB (stepV l) = true := by
      revert h0 h1
      unfold stepV
      repeat' split
      all_goals first | (intro h0 h1; exact absurd rfl h0) | (intro h0 h1; exact absurd rfl h1) | (intro _ _; rfl)
    unfold nameOfV
    rw [if_pos this]
theorem stepV_range (l : List Tok) (h : stepV l ≠ 0) : 1 ≤ stepV l ∧ stepV l ≤ 34 := by
  revert h
  unfold stepV
  repeat' split
  all_goals first | (intro h; exact absurd rfl h) | (intro _; decide)
theorem post_eq (l : List Tok) : rdX (.lv 7) l = bindR (rdX (.lv 8) l) fun a => rdX (.step a.1) a.2 := by
  rw [rdX_lv (n := 7) ⟨by decide, by decide⟩]; rfl
theorem step_cases {l : List Tok} (ht : TxtOk l) : (signK 7 l = none ∧ stepV l = 0) ∨ ∃ k : Nat, signK 7 l = some k ∧ stepV l = (k : Int) ∧ ¬ stepV l = 0 := by
  have h := sign_step ht
  cases hs : signK 7 l with
  | none => rw [hs] at h; exact .inl ⟨rfl, h⟩
  | some k =>
    rw [hs] at h
    have h1 : stepV l = (k : Int) := h.1
    have h2 : k ≠ 0 := h.2
    exact .inr ⟨k, rfl, h1, by rw [h1]; omega⟩
/-- the name that stands with a Kind is read: or not -/
theorem name_read (w : World) (g c p : Nat) (A : Option Addr) (all : List Tok) (fin k : Int) (h1 : 1 ≤ k) (h2 : k ≤ 34) (hpl : p ≤ all.length) :
    (∃ l', nameOfV k (all.drop p) = .error l' ∧ Hid (∀ ts X, St w g A c all fin ts p X → Calls Tryz.prog 134 #[.pointer (some ⟨g, 0, none⟩), .int .i64 k] X (ThrewR w g (placeV l' fin)))) ∨
    (∃ s p1, nameOfV k (all.drop p) = .ok (s, all.drop p1) ∧ p ≤ p1 ∧ p1 ≤ all.length ∧ Hid (∀ ts X, St w g A c all fin ts p X → Calls Tryz.prog 134 #[.pointer (some ⟨g, 0, none⟩), .int .i64 k] X (fun e X' => e = .returned (.string s) ∧ St w g A c all fin ts p1 X' ∧ X.grownBy X' (some g)))) := by
  cases hr : nameOfV k (all.drop p) with
  | error l' => exact .inl ⟨l', rfl, Lib.hid fun ts X hS => (nameOf_any X g c p A all fin hS.rd.rd hS.rd.env k h1 h2).mono fun e X' hh => hS.threw (by rw [hr] at hh; exact hh)⟩
  | ok x =>
    obtain ⟨s, l1⟩ := x
    have hx : ∃ p1, l1 = all.drop p1 ∧ p ≤ p1 ∧ p1 ≤ all.length := by
      unfold nameOfV at hr
      split at hr
      · obtain ⟨t, r, e, _, e2⟩ := nameV_ok hr
        injection e2 with _ e2
        have hl : p < all.length := by
          rcases Nat.lt_or_ge p all.length with hp | hp
          · exact hp
          · rw [List.drop_eq_nil_of_le hp] at e; cases e
        exact ⟨p + 1, by rw [e2, ← drop_one, e]; rfl, by omega, hl⟩
      · injection hr with hr
        injection hr with _ hr
        exact ⟨p, hr.symm, Nat.le_refl _, hpl⟩
    obtain ⟨p1, rfl, h3, h4⟩ := hx
    refine .inr ⟨s, p1, rfl, h3, h4, Lib.hid fun ts X hS => (nameOf_any X g c p A all fin hS.rd.rd hS.rd.env k h1 h2).mono fun e X' hh => ?_⟩
    rw [hr] at hh
    obtain ⟨e1, hw⟩ := hh
    obtain ⟨p2, e2, h5, h6⟩ := hS.rd.went hw
    obtain rfl := drop_inj h4 h5.rd.le e2
    exact ⟨e1, hS.step h5 h6, h6⟩
set_option maxHeartbeats 3200000 in
set_option maxRecDepth 20000 in
theorem steps_any (w : World) (g c p : Nat) (A : Option Addr) (all : List Tok) (fin : Int) (h : RdC w g A c all fin p) (F : FuncId) (HF : LvF g A c all fin F 8 p) :
    Calls Tryz.prog 132 #[.pointer (some ⟨g, 0, none⟩), .int .i64 7, .func (.func F) #[.pointer (some ⟨g, 0, none⟩)] #[]] w (RPost w g A c all fin (rdX (.lv 7) (all.drop p))) := by
  have hen := HF.enters
  have HS := Lib.hid (St.start h)
  have htx := h.rd.txt
  have hroom := h.rd.room
  have hle := h.rd.le
  have HFF := Lib.hid HF
  clear h HF
  rw [post_eq]
  rcases HFF.out.read w (Nat.le_refl p) hle with ⟨l', hr, HC⟩ | ⟨t1, p1, hr, hp1, hpl1, hz1, HC⟩
  · rw [hr, bind_err]
    clear hr
    go_enter Tryz.func132, Tryz.ntmps132
    go_wp2_with ((with_reducible refine (HC.out _ _ HS.out).mono ?_); rintro e w1 ⟨rfl, hg1⟩)
    exact ⟨rfl, rfl, hg1⟩
  · rw [hr, bind_ok]
    dsimp only
    clear hr
    generalize hR : rdX (.step t1) (all.drop p1) = R
    have HR0 := Lib.hid hR
    clear hR
    go_enter Tryz.func132, Tryz.ntmps132
    go_wp2_with ((with_reducible refine (HC.out _ _ HS.out).mono ?_); rintro e w1 ⟨b1, rfl, hS1⟩; have HS1 := Lib.hid hS1; clear hS1)
    go_loopw [7, 8, 9] (fun tv kk ok wr => ∃ (b : Nat) (t : Tr) (q : Nat), tv = .pointer (some ⟨b, 0, none⟩) ∧ Hid (St w g A c all fin [(b, t)] q wr ∧ p ≤ q ∧ rdX (.step t) (all.drop q) = R ∧ t.size + (all.length - q) ≤ all.length)) (fun _ _ _ wr => all.length - atOf g wr)
    case atStart => exact ⟨b1, t1, p1, rfl, Lib.hid ⟨HS1.out, by omega, HR0.out, by omega⟩⟩
    case round =>
      obtain ⟨b, t, q, rfl, HI⟩ := hrel
      rename World => wr
      obtain ⟨hS, hq, hRq, hsz⟩ := HI.out
      have HSr := Lib.hid hS
      have hqle := hS.le
      have HAT : Hid (atOf g wr = q) := Lib.hid hS.atOf
      rw [step_eq] at hRq
      clear HI hS
      rcases step_cases (txt_drop htx q) with ⟨hk, hv⟩ | ⟨k, hk, hv, hv0⟩
      · rw [if_pos hv] at hRq
        subst hRq
        have HSN := St.signNo w fin A c g hk
        clear hv hk
        go_wp2_with (go_at_call 79; (with_reducible refine (HSN.out _ _ HSr.out).mono ?_); rintro e w2 ⟨rfl, hS2⟩; have HS2 := Lib.hid hS2; clear hS2)
        go_ret
        exact HS2.out.done
      · have hrg := stepV_range _ hv0
        rw [if_neg hv0, hv, drop_one] at hRq
        rw [hv] at hrg
        have hpl := signK_lt hk
        have HSY := St.signYes w fin A c g hk hpl
        rcases name_read w g c (q + 1) A all fin (k : Int) hrg.1 hrg.2 (by omega) with ⟨l', hr, HC2⟩ | ⟨s, p2, hr, hp2, hpl2, HC2⟩
        · rw [hr, bind_err] at hRq
          subst hRq
          clear hr hk hv hv0 hrg
          go_wp2_with (first | (go_at_call 79; (with_reducible refine (HSY.out _ _ HSr.out).mono ?_); rintro e w2 ⟨rfl, hS2⟩; have HS2 := Lib.hid hS2; clear hS2) | (go_at_call 134; (with_reducible refine (HC2.out _ _ HS2.out).mono ?_); rintro e w3 ⟨rfl, hg3⟩))
          exact ⟨rfl, rfl, hg3⟩
        · rw [hr, bind_ok] at hRq
          have HRq := Lib.hid hRq
          clear hr hk hv hv0 hRq hrg
          go_wp2_with (first | (go_at_call 79; (with_reducible refine (HSY.out _ _ HSr.out).mono ?_); rintro e w2 ⟨rfl, hS2⟩; have HS2 := Lib.hid hS2; clear hS2) | (go_at_call 134; (with_reducible refine (HC2.out _ _ HS2.out).mono ?_); rintro e w3 ⟨rfl, hS3, -⟩; have HS3 := Lib.hid hS3; clear hS3) | (go_at_call 80; (with_reducible refine (HS3.out.new1 (by omega) _ _).mono ?_); rintro e w4 ⟨b4, rfl, hS4⟩; have HS4 := Lib.hid hS4; clear hS4))
          have HAT4 : Hid (atOf g w4 = p2) := Lib.hid HS4.out.atOf
          go_roundw
          case measure => rw [HAT.out, HAT4.out]; omega
          case rel => exact ⟨b4, _, p2, rfl, Lib.hid ⟨HS4.out, by omega, HRq.out, by show 1 + t.size + _ ≤ _; omega⟩⟩
end Go.Proofs.YtckfcpiedainfaaGreatDoor

/-
  LAW NamesStops: for every text and every place the law answers true. Condition: the library's five variables hold what the program's text lays (tied by the card).
-/
import Derived.Test.YtbdgbdgcjlaolaaDoorD
import Derived.Test.YtbdgbdgcjlaolaaDoorA
import Derived.Test.YtbdgbdgcjlaolaaDoorS
namespace Go.Proofs.YtbdgbdgcjlaolaaDoor.namesStops
open Go Go.ChangeShapes Go.WideShapes Go.ChangeAt Go.RowKit
set_option linter.unusedVariables false

/-- what Unquote tells, known -/
def UnqIs (w : World) (l : List UInt8) (n c : Int) (e : Ending) (w' : World) : Prop := e = .returned (.tuple #[.string ⟨l.toArray⟩, .int .i64 n, .int .i64 c]) ∧ Below w.heap.size w w'
theorem unquote_is (s : ByteArray) (t : Int) (l : List UInt8) (n c : Int) (w : World) (hs : s.size + 8 ≤ 140737488355328) (h : unq s t = (l, n, c)) : Calls Tryd.prog 20 #[.string s, .int .i64 t] w (UnqIs w l n c) := by
  have := unquote_any s t w hs
  rw [h] at this
  exact this

/-- how Unquote ends at a place within a text -/
def Good (c : ByteArray) (k n : Nat) (x : List UInt8) : Prop := ∀ d : ByteArray, d.data.toList = c.data.toList ++ x → ∃ l, unq d k = (l, ((n + x.length : Nat) : Int), 0)
theorem stops (t : ByteArray) (k : Nat) (hk : k ≤ t.size) :
    (∃ l n, unq t k = (l, ((n : Nat) : Int), 0) ∧ k + 1 < n ∧ n ≤ t.size) ∨
    (∃ n : Nat, unq t k = ([], (n : Int), 10) ∧ k ≤ n ∧ n ≤ t.size ∧ ∀ c : ByteArray, c.data.toList = t.data.toList.take n → unq c k = ([], (n : Int), 10) ∧ ∃ x ∈ endsL, Good c k n x) := by
  have hlen : (t.data.toList.drop k).length = t.size - k := by rw [List.length_drop, toList_eq]
  have htk : (t.data.toList.take k).length = k := by rw [List.length_take, toList_eq]; omega
  by_cases hq : (t.data.toList.drop k).head? = some 34
  · obtain ⟨r, hr⟩ : ∃ r, t.data.toList.drop k = 34 :: r := by
      cases h : t.data.toList.drop k with
      | nil => rw [h] at hq; cases hq
      | cons x r => rw [h] at hq; simp at hq; exact ⟨r, by rw [hq]⟩
    have hu := unq_quote hr
    rw [hr, List.length_cons] at hlen
    have hwhole : t.data.toList = t.data.toList.take k ++ 34 :: r := by rw [← hr, List.take_append_drop]
    rcases hs : scanL r with ⟨o, n⟩
    rw [hs] at hu
    cases o with
    | some l =>
      left
      have hi := scanL_is r.length r l n (Nat.le_refl _) hs
      have h1 : 1 ≤ n := by
        have := congrArg List.length hi.1
        rw [List.length_take, List.length_append] at this
        simp at this; omega
      exact ⟨l, k + 1 + n, hu, by omega, by omega⟩
    | none =>
      right
      obtain ⟨a, b, x, hx, l, e⟩ := scanL_stops r.length r n (Nat.le_refl _) hs
      refine ⟨k + 1 + n, hu, by omega, by omega, fun c hc => ?_⟩
      have hcut : t.data.toList.take (k + 1 + n) = t.data.toList.take k ++ 34 :: r.take n := by
        conv => lhs; rw [hwhole]
        rw [List.take_append, htk, List.take_take]
        have e1 : min (k + 1 + n) k = k := by omega
        have e2 : k + 1 + n - k = n + 1 := by omega
        rw [e1, e2, List.take_succ_cons]
      have hcl : c.data.toList = t.data.toList.take k ++ 34 :: r.take n := by rw [hc, hcut]
      constructor
      · have hd : c.data.toList.drop k = 34 :: r.take n := by
          rw [hcl, List.drop_append, htk, List.drop_eq_nil_of_le (by omega)]; simp
        have := unq_quote hd
        rw [a] at this
        exact this
      · refine ⟨x, hx, fun d hdl => ⟨l, ?_⟩⟩
        have hd : d.data.toList.drop k = 34 :: (r.take n ++ x) := by
          rw [hdl, hcl, List.append_assoc, List.drop_append, htk, List.drop_eq_nil_of_le (by omega)]; simp
        have := unq_quote hd
        rw [e] at this
        rw [this]
        simp; omega
  · right
    refine ⟨k, unq_other hk hq, Nat.le_refl _, hk, fun c hc => ?_⟩
    have hcs : c.size = k := by rw [← toList_eq, hc, htk]
    have hd : c.data.toList.drop k = [] := List.drop_eq_nil_of_le (by rw [toList_eq]; omega)
    constructor
    · exact unq_other (by omega) (by rw [hd]; simp)
    · refine ⟨[34, 34], by decide, fun d hdl => ⟨[], ?_⟩⟩
      have hd2 : d.data.toList.drop k = 34 :: [34] := by
        rw [hdl, List.drop_append, hd, toList_eq, hcs]; simp
      have := unq_quote hd2
      rw [scanL_quote] at this
      rw [this]
      simp; omega

/-- one end tried: what is told, and whether it serves -/
structure Tried (c : ByteArray) (k n : Nat) (x : List UInt8) (m g : Int) : Prop where
  no : ¬ (g = 0 ∧ m = ((n + x.length : Nat) : Int)) → ¬ Good c k n x
def UnqTry (w : World) (c : ByteArray) (k n : Nat) (x : List UInt8) (e : Ending) (w' : World) : Prop := ∃ (l : ByteArray) (m g : Int), e = .returned (.tuple #[.string l, .int .i64 m, .int .i64 g]) ∧ Tried c k n x m g ∧ Below w.heap.size w w'
theorem unquote_try (c d : ByteArray) (k n : Nat) (x : List UInt8) (w : World) (hs : d.size + 8 ≤ 140737488355328) (hd : d.data.toList = c.data.toList ++ x) : Calls Tryd.prog 20 #[.string d, .int .i64 k] w (UnqTry w c k n x) :=
  (unquote_any d k w hs).mono fun e w' ⟨he, hb⟩ => ⟨_, _, _, he, ⟨fun hno hg => by
    obtain ⟨l, hl⟩ := hg d hd
    exact hno (by rw [hl]; exact ⟨rfl, rfl⟩)⟩, hb⟩
theorem cat_size (a b : ByteArray) : (a ++ b).size = a.size + b.size := by rw [← toList_eq, cat_list, List.length_append, toList_eq, toList_eq]

/-- the ends tried so far serve not -/
structure Sofar2 (c : ByteArray) (k n j : Nat) : Prop where
  no : ∀ i, i < j → ∀ x, endsL[i]? = some x → ¬ Good c k n x
theorem Sofar2.step {c : ByteArray} {k n j : Nat} {x : List UInt8} (h : Sofar2 c k n j) (hx : endsL[j]? = some x) (hn : ¬ Good c k n x) : Sofar2 c k n (j + 1) := ⟨fun i hi y hy => by
  by_cases e : i = j
  · subst e; rw [hx] at hy; rw [← Option.some.inj hy]; exact hn
  · exact h.no i (by omega) y hy⟩
theorem Sofar2.over {c : ByteArray} {k n : Nat} (h : Sofar2 c k n 5) (hg : ∃ x ∈ endsL, Good c k n x) : False := by
  obtain ⟨x, hx, hg⟩ := hg
  obtain ⟨i, hi⟩ := List.getElem?_of_mem hx
  have : i < 5 := (List.getElem?_eq_some_iff.1 hi).1
  exact h.no i this x hi hg
def StopRel (w : World) (c : ByteArray) (k n : Nat) (v : Value) (wr : World) : Prop := ∃ j : Nat, j ≤ 5 ∧ v = .int .i64 j ∧ Sofar2 c k n j ∧ After w wr

set_option maxRecDepth 100000 in
set_option maxHeartbeats 3200000 in
theorem walk_ok (t : ByteArray) (k n : Nat) (l : List UInt8) (w : World) (hs : t.size ≤ 140737488351232) (hE : Env w) (hu : unq t k = (l, (n : Int), 0)) (h1 : k + 1 < n) (h2 : n ≤ t.size) :
    Calls Tryd.prog 6 #[.string t, .int .i64 k] w fun e w' => e = .returned (.bool true) ∧ Below w.heap.size w w' := by
  have HA : Hid (Calls Tryd.prog 18 #[] w (SaysB w true)) := awake_any w hE
  have HU : Hid (∀ w', Calls Tryd.prog 20 #[.string t, .int .i64 k] w' (UnqIs w' l n 0)) := fun w' => unquote_is t k l n 0 w' (by omega) hu
  have d1 : decide ((k : Int) < 0) = false := by simp
  have d2 : decide (t.size < k) = false := by simp; omega
  have d3 : ((k : Int) + 1 < (n : Int)) := by omega
  clear hE hu
  go_enter Tryd.func6, Tryd.ntmps6
  go_wp2_with fail
  refine HA.out.mono ?_
  rintro e w1 ⟨rfl, hb1⟩
  have A1 := (After.refl w).next hb1
  clear hb1
  go_wp2_with fail
  refine (HU.out _).mono ?_
  rintro e w2 ⟨rfl, hb2⟩
  have A2 := A1.next hb2
  clear hb2
  go_wp2_with fail
  all_goals go_ret
  all_goals exact ⟨by first | rfl | (simp; done) | (simp; omega), A2.below⟩

set_option maxRecDepth 100000 in
set_option maxHeartbeats 3200000 in
theorem walk_out (t : ByteArray) (k : Int) (w : World) (hs : t.size ≤ 140737488351232) (hE : Env w) (hk : k < 0 ∨ (t.size : Int) < k) :
    Calls Tryd.prog 6 #[.string t, .int .i64 k] w fun e w' => e = .returned (.bool true) ∧ Below w.heap.size w w' := by
  have HA : Hid (Calls Tryd.prog 18 #[] w (SaysB w true)) := awake_any w hE
  have hu : unq t k = ([], 0, 2) := by unfold unq; rw [if_pos hk]
  have HU : Hid (∀ w', Calls Tryd.prog 20 #[.string t, .int .i64 k] w' (UnqIs w' [] 0 2)) := fun w' => unquote_is t k [] 0 2 w' (by omega) hu
  clear hE hu
  rcases hk with hk | hk
  · go_enter Tryd.func6, Tryd.ntmps6
    go_wp2_with fail
    refine HA.out.mono ?_
    rintro e w1 ⟨rfl, hb1⟩
    have A1 := (After.refl w).next hb1
    clear hb1
    go_wp2_with fail
    refine (HU.out _).mono ?_
    rintro e w2 ⟨rfl, hb2⟩
    have A2 := A1.next hb2
    clear hb2
    go_wp2_with fail
    all_goals go_ret
    all_goals exact ⟨by simp, A2.below⟩
  · have hk' : ¬ k < 0 := by omega
    go_enter Tryd.func6, Tryd.ntmps6
    go_wp2_with fail
    refine HA.out.mono ?_
    rintro e w1 ⟨rfl, hb1⟩
    have A1 := (After.refl w).next hb1
    clear hb1
    go_wp2_with fail
    refine (HU.out _).mono ?_
    rintro e w2 ⟨rfl, hb2⟩
    have A2 := A1.next hb2
    clear hb2
    go_wp2_with fail
    all_goals go_ret
    all_goals exact ⟨by simp, A2.below⟩

set_option maxRecDepth 100000 in
set_option maxHeartbeats 3200000 in
theorem walk_stop (t : ByteArray) (k n : Nat) (w : World) (hs : t.size ≤ 140737488351232) (hE : Env w) (hu : unq t k = ([], (n : Int), 10)) (h1 : k ≤ n) (h2 : n ≤ t.size)
    (hc : ∀ c : ByteArray, c.data.toList = t.data.toList.take n → unq c k = ([], (n : Int), 10) ∧ ∃ x ∈ endsL, Good c k n x) :
    Calls Tryd.prog 6 #[.string t, .int .i64 k] w fun e w' => e = .returned (.bool true) ∧ Below w.heap.size w w' := by
  have HA : Hid (Calls Tryd.prog 18 #[] w (SaysB w true)) := awake_any w hE
  have HU : Hid (∀ w', Calls Tryd.prog 20 #[.string t, .int .i64 k] w' (UnqIs w' [] n 10)) := fun w' => unquote_is t k [] n 10 w' (by omega) hu
  obtain ⟨c, hcx⟩ : ∃ c, t.extract 0 n = c := ⟨_, rfl⟩
  have hcl : c.data.toList = t.data.toList.take n := by rw [← hcx, Lib.extract_data]; simp
  have hcs : c.size = n := by rw [← toList_eq, hcl, List.length_take, toList_eq]; omega
  obtain ⟨hc1, hc2⟩ := hc c hcl
  have HC : Hid (∀ w', Calls Tryd.prog 20 #[.string c, .int .i64 k] w' (UnqIs w' [] n 10)) := fun w' => unquote_is c k [] n 10 w' (by omega) hc1
  have HG := Lib.hid hc2
  have CS := Lib.hid hcs
  have d1 : decide ((k : Int) < 0) = false := by simp
  have d2 : decide (t.size < k) = false := by simp; omega
  have d3 : decide (n < k) = false := by simp; omega
  have d4 : decide (t.size < n) = false := by simp; omega
  have hcb : c.size ≤ 140737488351232 := by omega
  clear hE hu hc hc1 hc2 hcl hcs
  go_enter Tryd.func6, Tryd.ntmps6
  go_wp2_with fail
  refine HA.out.mono ?_
  rintro e w1 ⟨rfl, hb1⟩
  have A1 := (After.refl w).next hb1
  clear hb1
  go_wp2_with fail
  refine (HU.out _).mono ?_
  rintro e w2 ⟨rfl, hb2⟩
  have A2 := A1.next hb2
  clear hb2
  go_wp2_with fail
  refine (HC.out _).mono ?_
  rintro e w3 ⟨rfl, hb3⟩
  have A3 := A2.next hb3
  clear hb3
  go_wp2_with fail
  have A4 : After w (w3.alloc (.cells #[.string ⟨#[34]⟩, .string ⟨#[34, 34]⟩, .string ⟨#[110, 34]⟩, .string ⟨#[102, 102, 34]⟩, .string ⟨#[102, 34]⟩] 36)) := A3.next ((Below.refl _ _).alloc (Nat.le_refl _) _)
  have i0 : ∀ W, (Instr.index 36 (.agg #[.string ⟨#[34]⟩, .string ⟨#[34, 34]⟩, .string ⟨#[110, 34]⟩, .string ⟨#[102, 102, 34]⟩, .string ⟨#[102, 34]⟩]) (.int .i64 0)).run Tryd.prog W = .ok (.string ⟨#[34]⟩) W := fun _ => by kernel_rfl
  have i1 : ∀ W, (Instr.index 36 (.agg #[.string ⟨#[34]⟩, .string ⟨#[34, 34]⟩, .string ⟨#[110, 34]⟩, .string ⟨#[102, 102, 34]⟩, .string ⟨#[102, 34]⟩]) (.int .i64 1)).run Tryd.prog W = .ok (.string ⟨#[34, 34]⟩) W := fun _ => by kernel_rfl
  have i2 : ∀ W, (Instr.index 36 (.agg #[.string ⟨#[34]⟩, .string ⟨#[34, 34]⟩, .string ⟨#[110, 34]⟩, .string ⟨#[102, 102, 34]⟩, .string ⟨#[102, 34]⟩]) (.int .i64 2)).run Tryd.prog W = .ok (.string ⟨#[110, 34]⟩) W := fun _ => by kernel_rfl
  have i3 : ∀ W, (Instr.index 36 (.agg #[.string ⟨#[34]⟩, .string ⟨#[34, 34]⟩, .string ⟨#[110, 34]⟩, .string ⟨#[102, 102, 34]⟩, .string ⟨#[102, 34]⟩]) (.int .i64 3)).run Tryd.prog W = .ok (.string ⟨#[102, 102, 34]⟩) W := fun _ => by kernel_rfl
  have i4 : ∀ W, (Instr.index 36 (.agg #[.string ⟨#[34]⟩, .string ⟨#[34, 34]⟩, .string ⟨#[110, 34]⟩, .string ⟨#[102, 102, 34]⟩, .string ⟨#[102, 34]⟩]) (.int .i64 4)).run Tryd.prog W = .ok (.string ⟨#[102, 34]⟩) W := fun _ => by kernel_rfl
  go_loopw [93] (fun v wr => StopRel w c k n v wr) (fun v _ => 5 - (intOf v).toNat)
  case atStart => exact ⟨0, by omega, rfl, ⟨fun i hi => absurd hi (by omega)⟩, A4⟩
  case round =>
    obtain ⟨j, hj, rfl, hso, AR⟩ := hrel
    clear A4
    rcases (show j = 0 ∨ j = 1 ∨ j = 2 ∨ j = 3 ∨ j = 4 ∨ j = 5 by omega) with rfl | rfl | rfl | rfl | rfl | rfl
    · go_wp2_with (go_at_call 20; refine (unquote_try c (c ++ (⟨#[34]⟩ : ByteArray)) k n [34] _ (by rw [cat_size]; show c.size + 1 + 8 ≤ _; omega) (cat_list _ _)).mono ?_; rintro e w5 ⟨l', m, g, rfl, htr, hb5⟩)
      · go_ret
        exact ⟨rfl, (AR.next hb5).below⟩
      · have hm : (m == (c.size : Int) + 1) = false := by assumption
        rw [beq_eq_false_iff_ne] at hm
        exact ⟨⟨1, by omega, rfl, hso.step rfl (htr.no fun h => hm (by have := CS.out; rw [h.2]; simp; omega)), AR.next hb5⟩, by simp [intOf]⟩
      · have hg : ¬ g = 0 := by assumption
        exact ⟨⟨1, by omega, rfl, hso.step rfl (htr.no fun h => hg h.1), AR.next hb5⟩, by simp [intOf]⟩
    · go_wp2_with (go_at_call 20; refine (unquote_try c (c ++ (⟨#[34, 34]⟩ : ByteArray)) k n [34, 34] _ (by rw [cat_size]; show c.size + 2 + 8 ≤ _; omega) (cat_list _ _)).mono ?_; rintro e w5 ⟨l', m, g, rfl, htr, hb5⟩)
      · go_ret
        exact ⟨rfl, (AR.next hb5).below⟩
      · have hm : (m == (c.size : Int) + 2) = false := by assumption
        rw [beq_eq_false_iff_ne] at hm
        exact ⟨⟨2, by omega, rfl, hso.step rfl (htr.no fun h => hm (by have := CS.out; rw [h.2]; simp; omega)), AR.next hb5⟩, by simp [intOf]⟩
      · have hg : ¬ g = 0 := by assumption
        exact ⟨⟨2, by omega, rfl, hso.step rfl (htr.no fun h => hg h.1), AR.next hb5⟩, by simp [intOf]⟩
    · go_wp2_with (go_at_call 20; refine (unquote_try c (c ++ (⟨#[110, 34]⟩ : ByteArray)) k n [110, 34] _ (by rw [cat_size]; show c.size + 2 + 8 ≤ _; omega) (cat_list _ _)).mono ?_; rintro e w5 ⟨l', m, g, rfl, htr, hb5⟩)
      · go_ret
        exact ⟨rfl, (AR.next hb5).below⟩
      · have hm : (m == (c.size : Int) + 2) = false := by assumption
        rw [beq_eq_false_iff_ne] at hm
        exact ⟨⟨3, by omega, rfl, hso.step rfl (htr.no fun h => hm (by have := CS.out; rw [h.2]; simp; omega)), AR.next hb5⟩, by simp [intOf]⟩
      · have hg : ¬ g = 0 := by assumption
        exact ⟨⟨3, by omega, rfl, hso.step rfl (htr.no fun h => hg h.1), AR.next hb5⟩, by simp [intOf]⟩
    · go_wp2_with (go_at_call 20; refine (unquote_try c (c ++ (⟨#[102, 102, 34]⟩ : ByteArray)) k n [102, 102, 34] _ (by rw [cat_size]; show c.size + 3 + 8 ≤ _; omega) (cat_list _ _)).mono ?_; rintro e w5 ⟨l', m, g, rfl, htr, hb5⟩)
      · go_ret
        exact ⟨rfl, (AR.next hb5).below⟩
      · have hm : (m == (c.size : Int) + 3) = false := by assumption
        rw [beq_eq_false_iff_ne] at hm
        exact ⟨⟨4, by omega, rfl, hso.step rfl (htr.no fun h => hm (by have := CS.out; rw [h.2]; simp; omega)), AR.next hb5⟩, by simp [intOf]⟩
      · have hg : ¬ g = 0 := by assumption
        exact ⟨⟨4, by omega, rfl, hso.step rfl (htr.no fun h => hg h.1), AR.next hb5⟩, by simp [intOf]⟩
    · go_wp2_with (go_at_call 20; refine (unquote_try c (c ++ (⟨#[102, 34]⟩ : ByteArray)) k n [102, 34] _ (by rw [cat_size]; show c.size + 2 + 8 ≤ _; omega) (cat_list _ _)).mono ?_; rintro e w5 ⟨l', m, g, rfl, htr, hb5⟩)
      · go_ret
        exact ⟨rfl, (AR.next hb5).below⟩
      · have hm : (m == (c.size : Int) + 2) = false := by assumption
        rw [beq_eq_false_iff_ne] at hm
        exact ⟨⟨5, by omega, rfl, hso.step rfl (htr.no fun h => hm (by have := CS.out; rw [h.2]; simp; omega)), AR.next hb5⟩, by simp [intOf]⟩
      · have hg : ¬ g = 0 := by assumption
        exact ⟨⟨5, by omega, rfl, hso.step rfl (htr.no fun h => hg h.1), AR.next hb5⟩, by simp [intOf]⟩
    · exact (hso.over HG.out).elim

theorem walk (t : ByteArray) (p : Int) (w : World) (hs : t.size ≤ 140737488351232) (hp : (Lit.int .i64 p).wf = true) (hE : Env w) :
    Calls Tryd.prog 6 #[.string t, .int .i64 p] w fun e w' => e = .returned (.bool true) ∧ Below w.heap.size w w' := by
  by_cases h : p < 0 ∨ (t.size : Int) < p
  · exact walk_out t p w hs hE h
  · obtain ⟨k, rfl⟩ := Int.eq_ofNat_of_zero_le (show 0 ≤ p by omega)
    rcases stops t k (by omega) with ⟨l, n, hu, h1, h2⟩ | ⟨n, hu, h1, h2, hc⟩
    · exact walk_ok t k n l w hs hE hu h1 h2
    · exact walk_stop t k n w hs hE hu h1 h2 hc

theorem contract (H : Type) (enc : TypeId × Value → H) (W : World) (base : Nat) (args : Array Value) (ds gs : List (DataW H)) (before : List MemPlace)
    (hval : ∀ (j : Nat) t v, Tryd.f6.params[j]? = some t → args[j]? = some v → Value.okWide Tryd.prog W .any base t v)
    (hW : DataW.Whole enc Tryd.prog Tryd.f6.params.toList Rows.namesStopsSpec.vars false W args.toList ds gs before) (hE : Env W)
    (hz : (DataW.weightsEach Tryd.prog (Tryd.f6.params.toList ++ (OpenSpec.ofChange Rows.namesStopsSpec).bare.plain.varTypes Tryd.prog) (ds ++ gs)).all (· ≤ reachBytes) = true) :
    Calls Tryd.prog 6 args W fun e W' => ∃ v, e = .returned v ∧ Rows.namesStopsSpec.post enc Tryd.prog Tryd.f6 false true false false W args v W' := by
  have hW' := hW
  obtain ⟨p, q, hA0, hV, rfl, hfz, hnd⟩ := hW
  have hA : DataW.TrodAll enc Tryd.prog W 0 (fun _ => true) true Tryd.f6.params.toList args.toList ds p := hA0
  rw [Tryd.params6] at hA hval
  obtain ⟨v0, vs0, d0, ds0, p0, q0, hargs, rfl, rfl, h0, r0⟩ := trodAll_cons hA
  obtain ⟨v1, vs1, d1, ds1, p1, q1, rfl, rfl, rfl, h1, r1⟩ := trodAll_cons r0
  obtain ⟨rfl, rfl, rfl⟩ := trodAll_nil r1
  obtain rfl : args = #[v0, v1] := by cases args; simp_all
  obtain ⟨rfl, rfl⟩ := trodVars_none hV
  obtain ⟨a0, rfl, rfl, rfl, w0⟩ := ChangeMaps.open_string Tryd.underlying9 (hval 0 9 v0 rfl rfl) h0
  obtain ⟨a1, rfl, rfl, rfl, w1⟩ := open_int Tryd.underlying3 (hval 1 3 v1 rfl rfl) h1
  clear hA0
  simp only [List.append_nil] at hW'
  have z0 : a0.size ≤ 140737488351232 := reach_of hz (j := 0) (t := 9) rfl rfl
  refine (walk a0 a1 W z0 w1 hE).mono fun e W' ⟨he, bel⟩ => ?_
  subst he
  exact ⟨_, rfl, _, _, _, [], [], [], hW', trodAll_mk1 (shut_bool Tryd.underlying4 _), trodAll_cons_mk (ChangeMaps.shut_string Tryd.underlying9 w0) (trodAll_cons_mk (shut_int Tryd.underlying3 w1) trodAll_mk0), rfl, bel.frame _, fun h => by cases h⟩

theorem reads (os : Os) {H : Type} (enc : TypeId × Value → H) : ∃ places, DataW.whole enc Tryd.prog ((laidWorld os).forCall (fun _ _ => 0) ⟨#[], #[.string ByteArray.empty, .int .i64 0], []⟩).memory Tryd.f6.params.toList Rows.namesStopsSpec.vars false (#[.string ByteArray.empty, .int .i64 0] : Array Value).toList 8 = some ([.lit (.string []), .lit (.int .i64 0)], [], places) :=
  ⟨[], by kernel_rfl⟩

set_option maxRecDepth 100000 in
theorem lifted (os : Os) (started : os.Started) (H : Type) (enc : TypeId × Value → H) (F : Stop.Interp) :
    ReturnsInHanded {} Tryd.checked os 6 .any ((OpenSpec.ofChange Rows.namesStopsSpec).preRow enc Tryd.prog Tryd.f6 Rows.namesStopsRow.domain false Rows.namesStopsRow.laid) (((OpenSpec.ofChange Rows.namesStopsSpec).at F).post enc Tryd.prog Tryd.f6 false true false false) := by
  obtain ⟨places, hx⟩ := reads os enc
  refine returnsInHanded_of_row (C := Tryd.checked) (s := OpenSpec.ofChange Rows.namesStopsSpec) own started (by kernel_rfl) Tryd.func6
    (witness_row_at (enc := enc) (C := Tryd.checked) false (laidWorld os) #[.string ByteArray.empty, .int .i64 0] rfl (by kernel_rfl) (by kernel_rfl) (by kernel_rfl)
      (OpenSpec.preRow_of_cond 8 hx (by kernel_rfl) (fun k hk => by cases hk) (by kernel_rfl) (laid_met os _))) ?_
  intro W base args ds gs before hval hW _ _ hz hL _ _
  exact contract H enc W base args ds gs before hval hW (env_of hL) hz

theorem said : Rows.NamesStopsSaid :=
  OpenClaim.holds_of_cond 6 Tryd.f6 rfl rfl rfl rfl rfl rfl rfl ⟨rfl, rfl, rfl, rfl, rfl⟩ rfl rfl rfl rfl rfl (by kernel_rfl) Tryd.func6 (by kernel_rfl)
    (of_decide_eq_true (by kernel_rfl)) (by unfold Func.isWrapper; first | (rw [if_pos (by decide +kernel)]; kernel_rfl) | (rw [if_neg (by decide +kernel)]; exact ⟨rfl, rfl⟩))
    (fun os started H enc _ F => by rw [OpenClaim.pre_eq_preRow]; exact lifted os started H enc F)

theorem plain (f : FuncId) (fn : Func) (hf : Tryd.pinned.checked.prog.funcNamed "topiary/topiarylaw01.NamesStops" = some f) (hfn : Tryd.pinned.checked.prog.funcs[f]? = some fn) :
    true = Tryd.pinned.checked.prog.looks [] ∧ ∀ (j : Nat) t, fn.params[j]? = some t → Tryd.pinned.checked.prog.wantsStandIn t = false := by
  obtain rfl : f = 6 := Option.some.inj ((show Tryd.prog.funcNamed "topiary/topiarylaw01.NamesStops" = some 6 by kernel_rfl).symm.trans hf) |>.symm
  obtain rfl : fn = Tryd.f6 := (Option.some.inj (Tryd.func6.symm.trans hfn)).symm
  refine ⟨by kernel_rfl, fun j t ht => ?_⟩
  rw [Tryd.params6] at ht
  have hm := Array.mem_of_getElem? ht
  have ht' : t = 9 ∨ t = 3 := by simpa using hm
  rcases ht' with rfl | rfl
  · exact (show Tryd.prog.wantsStandIn 9 = false by kernel_rfl)
  · exact (show Tryd.prog.wantsStandIn 3 = false by kernel_rfl)

/-- the card of NamesStops -/
theorem card : Rows.NamesStopsCardSaid :=
  Claim7.holds_tied_plain_at .later [] _ _ _ _ said (fun _ h => by cases h) (by kernel_rfl) (fun _ h => by cases h) namesStops_row_tie rfl ⟨rfl, rfl⟩ (by kernel_rfl) rfl plain (by kernel_rfl)
end Go.Proofs.YtbdgbdgcjlaolaaDoor.namesStops

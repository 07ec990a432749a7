/-
  WALKS over package kinds: several, first, kindOf.
-/
import Derived.Test.YtjlpoigcalfdlaaDoorZA14
import Derived.Test.YtjlpoigcalfdlaaDoorShelf
namespace Go.Proofs.YtjlpoigcalfdlaaDoor
open Go Go.RowKit Go.Sort
set_option linter.unusedVariables false
theorem ones_is : ∀ m : Fin 64, (Lib.onesCount m.val == pop8 m.val) = true := by decide +kernel
theorem zeros_is : ∀ m : Fin 64, (Lib.trailingZeros8 m.val == ctz8 m.val) = true := by decide +kernel
theorem ones_eq {m : Nat} (h : m < 64) : Lib.onesCount m = pop8 m := eq_of_beq (ones_is ⟨m, h⟩)
theorem zeros_eq {m : Nat} (h : m < 64) : Lib.trailingZeros8 m = ctz8 m := eq_of_beq (zeros_is ⟨m, h⟩)
def SaysS (w : World) (b : Bool) (e : Ending) (w' : World) : Prop := e = .returned (.bool b) ∧ w' = w
theorem several_any (m : Nat) (hm : m < 64) (w : World) : Calls Tryd.prog 29 #[.int .u8 m] w (SaysS w (decide (1 < pop8 m))) := by
  have HS := Lib.hid (Tryd.bits_OnesCount8 (m : Int) w (by omega) (by omega))
  have HE : Hid (Lib.onesCount (m : Int).toNat = pop8 m) := Lib.hid (by rw [Int.toNat_natCast]; exact ones_eq hm)
  go_enter Tryd.func29, Tryd.ntmps29
  rw [HE.out] at HS
  generalize pop8 m = q at HS ⊢
  go_wp2_with (go_at_call 42; refine HS.out.mono ?_; rintro e w2 ⟨rfl, rfl⟩)
  go_ret
  exact ⟨by simp; omega, rfl⟩
theorem first_any (m : Nat) (hm : m < 64) (w : World) : Calls Tryd.prog 30 #[.int .u8 m] w (SaysI w (ctz8 m)) := by
  have HS := Lib.hid (Tryd.bits_TrailingZeros8 (m : Int) w (by omega) (by omega))
  have HE : Hid (Lib.trailingZeros8 (m : Int).toNat = ctz8 m) := Lib.hid (by rw [Int.toNat_natCast]; exact zeros_eq hm)
  go_enter Tryd.func30, Tryd.ntmps30
  rw [HE.out] at HS
  go_wp2_with (go_at_call 43; refine HS.out.mono ?_; rintro e w2 ⟨rfl, rfl⟩)
  go_ret
  exact saysI rfl rfl
theorem binds_any (k : Int) (w : World) : Calls Tryd.prog 41 #[.int .i64 k] w (SaysS w (bindsB k)) := by
  by_cases h1 : k = 31
  · subst h1
    go_enter Tryd.func41, Tryd.ntmps41
    go_wp2_with fail
    go_ret
    exact ⟨rfl, rfl⟩
  have b1 : (k == 31) = false := by rw [beq_eq_false_iff_ne]; exact h1
  by_cases h2 : k = 32
  · subst h2
    go_enter Tryd.func41, Tryd.ntmps41
    go_wp2_with fail
    go_ret
    exact ⟨rfl, rfl⟩
  have b2 : (k == 32) = false := by rw [beq_eq_false_iff_ne]; exact h2
  by_cases h3 : k = 33
  · subst h3
    go_enter Tryd.func41, Tryd.ntmps41
    go_wp2_with fail
    go_ret
    exact ⟨rfl, rfl⟩
  have b3 : (k == 33) = false := by rw [beq_eq_false_iff_ne]; exact h3
  by_cases h4 : k = 34
  · subst h4
    go_enter Tryd.func41, Tryd.ntmps41
    go_wp2_with fail
    go_ret
    exact ⟨rfl, rfl⟩
  have b4 : (k == 34) = false := by rw [beq_eq_false_iff_ne]; exact h4
  have HB : Hid (bindsB k = false) := Lib.hid (by
    unfold bindsB
    cases hd : (decide (31 ≤ k) && decide (k ≤ 34)) with
    | false => rfl
    | true => simp only [Bool.and_eq_true, decide_eq_true_eq] at hd; omega)
  clear h1 h2 h3 h4
  go_enter Tryd.func41, Tryd.ntmps41
  go_wp2_with fail
  go_ret
  exact ⟨by rw [HB.out]; rfl, rfl⟩
def setC (r : List Nat) : List Value := r.map fun (m : Nat) => Value.int .u8 m
def rowsV : Array Value := (rowsL.flatMap setC).toArray
/-- what package kinds' variable holds -/
structure KindEnv (w : World) : Prop where
  rows : ∃ t fr, w.heap[0]? = some (.cells rowsV t fr)
theorem KindEnv.below {w w' : World} (h : KindEnv w) (hb : Below w.heap.size w w') : KindEnv w' := by
  obtain ⟨t, fr, h2⟩ := h
  exact ⟨t, fr, (hb.block _ (heap_lt h2)).trans h2⟩
theorem rowsL_ok : (rowsL.all fun r => r.length == 4 && r.all fun m => decide (m < 64)) = true := by decide +kernel
theorem rowsL_len : rowsL.length = 35 := rfl
theorem row_ok {k : Nat} (hk : k < 35) : ∃ a b c d, rowsL[k]? = some [a, b, c, d] ∧ a < 64 ∧ b < 64 ∧ c < 64 ∧ d < 64 := by
  obtain ⟨r, hr⟩ : ∃ r, rowsL[k]? = some r := ⟨rowsL[k]'(by rw [rowsL_len]; exact hk), List.getElem?_eq_getElem _⟩
  have h := List.all_eq_true.1 rowsL_ok r (List.mem_of_getElem? hr)
  simp only [Bool.and_eq_true, beq_iff_eq, List.all_eq_true, decide_eq_true_eq] at h
  obtain ⟨h1, h2⟩ := h
  match r, h1 with
  | [a, b, c, d], _ => exact ⟨a, b, c, d, hr, h2 a (by simp), h2 b (by simp), h2 c (by simp), h2 d (by simp)⟩
theorem flat4 : ∀ (l : List (List Nat)), (∀ r ∈ l, r.length = 4) → ∀ (k : Nat) (r : List Nat), l[k]? = some r → ∀ j u, j < 4 → (setC r)[j]? = some u → (l.flatMap setC)[k * 4 + j]? = some u
  | [], _, k, r, h, _, _, _, _ => by simp at h
  | x :: l, hl, 0, r, h, j, u, hj, hu => by
    simp at h; subst h
    have : (setC x).length = 4 := by unfold setC; rw [List.length_map]; exact hl x (by simp)
    rw [List.flatMap_cons, List.getElem?_append_left (by omega), Nat.zero_mul, Nat.zero_add]; exact hu
  | x :: l, hl, k + 1, r, h, j, u, hj, hu => by
    have h1 : (setC x).length = 4 := by unfold setC; rw [List.length_map]; exact hl x (by simp)
    rw [List.flatMap_cons, List.getElem?_append_right (by omega), h1, show (k + 1) * 4 + j - 4 = k * 4 + j from by omega]
    exact flat4 l (fun r hr => hl r (by simp [hr])) k r (by simpa using h) j u hj hu
theorem kind_cell {w : World} (h : KindEnv w) {k : Nat} {r : List Nat} (hk : rowsL[k]? = some r) {j : Nat} {u : Value} (hj : j < 4) (hu : (setC r)[j]? = some u) : w.cell? ⟨0, k * 4 + j, none⟩ = some u := by
  obtain ⟨t, fr, hg⟩ := h.rows
  rw [cell_of_row w _ _ _ t fr hg]
  unfold rowsV
  rw [List.getElem?_toArray]
  exact flat4 rowsL (fun r hr => by have := List.all_eq_true.1 rowsL_ok r hr; simp at this; exact this.1) k r hk j u hj hu
end Go.Proofs.YtjlpoigcalfdlaaDoor

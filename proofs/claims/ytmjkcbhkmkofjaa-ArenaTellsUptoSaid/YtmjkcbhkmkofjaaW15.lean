/-
  WALKS: two lists are the same.
-/
import Derived.Test.YtmjkcbhkmkofjaaW14
namespace Go.Proofs.Ytmjkcbhkmkofjaa
open Go Go.RowKit Go.Sort
set_option linter.unusedVariables false

/-- two lists, place by place -/
def eqL {α : Type} (e : α → α → Bool) : List α → List α → Bool
  | [], [] => true
  | x :: l, y :: m => e x y && eqL e l m
  | _, _ => false
theorem eqL_len {α : Type} (e : α → α → Bool) : ∀ {l m : List α}, l.length ≠ m.length → eqL e l m = false
  | [], [], h => absurd rfl h
  | [], _ :: _, _ => rfl
  | _ :: _, [], _ => rfl
  | x :: l, y :: m, h => by
    rw [eqL, eqL_len e (l := l) (m := m) (by simpa using h), Bool.and_false]
theorem eqL_refl {α : Type} {e : α → α → Bool} (h : ∀ x, e x x = true) : ∀ l : List α, eqL e l l = true
  | [] => rfl
  | x :: l => by rw [eqL, h, eqL_refl h l]; rfl
theorem eqL_eq {α : Type} {e : α → α → Bool} (h : ∀ x y, e x y = true → x = y) : ∀ {l m : List α}, eqL e l m = true → l = m
  | [], [], _ => rfl
  | x :: l, y :: m, k => by
    rw [eqL, Bool.and_eq_true] at k
    rw [h x y k.1, eqL_eq h k.2]
def intE (x y : Int) : Bool := x == y
def propE (x y : ByteArray × ByteArray) : Bool := (x.1.toList == y.1.toList) && (x.2.toList == y.2.toList)
def refE (x y : ByteArray × Int) : Bool := (x.1.toList == y.1.toList) && (x.2 == y.2)
theorem drew_below {B : Nat} {w wr : World} (h : ∃ q, wr = w.drewN q) : Below B w wr := by
  obtain ⟨q, rfl⟩ := h; exact below_drewN (Below.refl _ _) q
theorem drew_more {w wr : World} (h : ∃ q, wr = w.drewN q) (n : Nat) : ∃ q, wr.drewN n = w.drewN q := by
  obtain ⟨q, rfl⟩ := h; exact ⟨q + n, World.drewN_drewN _ _ _⟩
theorem intE_refl (x : Int) : intE x x = true := by simp [intE]
theorem propE_refl (x : ByteArray × ByteArray) : propE x x = true := by simp [propE]
theorem refE_refl (x : ByteArray × Int) : refE x x = true := by simp [refE]

set_option maxHeartbeats 1600000 in
theorem refInts_any (w : World) (lo hi lo' hi' : Nat) (A A' : Option Addr) (n c n' c' : Nat) (l m : List Int) (h1 : Row w lo hi 1 A n c (intCells l)) (h2 : Row w lo' hi' 1 A' n' c' (intCells m)) :
    Calls Try.prog 33 #[.slice A n c, .slice A' n' c'] w (DrewV w (.bool (eqL intE l m))) := by
  have hl1 : l.length = n := by have := h1.1; rw [intCells_length] at this; omega
  have hl2 : m.length = n' := by have := h2.1; rw [intCells_length] at this; omega
  have HL1 := Lib.hid hl1
  have HL2 := Lib.hid hl2
  have hc := h1.2.2.1
  have hnc := h1.2.1
  have hc' := h2.2.2.1
  have hnc' := h2.2.1
  unfold maxLen at hc hc'
  clear hl1 hl2
  by_cases hne : n = n'
  · have d0 : ((n : Int) != (n' : Int)) = false := by rw [bne_eq_false_iff_eq]; omega
    subst hne
    go_enter Try.func33, Try.ntmps33
    go_wp2_with fail
    go_loopw [5] (fun i wr => ∃ k : Nat, k ≤ n ∧ i = .int .i64 k ∧ Hid (∃ q, wr = w.drewN q) ∧ Hid (eqL intE l m = eqL intE (l.drop k) (m.drop k))) (fun i _ => n - (intOf i).toNat)
    case atStart => exact ⟨0, by omega, rfl, Lib.hid ⟨0, rfl⟩, Lib.hid rfl⟩
    case round =>
      obtain ⟨k, hk, rfl, HQ, HK⟩ := hrel
      by_cases hlt : k < n
      · obtain ⟨b1, o1, rfl, _, _, hcells1⟩ := (h1.below (drew_below HQ.out)).at_ (by omega)
        obtain ⟨b2, o2, rfl, _, _, hcells2⟩ := (h2.below (drew_below HQ.out)).at_ (by omega)
        obtain ⟨x, hx⟩ : ∃ x, l[k]? = some x := ⟨l[k]'(by have := HL1.out; omega), List.getElem?_eq_getElem _⟩
        obtain ⟨y, hy⟩ : ∃ y, m[k]? = some y := ⟨m[k]'(by have := HL2.out; omega), List.getElem?_eq_getElem _⟩
        have q1 := hcells1 k _ (intCells_get hx)
        have q2 := hcells2 k _ (intCells_get hy)
        have HD : Hid (eqL intE l m = (intE x y && eqL intE (l.drop (k + 1)) (m.drop (k + 1)))) := Lib.hid (by
          obtain ⟨hl1, e1⟩ := List.getElem?_eq_some_iff.1 hx
          obtain ⟨hl2, e2⟩ := List.getElem?_eq_some_iff.1 hy
          rw [HK.out, List.drop_eq_getElem_cons hl1, List.drop_eq_getElem_cons hl2, e1, e2]; rfl)
        clear HK hx hy hcells1 hcells2
        by_cases e1 : x = y
        · have d1 : (x != y) = false := by rw [bne_eq_false_iff_eq]; exact e1
          have HZ : Hid (eqL intE l m = eqL intE (l.drop (k + 1)) (m.drop (k + 1))) := Lib.hid (by rw [HD.out]; simp [intE, e1])
          clear HD e1
          go_wp2_with fail
          go_quiet (fail)
          go_wp2_with fail
          go_roundw
          case rel => exact ⟨k + 1, by omega, by go_num, Lib.hid (drew_more HQ.out nq), HZ⟩
          case measure => simp [intOf]; omega
        · have d1 : (x != y) = true := by rw [bne_iff_ne]; exact e1
          have HZ : Hid (eqL intE l m = false) := Lib.hid (by rw [HD.out]; simp [intE, e1])
          clear HD e1
          go_wp2_with fail
          go_quiet (fail)
          go_wp2_with fail
          go_ret
          exact ⟨ret_bool HZ.out.symm, drew_more HQ.out nq⟩
      · have HZ : Hid (eqL intE l m = true) := Lib.hid (by rw [HK.out, List.drop_eq_nil_of_le (by have := HL1.out; omega), List.drop_eq_nil_of_le (by have := HL2.out; omega)]; rfl)
        clear HK
        go_wp2_with fail
        go_ret
        exact ⟨ret_bool HZ.out.symm, HQ.out⟩
  · have d0 : ((n : Int) != (n' : Int)) = true := by rw [bne_iff_ne]; omega
    have HZ : Hid (eqL intE l m = false) := Lib.hid (eqL_len _ (by have := HL1.out; have := HL2.out; omega))
    clear hne
    go_enter Try.func33, Try.ntmps33
    go_wp2_with fail
    go_ret
    exact ⟨ret_bool HZ.out.symm, 0, rfl⟩



end Go.Proofs.Ytmjkcbhkmkofjaa

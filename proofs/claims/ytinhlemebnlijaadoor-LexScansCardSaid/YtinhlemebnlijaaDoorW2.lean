/-
  WALKS over package names: addForm, Quote.
-/
import Derived.Test.YtinhlemebnlijaaDoorW1
import Derived.Test.YtinhlemebnlijaaDoorB
namespace Go.Proofs.YtinhlemebnlijaaDoor
open Go Go.RowKit
set_option linter.unusedVariables false
theorem cells_new (w : World) (news : List UInt8) (cs : Array Value) (T : TypeId) (hc : cs.toList = news.map enc) : ∀ j u, (news.map enc)[j]? = some u → (w.alloc (.cells cs T)).cell? ((⟨w.heap.size, 0, none⟩ : Addr).add j) = some u := by
  intro j u h
  have e : (⟨w.heap.size, 0, none⟩ : Addr).add j = ⟨w.heap.size, j, none⟩ := by simp [Addr.add]; exact fun h => h.symm
  rw [e, World.cell?_alloc_at _ _ _ _ rfl, ← Array.getElem?_toList, hc, h]
theorem cells_newd (w : World) (news : List UInt8) (cs : Array Value) (T : TypeId) (hc : cs.toList = news.map enc) : ∀ j u, (news.map enc)[j]? = some u → (w.alloc (.cells cs T)).drew.cell? ((⟨w.heap.size, 0, none⟩ : Addr).add j) = some u :=
  cells_new w news cs T hc
theorem and_15 (c : UInt8) : bits BinOp.and IntKind.u8 (c.toNat : Int) 15 = (c.toNat : Int) % 16 := by
  revert c; apply all256; decide +kernel
theorem hex_at (k : Nat) (h : k < 16) : (⟨#[48, 49, 50, 51, 52, 53, 54, 55, 56, 57, 97, 98, 99, 100, 101, 102]⟩ : ByteArray)[k]'h = hexOf k := by
  have : ∀ k : Fin 16, (⟨#[48, 49, 50, 51, 52, 53, 54, 55, 56, 57, 97, 98, 99, 100, 101, 102]⟩ : ByteArray)[k.val]'k.isLt = hexOf k.val := by decide +kernel
  exact this ⟨k, h⟩
theorem toNat_q (n : Nat) : ((n : Int) / 16).toNat = n / 16 := by omega
theorem toNat_r (n : Nat) : ((n : Int) % 16).toNat = n % 16 := by omega
/-- what addForm leaves -/
def Added (B : Nat) (w : World) (l : List UInt8) (e : Ending) (w' : World) : Prop := ∃ v', e = .returned v' ∧ ownB w' B v' l ∧ Below B w w'
set_option maxHeartbeats 400000 in
theorem addForm_any (B : Nat) (v : Value) (l : List UInt8) (c : UInt8) (w : World) (hown : ownB w B v l) (hB : B ≤ w.heap.size) (hroom : l.length + 4 ≤ 140737488355328) :
    Calls Tryd.prog 61 #[v, .int .u8 c.toNat] w (Added B w (l ++ form c)) := by
  have hlt := c.toNat_lt
  by_cases c1 : c.toNat = 34 ∨ c.toNat = 92
  · have hf : form c = [92, c] := by unfold form; rw [if_pos c1]
    rw [hf]
    clear hf
    rcases c1 with c1 | c1
    · have d1 : ((c.toNat : Int) == 34) = true := by rw [beq_iff_eq]; omega
      clear c1
      go_enter Tryd.func61, Tryd.ntmps61
      go_wp2_with (at_builtin; refine app_bytes rfl _ _ rfl B v l rfl (hown.alloc _) ⟨w.heap.size, 0, none⟩ 2 2 [92, c] rfl rfl (cells_new w _ _ _ rfl) (by omega) (by simp; omega) ?_; intro v' w1 hown1 hb1)
      go_ret
      exact ⟨_, rfl, hown1, ((Below.refl _ _).alloc hB _).trans hb1⟩
    · have d1 : ((c.toNat : Int) == 92) = true := by rw [beq_iff_eq]; omega
      have d2 : ((c.toNat : Int) == 34) = false := by rw [beq_eq_false_iff_ne]; omega
      clear c1
      go_enter Tryd.func61, Tryd.ntmps61
      go_wp2_with (at_builtin; refine app_bytes rfl _ _ rfl B v l rfl (hown.alloc _) ⟨w.heap.size, 0, none⟩ 2 2 [92, c] rfl rfl (cells_new w _ _ _ rfl) (by omega) (by simp; omega) ?_; intro v' w1 hown1 hb1)
      go_ret
      exact ⟨_, rfl, hown1, ((Below.refl _ _).alloc hB _).trans hb1⟩
  · have d1 : ((c.toNat : Int) == 34) = false := by rw [beq_eq_false_iff_ne]; omega
    have d2 : ((c.toNat : Int) == 92) = false := by rw [beq_eq_false_iff_ne]; omega
    by_cases c2 : c.toNat = 10
    · have hf : form c = [92, 110] := by unfold form; rw [if_neg c1, if_pos c2]
      rw [hf]
      have d3 : ((c.toNat : Int) == 10) = true := by rw [beq_iff_eq]; omega
      clear hf c1 c2
      go_enter Tryd.func61, Tryd.ntmps61
      go_wp2_with (at_builtin; refine app_bytes rfl _ _ rfl B v l rfl (hown.alloc _) ⟨w.heap.size, 0, none⟩ 2 2 [92, 110] rfl rfl (cells_new w _ _ _ rfl) (by omega) (by simp; omega) ?_; intro v' w1 hown1 hb1)
      go_ret
      exact ⟨_, rfl, hown1, ((Below.refl _ _).alloc hB _).trans hb1⟩
    · have d3 : ((c.toNat : Int) == 10) = false := by rw [beq_eq_false_iff_ne]; omega
      cases hn : numB (c.toNat : Int) with
      | false =>
        have hf : form c = [c] := by unfold form; rw [if_neg c1, if_neg c2, hn]; rfl
        rw [hf]
        have HN := Lib.hid hn
        clear hf c1 c2 hn
        go_enter Tryd.func61, Tryd.ntmps61
        go_wp2_with (first | (at_builtin; refine app_bytes rfl _ _ rfl B v l rfl (hown.alloc _) ⟨w.heap.size, 0, none⟩ 1 1 [c] rfl rfl (cells_new w _ _ _ rfl) (by omega) (by simp; omega) ?_; intro v' w1 hown1 hb1) | (go_at_call 56; refine (numbered_no _ _ HN.out).mono ?_; rintro e w' ⟨rfl, rfl⟩))
        go_ret
        exact ⟨_, rfl, hown1, ((Below.refl _ _).alloc hB _).trans hb1⟩
      | true =>
        have hf : form c = [92, 120, hexOf (c.toNat / 16), hexOf (c.toNat % 16)] := by unfold form; rw [if_neg c1, if_neg c2, hn]; rfl
        rw [hf]
        have HN := Lib.hid hn
        have q0 : 0 ≤ (c.toNat : Int) / 16 := by omega
        have q1 : (c.toNat : Int) / 16 < 16 := by omega
        have r0 : 0 ≤ (c.toNat : Int) % 16 := by omega
        have r1 : (c.toNat : Int) % 16 < 16 := by omega
        have e15 := and_15 c
        clear hf c1 c2 hn
        go_enter Tryd.func61, Tryd.ntmps61
        go_wp2_with (go_at_call 56; refine (numbered_yes _ _ HN.out).mono ?_; rintro e w' ⟨rfl, rfl⟩)
        go_region_law (refine step_app_bytes rfl _ _ rfl B v l rfl (hown.alloc _) ⟨w.heap.size, 0, none⟩ 4 4 [92, 120, hexOf (c.toNat / 16), hexOf (c.toNat % 16)] rfl rfl (cells_newd w _ _ _ (by simp only [toNat_q, toNat_r]; rw [hex_at _ (by omega), hex_at _ (by omega)]; rfl)) (by omega) (by go_simp; omega) ?_; intro v' w1 hown1 hb1)
        all_goals go_wp2
        all_goals go_ret
        all_goals exact ⟨_, rfl, hown1, (((Below.refl _ _).alloc hB _).drew).trans hb1⟩
end Go.Proofs.YtinhlemebnlijaaDoor

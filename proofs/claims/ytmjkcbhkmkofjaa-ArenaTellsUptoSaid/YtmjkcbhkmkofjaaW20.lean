/-
  WALKS: great, check, New; and laws for a call and an alloc as steps of a region that draws its order.
-/
import Derived.Test.YtmjkcbhkmkofjaaW10
import Derived.Test.YtmjkcbhkmkofjaaW14
import Derived.Test.YtmjkcbhkmkofjaaW19
namespace Go.Proofs.Ytmjkcbhkmkofjaa
open Go Go.RowKit Go.Sort
set_option linter.unusedVariables false
attribute [local go_sem ↓] Go.wp_at_zero Go.wp_at_succ

theorem step_call {P : Program} (w : World) {ops : Array Oper} {o : Oper} {a : Act} {K : Act → World → Prop} {Q : Exit → Act → World → Prop} {E : Prop} (hgd : o.guard = none) (f : FuncId) (vs : Array Value)
    (hrun : (execOp a.eval o).run P w = .ok (.enter f vs) w) {R : Ending → World → Prop} (h : Calls P f vs w R)
    (hK : ∀ e w', R e w' → ∃ u, e = .returned u ∧ K (a.put o.dst u) w') : if Region.wanted o (yielded ops a.tmps) = true then Oper.wp P o a w K Q else E := by
  have hw : Region.wanted o (yielded ops a.tmps) = true := by simp [Region.wanted, hgd]
  rw [if_pos hw]
  unfold Oper.wp
  rw [hrun]
  refine h.mono ?_
  intro e w' hR
  obtain ⟨u, rfl, hk⟩ := hK e w' hR
  exact hk
theorem step_alloc {P : Program} (w : World) {ops : Array Oper} {o : Oper} {a : Act} {K : Act → World → Prop} {Q : Exit → Act → World → Prop} {E : Prop} (hgd : o.guard = none) (T : TypeId) (cs : Array Value)
    (hrun : (execOp a.eval o).run P w = .ok (.value (.pointer (some ⟨w.heap.size, 0, none⟩))) (w.alloc (.cells cs T)))
    (hK : ∀ g w', Blk w' g T cs → Below w.heap.size w w' → w.heap.size ≤ g → K (a.put o.dst (.pointer (some ⟨g, 0, none⟩))) w') : if Region.wanted o (yielded ops a.tmps) = true then Oper.wp P o a w K Q else E := by
  have hw : Region.wanted o (yielded ops a.tmps) = true := by simp [Region.wanted, hgd]
  rw [if_pos hw]
  unfold Oper.wp
  rw [hrun]
  exact hK _ _ (Blk.new w T cs) (below_more (Below.refl _ _) _) (Nat.le_refl _)

theorem great_any (w : World) (next : Int) (A : Option Addr) (n c : Nat) (hc : c ≤ maxLen) (hn : n ≤ c) (v : Bool) (hv : decide (300 < (n : Int)) = v) :
    Calls Try.prog 6 #[.agg #[.int .i64 next, .slice A n c]] w (Ret w (.bool v)) := by
  unfold maxLen at hc
  have HV := Lib.hid hv
  have hM := Blk.new w 24 #[.int .i64 next, .slice A n c]
  go_enter Try.func6, Try.ntmps6
  go_wp2_with fail
  go_ret
  exact ret_b rfl rfl (below_box _ _)


end Go.Proofs.Ytmjkcbhkmkofjaa

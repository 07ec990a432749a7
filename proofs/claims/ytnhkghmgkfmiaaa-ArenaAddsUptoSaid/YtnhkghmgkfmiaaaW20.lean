/-
  WALKS: great, check, New; and laws for a call and an alloc as steps of a region that draws its order.
-/
import Derived.Test.YtnhkghmgkfmiaaaW10
import Derived.Test.YtnhkghmgkfmiaaaW14
import Derived.Test.YtnhkghmgkfmiaaaW19
namespace Go.Proofs.Ytnhkghmgkfmiaaa
open Go Go.RowKit Go.Sort
set_option linter.unusedVariables false
attribute [local go_sem ↓] Go.wp_at_zero Go.wp_at_succ

theorem step_call {P : Program} (w : World) {ops : Array Oper} {o : Oper} {a : Act} {K : Act → World → Prop} {Q : Exit → Act → World → Prop} {E : Prop} (hgd : o.guard = none) (f : FuncId) (vs : Array Value)
    (hrun : (execOp a.eval o).run P w = .ok (.enter f vs) w) {R : Ending → World → Prop} (h : Calls P f vs w R)
    (hK : ∀ e w', R e w' → ∃ u, e = .returned u ∧ K (a.put o.dst u) w') : if Region.wanted o (yielded ops a.tmps) = true then Oper.wp P o a w K Q else E := by
  have hw : Region.wanted o (yielded ops a.tmps) = true := by simp [Region.wanted, hgd]
  rw [if_pos hw]
  unfold Oper.wp
  rw [hrun]
  refine h.mono ?_
  intro e w' hR
  obtain ⟨u, rfl, hk⟩ := hK e w' hR
  exact hk
theorem step_alloc {P : Program} (w : World) {ops : Array Oper} {o : Oper} {a : Act} {K : Act → World → Prop} {Q : Exit → Act → World → Prop} {E : Prop} (hgd : o.guard = none) (T : TypeId) (cs : Array Value)
    (hrun : (execOp a.eval o).run P w = .ok (.value (.pointer (some ⟨w.heap.size, 0, none⟩))) (w.alloc (.cells cs T)))
    (hK : ∀ g w', Blk w' g T cs → Below w.heap.size w w' → w.heap.size ≤ g → K (a.put o.dst (.pointer (some ⟨g, 0, none⟩))) w') : if Region.wanted o (yielded ops a.tmps) = true then Oper.wp P o a w K Q else E := by
  have hw : Region.wanted o (yielded ops a.tmps) = true := by simp [Region.wanted, hgd]
  rw [if_pos hw]
  unfold Oper.wp
  rw [hrun]
  exact hK _ _ (Blk.new w T cs) (below_more (Below.refl _ _) _) (Nat.le_refl _)

theorem great_any (w : World) (next : Int) (A : Option Addr) (n c : Nat) (hc : c ≤ maxLen) (hn : n ≤ c) (v : Bool) (hv : decide (300 < (n : Int)) = v) :
    Calls Try.prog 8 #[.agg #[.int .i64 next, .slice A n c]] w (Ret w (.bool v)) := by
  unfold maxLen at hc
  have HV := Lib.hid hv
  have hM := Blk.new w 24 #[.int .i64 next, .slice A n c]
  go_enter Try.func8, Try.ntmps8
  go_wp2_with fail
  go_ret
  exact ret_b rfl rfl (below_box _ _)

set_option maxHeartbeats 1600000 in
theorem lawCheck_any (w : World) (hi : Nat) (next : Int) (A : Option Addr) (n c : Nat) (nds : List Nd) (h : NodesIn w 0 hi A n c nds) (hh : hi ≤ w.heap.size) :
    Calls Try.prog 10 #[.agg #[.int .i64 next, .slice A n c]] w (Ret w (.int .i64 (checkV next nds))) := by
  have HR := Lib.hid (refRight_any (w.alloc (.cells #[.int .i64 next, .slice A n c] 24)) hi next A n c nds (h.below ((below_box _ _).mono hh)) (by simp; omega))
  clear h
  cases hr : rightB next nds with
  | true =>
    have HX : Hid (checkV next nds = 0) := Lib.hid (by unfold checkV; rw [hr]; rfl)
    rw [hr] at HR
    clear hr
    go_enter Try.func10, Try.ntmps10
    go_wp2_with (go_at_call 53; go_must (refine HR.out.mono ?_; rintro e w2 ⟨rfl, hb2⟩; have HB2 := Lib.hid (below_box w _ |>.trans (hb2.mono (by simp))); clear hb2))
    go_ret
    exact ret_i HX.out rfl HB2.out
  | false =>
    have HX : Hid (checkV next nds = 29) := Lib.hid (by unfold checkV; rw [hr]; rfl)
    rw [hr] at HR
    clear hr
    go_enter Try.func10, Try.ntmps10
    go_wp2_with (go_at_call 53; go_must (refine HR.out.mono ?_; rintro e w2 ⟨rfl, hb2⟩; have HB2 := Lib.hid (below_box w _ |>.trans (hb2.mono (by simp))); clear hb2))
    go_ret
    exact ret_i HX.out rfl HB2.out

set_option maxHeartbeats 1600000 in
theorem new_any (w : World) : Calls Try.prog 17 #[] w (Ret w (.agg #[.int .i64 1, .slice none 0 0])) := by
  go_enter Try.func17, Try.ntmps17
  go_wp2_with fail
  (try rw [Exit.noGoto_ret])
  (try simp only [Exit.inBlock, Exit.then])
  have hres : Try.f17.results = #[.cell 0 24] := by kernel_rfl
  refine bodyPost_ret (v := .agg #[.int .i64 1, .slice none 0 0]) ?hr rfl ?_
  case hr =>
    simp only [results, hres]
    go_simp
  exact ret_mk rfl (below_more (Below.refl _ _) _)
end Go.Proofs.Ytnhkghmgkfmiaaa

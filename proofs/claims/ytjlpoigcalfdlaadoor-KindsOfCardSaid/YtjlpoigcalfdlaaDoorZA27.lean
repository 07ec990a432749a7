/-
  WALKS: kinds.Of; the document's Same of two that are the same.
-/
import Derived.Test.YtjlpoigcalfdlaaDoorZA26
namespace Go.Proofs.YtjlpoigcalfdlaaDoor
open Go Go.RowKit Go.Sort
set_option linter.unusedVariables false
set_option maxRecDepth 20000 in
set_option maxHeartbeats 3200000 in
theorem of_any (w : World) (hi : Nat) (A : Option Addr) (n c : Nat) (l : List (EN × Sl)) (hl : ExIn w hi ⟨A, n, c⟩ l) (hh : hi ≤ w.heap.size) (ev : ExprEnv w) (kv : KindEnv w) :
    Calls Tryd.prog 6 #[.agg #[.slice A n c]] w (OfIs w (ofV (eachV (nodesOf l)))) := by
  have HX0 : Hid (Blk (w.alloc (.cells #[.slice A n c] 24)) w.heap.size 24 #[.slice A n c]) := Lib.hid (Blk.new _ _ _)
  have HB0 : Hid (Below w.heap.size w (w.alloc (.cells #[.slice A n c] 24))) := Lib.hid (below_of_alloc _)
  have HE0 : Hid (∀ Y, Below w.heap.size w Y → Calls Tryd.prog 7 #[.agg #[.slice A n c]] Y (EachIs Y (eachV (nodesOf l)))) := Lib.hid fun Y hY => each_any Y hi A n c l (hl.below (hY.mono hh)) (Nat.le_trans hh hY.size) (ev.below hY) (kv.below hY)
  have HPL : Hid ((eachV (nodesOf l)).2.2 = 0 → 0 < (eachV (nodesOf l)).1.length) := Lib.hid eachV_ok
  clear hl ev kv
  generalize eachV (nodesOf l) = R at HE0 HPL ⊢
  obtain ⟨ks, at_, x⟩ := R
  generalize hr : ofV (ks, at_, x) = r
  have HR := Lib.hid hr
  clear hr
  simp only at HPL
  go_enter Tryd.func6, Tryd.ntmps6
  go_upto_region 1 with (fail)
  generalize w.alloc (.cells #[.slice A n c] 24) = W0 at HX0 HB0 ⊢
  have cx := (HX0.out.cell 0).trans (show _ = some (.slice A n c) from rfl)
  have HE := Lib.hid (HE0.out W0 HB0.out)
  by_cases h0 : x = 0
  · subst h0
    have hpos := HPL.out rfl
    obtain ⟨v, hv⟩ : ∃ v, ks[0]? = some v := ⟨ks[0]'hpos, List.getElem?_eq_getElem _⟩
    have HV : Hid (r = (v, 0, 0)) := Lib.hid (by rw [← HR.out]; unfold ofV; rw [if_pos rfl, List.getD_eq_getElem?_getD, hv]; rfl)
    have HV0 := Lib.hid hv
    clear hv
    go_upto_region 2 with (go_at_call 7; refine HE.out.mono ?_; rintro e w2 ⟨A2, m2, c2, rfl, hm2, ho2, hb2⟩; have HO2 := Lib.hid ho2; have HB2 := Lib.hid (HB0.out.trans (hb2.mono HB0.out.size)); have HM2 := Lib.hid hm2; clear hb2 ho2 hm2)
    have hm0 : 0 < m2 := by have := HM2.out; omega
    obtain ⟨g, rfl, hg1, hg2⟩ := own_someI HO2.out HM2.out.symm hm0
    unfold maxLen at hg2
    have v0 := own_atI (a := 0) HO2.out HM2.out.symm HV0.out
    go_wp2_with fail
    go_ret3
    exact ofIs HV.out HB2.out
  · have HV : Hid (r = (0, at_, x)) := Lib.hid (by rw [← HR.out]; unfold ofV; rw [if_neg h0])
    have b0 : (x != 0) = true := by rw [bne_iff_ne]; exact h0
    clear h0
    go_upto_region 2 with (go_at_call 7; refine HE.out.mono ?_; rintro e w2 ⟨A2, m2, c2, rfl, hm2, ho2, hb2⟩; have HB2 := Lib.hid (HB0.out.trans (hb2.mono HB0.out.size)); clear hb2 ho2 hm2)
    go_wp2_with fail
    go_ret3
    exact ofIs HV.out HB2.out
end Go.Proofs.YtjlpoigcalfdlaaDoor

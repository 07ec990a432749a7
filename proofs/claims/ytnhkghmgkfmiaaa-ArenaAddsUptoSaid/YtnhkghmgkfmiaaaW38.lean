/-
  WALKS: a node that is added comes just where the document says.
-/
import Derived.Test.YtnhkghmgkfmiaaaW37
import Derived.Test.YtnhkghmgkfmiaaaW21
namespace Go.Proofs.Ytnhkghmgkfmiaaa
open Go Go.RowKit Go.Sort
set_option linter.unusedVariables false
attribute [local go_sem ↓] Go.wp_at_zero Go.wp_at_succ

/-- what Add answers: Next, the number, the error, the nodes -/
def addR (next : Int) (nds : List Nd) (parent : Int) (role : ByteArray) (at_ : Int) (con : ByteArray) : Int × Int × Int × List Nd :=
  if addE next nds parent role at_ con = 0 then (next + 1, next, 0, addL next nds parent role con (admV next nds parent role at_ 1 1).1.toNat) else (0, 0, addE next nds parent role at_ con, [])
/-- .. as it lies in memory -/
def AddIs (w : World) (r : Int × Int × Int × List Nd) (e : Ending) (w' : World) : Prop :=
  ∃ (A : Option Addr) (m c : Nat), e = .returned (.tuple #[.agg #[.int .i64 r.1, .slice A m c], .int .i64 r.2.1, .int .i64 r.2.2.1]) ∧ NodesIn w' 0 w'.heap.size A m c r.2.2.2 ∧ Below w.heap.size w w'
theorem add_is {w w' : World} {next : Int} {nds : List Nd} {parent : Int} {role : ByteArray} {at_ : Int} {con : ByteArray} {e : Ending} (h : AddPost w next nds parent role at_ con e w') : AddIs w (addR next nds parent role at_ con) e w' := by
  obtain ⟨hb, ⟨h1, h2⟩ | ⟨h1, A, c, l, h2, h3, h4⟩⟩ := h
  · have e1 : addR next nds parent role at_ con = (0, 0, addE next nds parent role at_ con, []) := by unfold addR; rw [if_neg h1]
    rw [e1]
    exact ⟨none, 0, 0, h2, NodesIn.nil _ _ _, hb⟩
  · have e1 : addR next nds parent role at_ con = (next + 1, next, 0, addL next nds parent role con (admV next nds parent role at_ 1 1).1.toNat) := by unfold addR; rw [if_pos h1]
    rw [e1]
    refine ⟨A, nds.length + 1, c, h2, ?_, hb⟩
    obtain ⟨A', c', hv⟩ := own_form h3.own
    have hl : l.length = nds.length + 1 := by injection hv with _ hm _; exact hm.symm
    have := (h3.nodesIn hl).mono (Nat.zero_le _) (Nat.le_refl _)
    rw [h4] at this
    exact this

set_option maxRecDepth 100000 in
set_option maxHeartbeats 6400000 in
theorem adds_any (w : World) (hi : Nat) (next parent at_ : Int) (role con : ByteArray) (A : Option Addr) (n c : Nat) (nds : List Nd) (h : NodesIn w 0 hi A n c nds) (hh : hi ≤ w.heap.size) (hs : role.size ≤ maxLen) (hs2 : con.size ≤ maxLen) (hf : ∀ nd ∈ nds, Fits 1 nd) :
    Calls Try.prog 4 #[.agg #[.int .i64 next, .slice A n c], .int .i64 parent, .string role, .int .i64 at_, .string con] w (Ret w (.bool true)) := by
  have hc := h.2.2.1
  have hnc := h.2.1
  have HM0 := Lib.hid (M1.start w next A n c)
  by_cases hg : 300 < n
  · have HG : Hid (∀ X, Calls Try.prog 8 #[.agg #[.int .i64 next, .slice A n c]] X (Ret X (.bool true))) := Lib.hid fun X => great_any X next A n c hc hnc true (by rw [decide_eq_true_eq]; omega)
    clear h hf hc hnc hg
    go_enter Try.func4, Try.ntmps4
    go_wp2_with (go_at_call 8; go_must (refine (HG.out _).mono ?_; rintro e w1 ⟨rfl, hb1⟩; have HM1 := Lib.hid (HM0.out.after hb1); clear hb1))
    go_ret
    exact ret_b rfl rfl HM1.out.bel
  · have HG : Hid (∀ X, Calls Try.prog 8 #[.agg #[.int .i64 next, .slice A n c]] X (Ret X (.bool false))) := Lib.hid fun X => great_any X next A n c hc hnc false (by rw [decide_eq_false_iff_not]; omega)
    have HLe : Hid (∀ X, Below w.heap.size w X → Calls Try.prog 11 #[.agg #[.int .i64 next, .slice A n c]] X fun e w' => ∃ A1 c1 l, e = .returned (.agg #[.int .i64 next, .slice A1 n c1]) ∧ Below X.heap.size X w' ∧ LentAt w' X.heap.size A1 n c1 nds l) := Lib.hid fun X hX => lent_any X hi next A n c nds (h.below (hX.mono hh)) (Nat.le_trans hh hX.size) (by omega) hf
    obtain ⟨R, hR⟩ : ∃ R, addR next nds parent role at_ con = R := ⟨_, rfl⟩
    have HRf : Hid (∀ X, Below w.heap.size w X → Calls Try.prog 19 #[.agg #[.int .i64 next, .slice A n c], .int .i64 parent, .string role, .int .i64 at_, .string con] X (AddIs X R)) := Lib.hid fun X hX =>
      (refAdd_any X hi next parent at_ role con A n c nds (h.below (hX.mono hh)) (Nat.le_trans hh hX.size) hs hs2 hf).mono fun e w' he => hR ▸ add_is he
    have HAr : Hid (∀ X A1 c1 l B, LentAt X B A1 n c1 nds l → Calls Try.prog 18 #[.agg #[.int .i64 next, .slice A1 n c1], .int .i64 parent, .string role, .int .i64 at_, .string con] X (AddIs X R)) := Lib.hid fun X A1 c1 l B hl =>
      (add_any X X.heap.size next parent at_ role con A1 n c1 nds (hl.nodesIn.mono (Nat.zero_le _) (Nat.le_refl _)) (Nat.le_refl _) hs hs2 hf).mono fun e w' he => hR ▸ add_is he
    have HKe : Hid (∀ X, Below w.heap.size w X → ∀ A1 c1 l B, LentAt X B A1 n c1 nds l → Calls Try.prog 16 #[.agg #[.int .i64 next, .slice A1 n c1], .agg #[.int .i64 next, .slice A n c]] X (Ret X (.bool true))) := Lib.hid fun X hX A1 c1 l B hl => kept_any X B hi next A1 A n c1 n c nds l hl (h.below (hX.mono hh)) (Nat.le_trans hh hX.size)
    have HSa : Hid (∀ X Ax mx cx Ay my cy, NodesIn X 0 X.heap.size Ax mx cx R.2.2.2 → NodesIn X 0 X.heap.size Ay my cy R.2.2.2 → Calls Try.prog 15 #[.agg #[.int .i64 R.1, .slice Ax mx cx], .agg #[.int .i64 R.1, .slice Ay my cy]] X (Ret X (.bool true))) := Lib.hid fun X Ax mx cx Ay my cy h1 h2 => by
      rw [← mdE_refl R.1 R.2.2.2]; exact refSame_any X X.heap.size _ _ Ax Ay mx cx my cy _ _ h1 h2 (Nat.le_refl _)
    obtain ⟨rx, rid, re, rn⟩ := R
    clear h hf hc hnc hg hR
    go_enter Try.func4, Try.ntmps4
    go_upto_region 3 with (go_at_call 8; go_must (refine (HG.out _).mono ?_; rintro e w1 ⟨rfl, hb1⟩; have hm1 := HM0.out.after hb1; have m10 := hm1.a.cell 0; have m11 := hm1.a.cell 1; simp at m10 m11; have HM1 := Lib.hid hm1; clear hm1 hb1))
    go_upto_region 4 with (go_at_call 11; go_must (refine (HLe.out _ HM1.out.bel).mono ?_; rintro e w2 ⟨A1, c1, l, rfl, hb2, hl2⟩; have HM2 := Lib.hid (HM1.out.after hb2); have HL2 := Lib.hid hl2; clear hb2 hl2))
    have HM3 := Lib.hid (HM2.out.after (below_more (Below.refl _ _) (.cells #[.int .i64 next, .slice A1 n c1] 24)))
    have HL3 := Lib.hid (HL2.out.after (below_more (Below.refl _ _) (.cells #[.int .i64 next, .slice A1 n c1] 24)))
    have HB3 := Lib.hid (Blk.new w2 24 #[.int .i64 next, .slice A1 n c1])
    generalize w2.alloc (.cells #[.int .i64 next, .slice A1 n c1] 24) = X3 at HM3 HL3 HB3 ⊢
    generalize w2.heap.size = g1 at HB3 ⊢
    have k30 := HB3.out.cell 0
    have k31 := HB3.out.cell 1
    simp at k30 k31
    go_upto_region 5 with (go_at_call 18; go_must (refine (HAr.out _ _ _ _ _ HL3.out).mono ?_; rintro e w4 ⟨A4, n4, c4, rfl, hn4, hb4⟩; have HM4 := Lib.hid (HM3.out.after hb4); have HL4 := Lib.hid (HL3.out.after hb4); have HB4 := Lib.hid (HB3.out.after hb4); have HN4 := Lib.hid hn4; clear hb4 hn4))
    have HM5 := Lib.hid (HM4.out.after (below_more (Below.refl _ _) (.cells #[.int .i64 rx, .slice A4 n4 c4] 24)))
    have HL5 := Lib.hid (HL4.out.after (below_more (Below.refl _ _) (.cells #[.int .i64 rx, .slice A4 n4 c4] 24)))
    have HB5 := Lib.hid (HB4.out.after (below_more (Below.refl _ _) (.cells #[.int .i64 rx, .slice A4 n4 c4] 24)))
    have HN5 := Lib.hid ((HN4.out.below (below_more (Below.refl _ _) (.cells #[.int .i64 rx, .slice A4 n4 c4] 24))).mono (Nat.le_refl _) (below_more (Below.refl w4.heap.size w4) (.cells #[.int .i64 rx, .slice A4 n4 c4] 24)).size)
    have HC5 := Lib.hid (Blk.new w4 24 #[.int .i64 rx, .slice A4 n4 c4])
    generalize w4.alloc (.cells #[.int .i64 rx, .slice A4 n4 c4] 24) = X5 at HM5 HL5 HB5 HN5 HC5 ⊢
    generalize w4.heap.size = g2 at HC5 ⊢
    have k50 := HM5.out.a.cell 0
    have k51 := HM5.out.a.cell 1
    simp at k50 k51
    clear k30 k31
    go_upto_region 6 with (go_at_call 19; go_must (refine (HRf.out _ HM5.out.bel).mono ?_; rintro e w6 ⟨A6, n6, c6, rfl, hn6, hb6⟩; have HM6 := Lib.hid (HM5.out.after hb6); have HL6 := Lib.hid (HL5.out.after hb6); have HB6 := Lib.hid (HB5.out.after hb6); have HC6 := Lib.hid (HC5.out.after hb6); have HN6 := Lib.hid ((HN5.out.below hb6).mono (Nat.le_refl _) hb6.size); have HO6 := Lib.hid hn6; clear hb6 hn6))
    have hbq := below_more (Below.refl w6.heap.size w6) (.cells #[.int .i64 rx, .slice A6 n6 c6] 24)
    have HM7 := Lib.hid (HM6.out.after hbq)
    have HL7 := Lib.hid (HL6.out.after hbq)
    have HB7 := Lib.hid (HB6.out.after hbq)
    have HC7 := Lib.hid (HC6.out.after hbq)
    have HN7 := Lib.hid ((HN6.out.below hbq).mono (Nat.le_refl _) hbq.size)
    have HO7 := Lib.hid ((HO6.out.below hbq).mono (Nat.le_refl _) hbq.size)
    have HD7 := Lib.hid (Blk.new w6 24 #[.int .i64 rx, .slice A6 n6 c6])
    clear hbq
    generalize w6.alloc (.cells #[.int .i64 rx, .slice A6 n6 c6] 24) = X7 at HM7 HL7 HB7 HN7 HC7 HO7 HD7 ⊢
    generalize w6.heap.size = g3 at HD7 ⊢
    have k70 := HC7.out.cell 0
    have k71 := HC7.out.cell 1
    have k72 := HD7.out.cell 0
    have k73 := HD7.out.cell 1
    simp at k70 k71 k72 k73
    clear k50 k51
    go_wp2_with (first | (go_at_call 15; go_must (refine (HSa.out _ _ _ _ _ _ _ HN7.out HO7.out).mono ?_; rintro e w8 ⟨rfl, hb8⟩; have hm8 := HM7.out.after hb8; have hb8' := HB7.out.after hb8; have k80 := hm8.a.cell 0; have k81 := hm8.a.cell 1; have k82 := hb8'.cell 0; have k83 := hb8'.cell 1; simp at k80 k81 k82 k83; have HM8 := Lib.hid hm8; have HL8 := Lib.hid (HL7.out.after hb8); clear hb8 hm8 hb8')) | (go_at_call 16; go_must (refine (HKe.out _ HM8.out.bel _ _ _ _ HL8.out).mono ?_; rintro e w9 ⟨rfl, hb9⟩; have HM9 := Lib.hid (HM8.out.after hb9); clear hb9)))
    go_ret
    exact ret_b (by simp) rfl HM9.out.bel
end Go.Proofs.Ytnhkghmgkfmiaaa

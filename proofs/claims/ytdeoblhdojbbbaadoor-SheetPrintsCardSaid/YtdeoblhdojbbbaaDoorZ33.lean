/-
  LAW SheetPrints, walked.
-/
import Derived.Test.YtdeoblhdojbbbaaDoorZ32
namespace Go.Proofs.YtdeoblhdojbbbaaDoor
open Go Go.RowKit
set_option linter.unusedVariables false
theorem little_fits {nds : List Nd} (h : Little nds) : ∀ nd ∈ nds, Fits 1 nd := fun nd hnd => by
  have := h.2 nd hnd
  exact ⟨by omega, by omega, by omega⟩
theorem ownA_form {X : World} {G m s : Nat} {ov : Value} {T : TypeId} {xs : List Value} (h : X.ownsRow G T s ov m xs) : ∃ Ao co, ov = .slice Ao m co := by
  rcases h.2 with ⟨rfl, h0⟩ | ⟨g, cap, cur, rfl, _⟩
  · exact ⟨none, 0, by rw [h0]⟩
  · exact ⟨_, _, rfl⟩
set_option maxRecDepth 20000 in
set_option maxHeartbeats 6400000 in
theorem sheetPrints_law (w : World) (hi : Nat) (next : Int) (A : Option Addr) (n c : Nat) (nds : List Nd) (h : NodesIn w 0 hi A n c nds) (hh : hi ≤ w.heap.size) (hw : ∀ nd ∈ nds, nd.props.length ≤ 140737488355328 ∧ nd.refs.length ≤ 140737488355328 ∧ nd.kids.length ≤ 140737488355328) (hE : TabEnv w) :
    Calls Tryd.prog 3 #[.agg #[.int .i64 next, .slice A n c]] w (Ret w (.bool true)) := by
  have HH := Lib.hid h
  have HE := Lib.hid hE
  have HM0 : Hid (Blk (w.alloc (.cells #[.int .i64 next, .slice A n c] 24)) w.heap.size 24 #[.int .i64 next, .slice A n c]) := Lib.hid (Blk.new _ _ _)
  have HB0 : Hid (Below w.heap.size w (w.alloc (.cells #[.int .i64 next, .slice A n c] 24))) := Lib.hid ((Below.refl _ _).alloc (Nat.le_refl _) _)
  have HL : Hid (nds.length = n) := Lib.hid h.1
  have hc := h.2.2.1
  have hnc := h.2.1
  unfold maxLen at hc
  have HWS := Lib.hid hw
  clear h hw hE
  go_enter Tryd.func3, Tryd.ntmps3
  go_upto_region 1 with (fail)
  generalize w.alloc (.cells #[.int .i64 next, .slice A n c] 24) = W0 at HM0 HB0 ⊢
  have a0 := (HM0.out.cell 0).trans (show _ = some (.int .i64 next) from rfl)
  have a1 := (HM0.out.cell 1).trans (show _ = some (.slice A n c) from rfl)
  have HG := Lib.hid (great3_any W0 hi next A n c nds (HH.out.below (HB0.out.mono hh)) (Nat.le_trans hh HB0.out.size) HWS.out)
  cases hg : greatB nds with
  | true =>
    unfold GreatP at HG
    rw [hg] at HG
    clear hg
    go_wp2_with (go_at_call 4; refine HG.out.mono ?_; rintro e w2 ⟨rfl, hb2⟩; have HB2 := Lib.hid (HB0.out.trans (hb2.mono HB0.out.size)); clear hb2)
    go_ret
    exact ⟨rfl, HB2.out⟩
  | false =>
    have hli := little_is hg
    unfold GreatP at HG
    rw [hg] at HG
    have HLI := Lib.hid hli
    have hn6 : n ≤ 4096 := by have := hli.1; have := HL.out; omega
    clear hg hli
    go_upto_region 3 with (go_at_call 4; refine HG.out.mono ?_; rintro e w2 ⟨rfl, hb2⟩; have HB2 := Lib.hid (HB0.out.trans (hb2.mono HB0.out.size)); have HM2 := Lib.hid (HM0.out.after hb2); clear hb2)
    clear a0 a1 HG
    have a0 := (HM2.out.cell 0).trans (show _ = some (.int .i64 next) from rfl)
    have a1 := (HM2.out.cell 1).trans (show _ = some (.slice A n c) from rfl)
    have HT := Lib.hid (twin_any w2 hi next A n c nds (HH.out.below (HB2.out.mono hh)) (Nat.le_trans hh HB2.out.size) hn6 (little_fits HLI.out))
    go_upto_region 4 with (go_at_call 5; refine HT.out.mono ?_; rintro e w3 ⟨ov, l, rfl, ho3, hl3, hb3⟩; obtain ⟨Ao, co, rfl⟩ := ownA_form ho3.own; have HB3 := Lib.hid (HB2.out.trans (hb3.mono HB2.out.size)); have HM3 := Lib.hid (HM2.out.after hb3); have HO3 := Lib.hid ho3; have HL3 := Lib.hid hl3; clear hb3 ho3 hl3)
    have HN3 : Hid (l.length = n) := Lib.hid (by rw [← HL.out, ← HL3.out, List.length_map])
    rw [HN3.out] at HO3 ⊢
    have HMo : Hid (Blk (w3.alloc (.cells #[.int .i64 next, .slice Ao n co] 24)) w3.heap.size 24 #[.int .i64 next, .slice Ao n co]) := Lib.hid (Blk.new _ _ _)
    have HB4 := Lib.hid ((Below.refl w3.heap.size w3).alloc (Nat.le_refl _) (.cells #[.int .i64 next, .slice Ao n co] 24))
    have HNo : Hid (∀ X, Below w3.heap.size w3 X → NodesIn X 0 X.heap.size Ao n co nds) := Lib.hid fun X hX => by
      have := (HO3.out.after hX).nodesIn HN3.out
      rw [HL3.out] at this
      exact this.mono (Nat.zero_le _) (Nat.le_refl _)
    have HNm : Hid (∀ X, Below w.heap.size w X → NodesIn X 0 X.heap.size A n c nds) := Lib.hid fun X hX => (HH.out.below (hX.mono hh)).mono (Nat.le_refl _) (Nat.le_trans hh hX.size)
    clear HO3 HT a0 a1
    generalize w3.alloc (.cells #[.int .i64 next, .slice Ao n co] 24) = X4 at HMo HB4 ⊢
    have HM4 := Lib.hid (HM3.out.after HB4.out)
    have HBW4 := Lib.hid (HB3.out.trans (HB4.out.mono HB3.out.size))
    generalize w3.heap.size = g3 at HMo ⊢
    have c0 := (HMo.out.cell 0).trans (show _ = some (.int .i64 next) from rfl)
    have c1 := (HMo.out.cell 1).trans (show _ = some (.slice Ao n co) from rfl)
    have HP1 := Lib.hid (print_any X4 X4.heap.size next Ao n co nds (HNo.out X4 HB4.out) (Nat.le_refl _) (HE.out.below HBW4.out))
    have HP2 : Hid (∀ X, Below w.heap.size w X → Calls Tryd.prog 7 #[.agg #[.int .i64 next, .slice A n c]] X (PrintP X (printV next nds))) := Lib.hid fun X hX => refPrint_any X hi next A n c nds (HH.out.below (hX.mono hh)) (Nat.le_trans hh hX.size) (fun nd hnd => by have := HLI.out.2 nd hnd; omega)
    have HSM : Hid (∀ X, Below w.heap.size w X → Below w3.heap.size w3 X → Calls Tryd.prog 8 #[.agg #[.int .i64 next, .slice Ao n co], .agg #[.int .i64 next, .slice A n c]] X (Ret X (.bool true))) := Lib.hid fun X hX hX3 => by
      have := refSame_any X X.heap.size next next Ao A n co n c nds nds (HNo.out X hX3) (HNm.out X hX) (Nat.le_refl _)
      rw [mdE_refl] at this
      exact this
    unfold PrintP at HP1 HP2
    generalize printV next nds = r at HP1 HP2
    obtain ⟨rt, rx⟩ := r
    simp only at HP1 HP2
    generalize (⟨rt.toArray⟩ : ByteArray) = RT at HP1 HP2
    go_upto_region 5 with (go_at_call 6; refine HP1.out.mono ?_; rintro e X5 ⟨rfl, hb5⟩; have HB5 := Lib.hid (HB4.out.trans (hb5.mono HB4.out.size)); have HBW5 := Lib.hid (HBW4.out.trans (hb5.mono HBW4.out.size)); have HM5 := Lib.hid (HM4.out.after hb5); have HO5 := Lib.hid (HMo.out.after hb5); clear hb5)
    clear c0 c1
    have a0 := (HM5.out.cell 0).trans (show _ = some (.int .i64 next) from rfl)
    have a1 := (HM5.out.cell 1).trans (show _ = some (.slice A n c) from rfl)
    go_upto_region 6 with (go_at_call 7; refine (HP2.out _ HBW5.out).mono ?_; rintro e X6 ⟨rfl, hb6⟩; have HB6 := Lib.hid (HB5.out.trans (hb6.mono HB5.out.size)); have HBW6 := Lib.hid (HBW5.out.trans (hb6.mono HBW5.out.size)); have HM6 := Lib.hid (HM5.out.after hb6); have HO6 := Lib.hid (HO5.out.after hb6); clear hb6)
    clear a0 a1
    have a0 := (HM6.out.cell 0).trans (show _ = some (.int .i64 next) from rfl)
    have a1 := (HM6.out.cell 1).trans (show _ = some (.slice A n c) from rfl)
    have c0 := (HO6.out.cell 0).trans (show _ = some (.int .i64 next) from rfl)
    have c1 := (HO6.out.cell 1).trans (show _ = some (.slice Ao n co) from rfl)
    go_wp2_with (go_at_call 8; refine (HSM.out _ HBW6.out HB6.out).mono ?_; rintro e X7 ⟨rfl, hb7⟩; have HBW7 := Lib.hid (HBW6.out.trans (hb7.mono HBW6.out.size)); clear hb7)
    go_ret
    exact ⟨rfl, HBW7.out⟩
end Go.Proofs.YtdeoblhdojbbbaaDoor

/-
  WALKS: whatever is done to a model, it stays a right one.
  A MODEL AS AN ARGUMENT: what the reading of it tells of the cells, and how long its lists are.
-/
import Derived.Test.YtohinklkcinjpaaGreatZR26
import Derived.Deep.QuietTactic
import Derived.BigQuiet
import Derived.Test.YtohinklkcinjpaaGreatRows
import Derived.Deep.Slices
import Derived.Deep.SlicePairs
import Derived.Deep.Fields
import Derived.ChangeSame
import Derived.ChangeSlices
import Derived.Lib.SmallJoins
import Derived.Carry
namespace Go.Proofs.YtohinklkcinjpaaGreat
open Go Go.RowKit Go.Sort
set_option linter.unusedVariables false
attribute [local go_sem ↓] Go.wp_at_zero Go.wp_at_succ
theorem list_at {X : World} {B c : Nat} {A : Option Addr} {L : List Int} {k : Nat} {y : Int} (h : X.ownsRow B 3 1 (.slice A L.length c) L.length (intCells L)) (hk : L[k]? = some y) :
    ∃ g, A = some ⟨g, 0, none⟩ ∧ L.length ≤ c ∧ c ≤ maxLen ∧ ∀ Y : World, Y.ownsRow B 3 1 (.slice (some ⟨g, 0, none⟩) L.length c) L.length (intCells L) → Y.cell? ⟨g, k, none⟩ = some (.int .i64 y) := by
  have hr := own_row h
  have hkl := (List.getElem?_eq_some_iff.1 hk).1
  rcases h.2 with ⟨hv, h0⟩ | ⟨g, cap, cur, hv, _⟩
  · omega
  · injection hv with hA _ _
    refine ⟨g, hA, hr.2.1, hr.2.2.1, fun Y hY => ?_⟩
    have := World.ownsRow.cellAt hY (k * 1) (by omega)
    rw [Nat.mul_one] at this
    rw [this]
    exact intCells_get hk
/-- what lies in memory while document order is gone through -/
structure RI (w : World) (gm N : Nat) (ql : List Nd) (A5 : Option Addr) (n5 c5 : Nat) (l5 : List (Nd × Leaf)) (AL : Option Addr) (cL : Nat) (L : List Int) (gb : Nat) (ids : List Int) (X : World) : Prop where
  bm : BM w gm (N : Int) ql A5 n5 c5 l5 X
  lr : X.ownsRow w.heap.size 3 1 (.slice AL L.length cL) L.length (intCells L)
  mrk : BBlk X gb (marksV N ids)
  le : w.heap.size ≤ gb
section
variable {w X X' : World} {gm N : Nat} {ql : List Nd} {A5 AL : Option Addr} {n5 c5 cL gb : Nat} {l5 : List (Nd × Leaf)} {L ids : List Int}
theorem RI.after (h : RI w gm N ql A5 n5 c5 l5 AL cL L gb ids X) (hb : Below X.heap.size X X') : RI w gm N ql A5 n5 c5 l5 AL cL L gb ids X' := ⟨h.bm.after hb, own_after h.lr hb, Blk.after h.mrk hb, h.le⟩
theorem RI.mark (h : RI w gm N ql A5 n5 c5 l5 AL cL L gb ids X) {y : Nat} (hy : y < N) : RI w gm N ql A5 n5 c5 l5 AL cL L gb (ids ++ [(y : Int)]) (X.setCell ⟨gb, y, none⟩ (.bool true)) := by
  have hm : Blk X gb 4 ((marksV N ids).map Value.bool).toArray := h.mrk
  refine ⟨⟨h.bm.m.far (p := ⟨gb, y, none⟩) (h.bm.m.ne_ hm (by decide)) _, ?_, h.bm.len, h.bm.map_, h.bm.bel.setCell (p := ⟨gb, y, none⟩) h.le _, h.bm.le⟩, own_other h.lr hm (by decide) _ _, by rw [← marksV_set hy]; exact h.mrk.set_ y true, h.le⟩
  exact ⟨own_other h.bm.own.own hm (by decide) _ _, fun p hp => (h.bm.own.leaf p hp).other hm (by decide) (by decide) (by decide) _ _⟩
end
section
variable {w X : World} {gm N : Nat} {ql : List Nd} {A5 AL : Option Addr} {n5 c5 cL gb : Nat} {l5 : List (Nd × Leaf)} {L ids : List Int}
/-- a box of a node is laid anew: what is in the way of the first store of it -/
theorem RI.box (h : RI w gm N ql A5 n5 c5 l5 AL cL L gb ids X) {g : Nat} {cs : Array Value} (hg : Blk X g 41 cs) (hle : w.heap.size ≤ g) (hno : ∀ g', A5 = some ⟨g', 0, none⟩ → g' ≠ g) (i : Nat) (u : Value) : RI w gm N ql A5 n5 c5 l5 AL cL L gb ids (X.setCell ⟨g, i, none⟩ u) := by
  refine ⟨⟨h.bm.m.far (p := ⟨g, i, none⟩) (h.bm.m.ne_ hg (by decide)) u, ?_, h.bm.len, h.bm.map_, h.bm.bel.setCell (p := ⟨g, i, none⟩) hle u, h.bm.le⟩, own_other h.lr hg (by decide) i u, Blk.far h.mrk (p := ⟨g, i, none⟩) (Blk.ne_ h.mrk hg (by decide)) u, h.le⟩
  refine ⟨?_, fun p hp => (h.bm.own.leaf p hp).other hg (by decide) (by decide) (by decide) i u⟩
  have ho : X.ownsRow w.heap.size 41 7 (.slice A5 n5 c5) l5.length (allCells l5) := h.bm.own.own
  show (X.setCell ⟨g, i, none⟩ u).ownsRow w.heap.size 41 7 (.slice A5 n5 c5) l5.length (allCells l5)
  rcases ho.2 with ⟨hv, h0⟩ | ⟨g', cap, cur, hv, hb, hg', rest⟩
  · exact ⟨ho.1, .inl ⟨hv, h0⟩⟩
  · refine ⟨ho.1, .inr ⟨g', cap, cur, hv, hb, ?_, rest⟩⟩
    injection hv with hA _ _
    rw [Below.heap_setCell _ ⟨g, i, none⟩ _ _ (hno g' hA)]
    exact hg'
theorem RI.stored7 (h : RI w gm N ql A5 n5 c5 l5 AL cL L gb ids X) {g : Nat} (hg : Blk X g 41 #[.int .i64 0, .string ⟨#[]⟩, .int .i64 0, .string ⟨#[]⟩, .slice none 0 0, .slice none 0 0, .slice none 0 0]) (hle : w.heap.size ≤ g) (hno : ∀ g', A5 = some ⟨g', 0, none⟩ → g' ≠ g) (u0 u1 u2 u3 u4 u5 u6 : Value) :
    RI w gm N ql A5 n5 c5 l5 AL cL L gb ids ((((((((X.setCell ⟨g, 0, none⟩ u0).setCell ⟨g, 1, none⟩ u1).setCell ⟨g, 2, none⟩ u2).setCell ⟨g, 3, none⟩ u3).setCell ⟨g, 4, none⟩ u4).setCell ⟨g, 5, none⟩ u5).setCell ⟨g, 6, none⟩ u6)) ∧ Blk ((((((((X.setCell ⟨g, 0, none⟩ u0).setCell ⟨g, 1, none⟩ u1).setCell ⟨g, 2, none⟩ u2).setCell ⟨g, 3, none⟩ u3).setCell ⟨g, 4, none⟩ u4).setCell ⟨g, 5, none⟩ u5).setCell ⟨g, 6, none⟩ u6)) g 41 #[u0, u1, u2, u3, u4, u5, u6] := by
  have h0 := h.box hg hle hno 0 u0
  have g0 := hg.set_ 0 u0
  have h1 := h0.box g0 hle hno 1 u1
  have g1 := g0.set_ 1 u1
  have h2 := h1.box g1 hle hno 2 u2
  have g2 := g1.set_ 2 u2
  have h3 := h2.box g2 hle hno 3 u3
  have g3 := g2.set_ 3 u3
  have h4 := h3.box g3 hle hno 4 u4
  have g4 := g3.set_ 4 u4
  have h5 := h4.box g4 hle hno 5 u5
  have g5 := g4.set_ 5 u5
  have h6 := h5.box g5 hle hno 6 u6
  have g6 := g5.set_ 6 u6
  exact ⟨h6, by simpa using g6⟩
end
set_option maxRecDepth 20000 in
set_option maxHeartbeats 3200000 in
theorem right_law (w : World) (hi : Nat) (Aa : Option Addr) (na ca : Nat) (acts : List Ac) (h : ActsIn w hi Aa na ca acts) (hh : hi ≤ w.heap.size) :
    Calls Tryz.prog 3 #[.slice Aa na ca] w (Ret w (.bool true)) := by
  have hca := h.row.2.2.1
  have hna := h.row.2.1
  unfold maxLen at hca
  have HA := Lib.hid h
  have HH := Lib.hid hh
  have HLN := Lib.hid h.len
  clear h hh
  go_enter Tryz.func3, Tryz.ntmps3
  go_upto_region 3 with (go_at_call 7; (with_reducible refine (awake_any _).mono ?_); go_must (rintro e w1 ⟨rfl, hb1⟩; have HB1 := Lib.hid hb1; clear hb1))
  go_upto_region 4 with (go_at_call 8; (with_reducible refine (new_any _).mono ?_); go_must (rintro e w2 ⟨rfl, hb2⟩; have HX : Hid (BM w w2.heap.size (1, ([] : List Nd)).1 (1, ([] : List Nd)).2 none 0 0 [] (w2.alloc (.cells #[.int .i64 1, .slice none 0 0] 26))) := Lib.hid ⟨Blk.new _ _ _, ownM_nil _ _, rfl, rfl, (HB1.out.trans (hb2.mono HB1.out.size)).trans ((below_box _ _).mono (Nat.le_trans HB1.out.size hb2.size)), Nat.le_trans HB1.out.size hb2.size⟩; clear hb2 HB1))
  generalize w2.alloc (.cells #[.int .i64 1, .slice none 0 0] 26) = X2 at HX ⊢
  generalize w2.heap.size = gm at HX ⊢
  go_wp2_with fail
  go_loopw [4] (fun v4 wr => ∃ (i : Nat) (s : Int × List Nd) (A : Option Addr) (n c : Nat) (l : List (Nd × Leaf)), i ≤ na ∧ i ≤ 150 ∧ v4 = .int .i64 i ∧ Hid (BM w gm s.1 s.2 A n c l wr) ∧ Hid (Okay i s)) (fun v _ => na - (intOf v).toNat)
  case atStart => exact ⟨0, (1, []), none, 0, 0, [], Nat.zero_le _, Nat.zero_le _, rfl, HX, Lib.hid Okay.start⟩
  case round =>
    clear HX
    obtain ⟨i, s, A, n, c, l, hi1, hi150, rfl, HX, HO⟩ := hrel
    rename World => wr
    have m0 := (HX.out.m.cell 0).trans (show _ = some (.int .i64 s.1) from rfl)
    have m1 := (HX.out.m.cell 1).trans (show _ = some (.slice A n c) from rfl)
    by_cases hlt : i < na
    · by_cases h150 : i < 150
      · by_cases h300 : n ≤ 300
        · obtain ⟨x, hx⟩ : ∃ x, acts[i]? = some x := ⟨acts[i]'(by have := HLN.out; omega), List.getElem?_eq_getElem _⟩
          obtain ⟨ba, oa, hAa, hbl, hcl⟩ := HA.out.at_ hx
          subst hAa
          have HSof : Hid (∀ X, Below w.heap.size w X → X.cell? ⟨ba, oa + i * 6, none⟩ = some (.int .i64 x.kind) ∧ X.cell? ⟨ba, oa + i * 6 + 1, none⟩ = some (.int .i64 x.a) ∧ X.cell? ⟨ba, oa + i * 6 + 2, none⟩ = some (.int .i64 x.b) ∧ X.cell? ⟨ba, oa + i * 6 + 3, none⟩ = some (.int .i64 x.at_) ∧ X.cell? ⟨ba, oa + i * 6 + 4, none⟩ = some (.string x.word) ∧ X.cell? ⟨ba, oa + i * 6 + 5, none⟩ = some (.string x.text)) := Lib.hid fun X hX => hcl X (hX.mono HH.out)
          have hsx := HA.out.sz x (List.mem_of_getElem? hx)
          have hfx := HO.out.fits (by omega)
          have HDn : Hid (∀ Y, BM w gm s.1 s.2 A n c l Y → Calls Tryz.prog 9 #[.agg #[.int .i64 s.1, .slice A n c], .agg #[.int .i64 x.kind, .int .i64 x.a, .int .i64 x.b, .int .i64 x.at_, .string x.word, .string x.text]] Y fun e w' => ∃ (A' : Option Addr) (n' c' : Nat) (l' : List (Nd × Leaf)), e = .returned (.tuple #[.agg #[.int .i64 (stepM s x).1, .slice A' n' c'], .int .i64 (actR s.1 s.2 x).2.1]) ∧ Below Y.heap.size Y w' ∧ OwnM w' w.heap.size (.slice A' n' c') l' ∧ l'.length = n' ∧ l'.map (·.1) = (stepM s x).2) := Lib.hid fun Y hY => (done_any Y Y.heap.size s.1 A n c s.2 x hY.nodes (Nat.le_refl _) hsx.1 hsx.2 hfx).mono fun e w' hd => by
            obtain ⟨z, A', n', c', he, hb, h1, h2⟩ := hd
            unfold stepM
            by_cases h0 : (actR s.1 s.2 x).2.1 = 0
            · rw [if_pos h0]
              obtain ⟨rfl, l', ho, hl, hm⟩ := h2 h0
              exact ⟨A', n', c', l', he, hb, ho.mono hY.bel.size, hl, hm⟩
            · rw [if_neg h0]
              obtain ⟨rfl, rfl, rfl, rfl⟩ := h1 h0
              exact ⟨_, _, _, l, he, hb, hY.own.after hb, hY.len, hY.map_⟩
          have HOs := Lib.hid (HO.out.step x)
          clear hcl hsx hfx hx HO
          go_upto_region 8 with (fail)
          clear m0 m1
          replace HX := Lib.hid (HX.out.after (below_drew1 _))
          refine wp_region_held (S := fun w' => w'.cell? ⟨ba, oa + i * 6, none⟩ = some (.int .i64 x.kind) ∧ w'.cell? ⟨ba, oa + i * 6 + 1, none⟩ = some (.int .i64 x.a) ∧ w'.cell? ⟨ba, oa + i * 6 + 2, none⟩ = some (.int .i64 x.b) ∧ w'.cell? ⟨ba, oa + i * 6 + 3, none⟩ = some (.int .i64 x.at_) ∧ w'.cell? ⟨ba, oa + i * 6 + 4, none⟩ = some (.string x.word) ∧ w'.cell? ⟨ba, oa + i * 6 + 5, none⟩ = some (.string x.text)) (by kernel_rfl) ?_
          show wpAnyH _ _ _ _ _ 10 (Array.replicate 10 false) _ wr.drew
          generalize wr.drew = wz at HX ⊢
          have hHeld : (fun w' => w'.cell? ⟨ba, oa + i * 6, none⟩ = some (.int .i64 x.kind) ∧ w'.cell? ⟨ba, oa + i * 6 + 1, none⟩ = some (.int .i64 x.a) ∧ w'.cell? ⟨ba, oa + i * 6 + 2, none⟩ = some (.int .i64 x.b) ∧ w'.cell? ⟨ba, oa + i * 6 + 3, none⟩ = some (.int .i64 x.at_) ∧ w'.cell? ⟨ba, oa + i * 6 + 4, none⟩ = some (.string x.word) ∧ w'.cell? ⟨ba, oa + i * 6 + 5, none⟩ = some (.string x.text)) wz := HSof.out _ HX.out.bel
          have m0 := (HX.out.m.cell 0).trans (show _ = some (.int .i64 s.1) from rfl)
          have m1 := (HX.out.m.cell 1).trans (show _ = some (.slice A n c) from rfl)
          refine wpAnyH_take (i := 1) (v := (.slice (some ⟨ba, oa, none⟩) na ca)) rfl (by kernel_rfl) (by kernel_rfl) (by kernel_rfl) (fun _ _ _ h => h) (Or.inl ⟨by rfl, ?yt_1⟩) (by assumption) ?qt_1
          case yt_1 => (intro w hSw; (try dsimp only at hSw); go_simp)
          case qt_1 =>
            (try simp only [Act.put]); (try simp only [List.setIfInBounds_toArray])
            refine wpAnyH_take (i := 2) (v := (.int .i64 i)) rfl (by kernel_rfl) (by kernel_rfl) (by kernel_rfl) (fun _ _ _ h => h) (Or.inl ⟨by rfl, ?yt_2⟩) (by assumption) ?qt_2
            case yt_2 => (intro w hSw; (try dsimp only at hSw); go_simp)
            case qt_2 =>
              (try simp only [Act.put]); (try simp only [List.setIfInBounds_toArray])
              refine wpAnyH_take (i := 3) (v := (.pointer (some ⟨ba, oa + i * 6, none⟩))) rfl (by kernel_rfl) (by kernel_rfl) (by kernel_rfl) (fun _ _ _ h => h) (Or.inl ⟨by rfl, ?yt_3⟩) (by assumption) ?qt_3
              case yt_3 => (intro w hSw; (try dsimp only at hSw); go_simp)
              case qt_3 =>
                (try simp only [Act.put]); (try simp only [List.setIfInBounds_toArray])
                refine wpAnyH_take (i := 4) (v := (.agg #[.int .i64 x.kind, .int .i64 x.a, .int .i64 x.b, .int .i64 x.at_, .string x.word, .string x.text])) rfl (by kernel_rfl) (by kernel_rfl) (by kernel_rfl) (fun _ _ _ h => h) (Or.inl ⟨by rfl, ?yt_4⟩) (by assumption) ?qt_4
                case yt_4 => (intro w hSw; (try dsimp only at hSw); go_simp)
                case qt_4 =>
                  (try simp only [Act.put]); (try simp only [List.setIfInBounds_toArray])
                  refine wpAnyH_ready (rs := [0]) (by kernel_rfl) (by simp) ?_
                  refine AllReadyH.cons rfl (fun K hK => ?st_5) ?mt_5
                  case st_5 =>
                    go_simp
                    refine hK.out _ _ ?kt_5 (fun hHeld => ?qt_5)
                    case kt_5 => ((try dsimp only); first | exact HSof.out _ HX6.out.bel | exact HSof.out _ HX.out.bel)
                    case qt_5 =>
                      clear hK K
                      (try simp only [Act.put]); (try simp only [List.setIfInBounds_toArray])
                      refine wpAnyH_ready (rs := [5]) (by kernel_rfl) (by simp) ?_
                      refine AllReadyH.cons rfl (fun K hK => ?st_6) ?mt_6
                      case st_6 =>
                        (refine step_call _ (by rfl) 9 #[.agg #[.int .i64 s.1, .slice A n c], .agg #[.int .i64 x.kind, .int .i64 x.a, .int .i64 x.b, .int .i64 x.at_, .string x.word, .string x.text]] (by go_simp) (HDn.out _ HX.out) ?_; rintro e w5 ⟨A5, n5, c5, l5, rfl, hb5, ho5, hl5, hm5⟩; refine ⟨_, rfl, ?_⟩; have hX5 := HX.out.after hb5; have p0 := (hX5.m.cell 0).trans (show _ = some (.int .i64 s.1) from rfl); have p1 := (hX5.m.cell 1).trans (show _ = some (.slice A n c) from rfl); have p2 := hX5.m.frozen 0; have p3 := hX5.m.frozen 1; have HX6 := Lib.hid (hX5.set (next' := (stepM s x).1) ho5 hl5 hm5); replace HX := Lib.hid hX5; clear hX5 ho5 hl5 hm5 hb5 m0 m1)
                        refine hK.out _ _ ?kt_6 (fun hHeld => ?qt_6)
                        case kt_6 => ((try dsimp only); first | exact HSof.out _ HX6.out.bel | exact HSof.out _ HX.out.bel)
                        case qt_6 =>
                          clear hK K
                          (try simp only [Act.put]); (try simp only [List.setIfInBounds_toArray])
                          refine wpAnyH_take (i := 6) (v := (.tuple #[.agg #[.int .i64 (stepM s x).1, .slice A5 n5 c5], .int .i64 (actR s.1 s.2 x).2.1])) rfl (by kernel_rfl) (by kernel_rfl) (by kernel_rfl) (fun _ _ _ h => h) (Or.inl ⟨by rfl, ?yt_7⟩) (by assumption) ?qt_7
                          case yt_7 => (intro w hSw; (try dsimp only at hSw); go_simp)
                          case qt_7 =>
                            (try simp only [Act.put]); (try simp only [List.setIfInBounds_toArray])
                            refine wpAnyH_take (i := 7) (v := (.agg #[.int .i64 (stepM s x).1, .slice A5 n5 c5])) rfl (by kernel_rfl) (by kernel_rfl) (by kernel_rfl) (fun _ _ _ h => h) (Or.inl ⟨by rfl, ?yt_8⟩) (by assumption) ?qt_8
                            case yt_8 => (intro w hSw; (try dsimp only at hSw); go_simp)
                            case qt_8 =>
                              (try simp only [Act.put]); (try simp only [List.setIfInBounds_toArray])
                              refine wpAnyH_take (i := 8) (v := (.int .i64 (actR s.1 s.2 x).2.1)) rfl (by kernel_rfl) (by kernel_rfl) (by kernel_rfl) (fun _ _ _ h => h) (Or.inl ⟨by rfl, ?yt_9⟩) (by assumption) ?qt_9
                              case yt_9 => (intro w hSw; (try dsimp only at hSw); go_simp)
                              case qt_9 =>
                                (try simp only [Act.put]); (try simp only [List.setIfInBounds_toArray])
                                refine wpAnyH_ready (rs := [9]) (by kernel_rfl) (by simp) ?_
                                refine AllReadyH.cons rfl (fun K hK => ?st_10) ?mt_10
                                case st_10 =>
                                  go_simp
                                  refine hK.out _ _ ?kt_10 (fun hHeld => ?qt_10)
                                  case kt_10 => ((try dsimp only); first | exact HSof.out _ HX6.out.bel | exact HSof.out _ HX.out.bel)
                                  case qt_10 =>
                                    clear hK K
                                    (try simp only [Act.put]); (try simp only [List.setIfInBounds_toArray])
                                    refine wpAnyH_done (by kernel_rfl) ?_ _
                                    clear hHeld
                                    generalize (w5.setCell ⟨gm, 0, none⟩ (.int .i64 (stepM s x).1)).setCell ⟨gm, 1, none⟩ (.slice A5 n5 c5) = Y at HX6 ⊢
                                    clear p0 p1 p2 p3 HX HDn HSof
                                    obtain ⟨hok, hge⟩ := HOs.out
                                    obtain ⟨q, hq⟩ : ∃ q, stepM s x = q := ⟨_, rfl⟩
                                    rw [hq] at hok hge HX6 ⊢
                                    obtain ⟨qn, ql⟩ := q
                                    simp only at hok hge HX6 ⊢
                                    have htm : TM qn ql := hok.tm
                                    have hlo := htm.lo
                                    have hhi := htm.hi
                                    obtain ⟨N, rfl⟩ : ∃ N : Nat, qn = (N : Int) := ⟨qn.toNat, by omega⟩
                                    have hR := rightM htm.right
                                    have HTM := Lib.hid htm
                                    have HOq := Lib.hid hok
                                    have HGE := Lib.hid hge
                                    have hfq := hok.fits (by omega)
                                    obtain ⟨L, hL⟩ : ∃ L, orderR (N : Int) ql = L := ⟨_, rfl⟩
                                    have hLV : L = orderV ql := by rw [← hL]; unfold orderR; rw [if_pos htm.right]
                                    have hLl : L.length = n5 := by
                                      rw [hLV, order_full hR, ← HX6.out.map_, List.length_map, HX6.out.len]
                                    have HLV := Lib.hid hLV
                                    have HLL := Lib.hid hLl
                                    have HOr : Hid (∀ X, BM w gm (N : Int) ql A5 n5 c5 l5 X → Calls Tryz.prog 10 #[.agg #[.int .i64 (N : Int), .slice A5 n5 c5]] X (ListR X L)) := Lib.hid fun X hX => hL ▸ order_any X X.heap.size N A5 n5 c5 ql hX.nodes (Nat.le_refl _)
                                    have HRi : Hid (∀ X, BM w gm (N : Int) ql A5 n5 c5 l5 X → Calls Tryz.prog 11 #[.agg #[.int .i64 (N : Int), .slice A5 n5 c5]] X (Ret X (.bool true))) := Lib.hid fun X hX => htm.right ▸ refRight_any X X.heap.size N A5 n5 c5 ql hX.nodes (Nat.le_refl _)
                                    have HCk : Hid (∀ X, BM w gm (N : Int) ql A5 n5 c5 l5 X → Calls Tryz.prog 12 #[.agg #[.int .i64 (N : Int), .slice A5 n5 c5]] X (Ret X (.int .i64 0))) := Lib.hid fun X hX => by
                                      have := check_any X X.heap.size N A5 n5 c5 ql hX.nodes (Nat.le_refl _)
                                      unfold checkV at this
                                      rw [htm.right] at this
                                      exact this
                                    have HFi : Hid (∀ X, BM w gm (N : Int) ql A5 n5 c5 l5 X → ∀ id, Calls Tryz.prog 13 #[.agg #[.int .i64 (N : Int), .slice A5 n5 c5], .int .i64 id] X (FindIs X (findV N ql id))) := Lib.hid fun X hX id => find_any' X X.heap.size N id A5 n5 c5 ql hX.nodes (Nat.le_refl _) hfq
                                    have hdlt : decide ((N : Int) < s.1) = false := by rw [decide_eq_false_iff_not]; omega
                                    have hmk := make_bools N (by omega)
                                    have HN2 : Hid (N ≤ 1048577) := Lib.hid (by omega)
                                    have m0 := (HX6.out.m.cell 0).trans (show _ = some (.int .i64 (N : Int)) from rfl)
                                    have m1 := (HX6.out.m.cell 1).trans (show _ = some (.slice A5 n5 c5) from rfl)
                                    clear hok hge hq htm hR hfq hL hLV hLl HOs hlo hhi
                                    go_upto_region 10 with (go_at_call 10; (with_reducible refine (HOr.out _ HX6.out).mono ?_); go_must (rintro e w6 ⟨v6, rfl, hv6, hb6⟩; obtain ⟨AL, cL, rfl⟩ := own_form hv6; have HV := Lib.hid (own_mono hv6 HX6.out.bel.size); replace HX6 := Lib.hid (HX6.out.after hb6); clear hv6 hb6))
                                    have hrow := own_row HV.out
                                    have hnc := hrow.2.1
                                    have hcm := hrow.2.2.1
                                    unfold maxLen at hcm
                                    clear hrow m0 m1
                                    have m0 := (HX6.out.m.cell 0).trans (show _ = some (.int .i64 (N : Int)) from rfl)
                                    have m1 := (HX6.out.m.cell 1).trans (show _ = some (.slice A5 n5 c5) from rfl)
                                    have hln : ((L.length : Int) != (n5 : Int)) = false := by rw [bne_eq_false_iff_eq]; have := HLL.out; omega
                                    go_upto_region 12 with (first | (go_at_call 11; (with_reducible refine (HRi.out _ HX6.out).mono ?_); go_must (rintro e w7 ⟨rfl, hb7⟩; have HX7 := Lib.hid (HX6.out.after hb7); have HV7 := Lib.hid (own_after HV.out hb7); clear hb7; have p0 := (HX7.out.m.cell 0).trans (show _ = some (.int .i64 (N : Int)) from rfl); have p1 := (HX7.out.m.cell 1).trans (show _ = some (.slice A5 n5 c5) from rfl))) | (go_at_call 12; (with_reducible refine (HCk.out _ HX7.out).mono ?_); go_must (rintro e w8 ⟨rfl, hb8⟩; have HX8 := Lib.hid (HX7.out.after hb8); have HV8 := Lib.hid (own_after HV7.out hb8); clear hb8; have q0 := (HX8.out.m.cell 0).trans (show _ = some (.int .i64 (N : Int)) from rfl); have q1 := (HX8.out.m.cell 1).trans (show _ = some (.slice A5 n5 c5) from rfl))))
                                    clear m0 m1 p0 p1 HX6 HX7 HV HV7 hln
                                    go_upto_region 13 with (fail)
                                    have HI : Hid (RI w gm N ql A5 n5 c5 l5 AL cL L w8.heap.size [] (w8.alloc (.cells (noB N) 4))) := Lib.hid ⟨HX8.out.after (below_box _ _), own_after HV8.out (below_box _ _), by rw [← marksV_nil]; exact BBlk.start w8 N, HX8.out.bel.size⟩
                                    generalize w8.alloc (.cells (noB N) 4) = X9 at HI ⊢
                                    generalize w8.heap.size = gb at HI ⊢
                                    clear q0 q1 HX8 HV8 hmk HOr HRi HCk
                                    have HLn4 : Hid (L.length ≤ 4096) := Lib.hid (by have h1 := HLV.out; have h2 := order_len (rightM HTM.out.right); have h3 := HTM.out.len; rw [h1]; omega)
                                    have hL4 := HLn4.out
                                    go_wp2_with fail
                                    go_loopw [8] (fun v8 wx => ∃ k : Nat, k ≤ L.length ∧ v8 = .int .i64 k ∧ Hid (RI w gm N ql A5 n5 c5 l5 AL cL L gb (L.take k) wx)) (fun v _ => L.length - (intOf v).toNat)
                                    case atStart => exact ⟨0, Nat.zero_le _, rfl, HI⟩
                                    case round =>
                                      clear HI
                                      obtain ⟨k, hk, rfl, HI⟩ := hrel
                                      rename World => wq
                                      by_cases hkl : k < L.length
                                      · obtain ⟨y, hy⟩ : ∃ y, L[k]? = some y := ⟨L[k], List.getElem?_eq_getElem hkl⟩
                                        have hR := rightM HTM.out.right
                                        obtain ⟨nd, hnd⟩ : ∃ nd, ndOf ql y = some nd := order_mem hR (by have := List.mem_of_getElem? hy; rw [HLV.out] at this; exact this)
                                        obtain ⟨hnm, hni⟩ := (ndOf_mem hR.rise).1 hnd
                                        have hib := HTM.out.ids nd hnm
                                        obtain ⟨yy, rfl⟩ : ∃ yy : Nat, y = (yy : Int) := ⟨y.toNat, by omega⟩
                                        have hyN : yy < N := by omega
                                        have hfv : findV (N : Int) ql (yy : Int) = (nd, true) := by
                                          obtain ⟨ix, hix, _⟩ := ndOf_some hnd
                                          unfold findV
                                          rw [HTM.out.right, hix, hnd]; rfl
                                        have hnot : (L.take k).contains (yy : Int) = false := by
                                          cases hc : (L.take k).contains (yy : Int) with
                                          | false => rfl
                                          | true =>
                                            have hnn : L.Nodup := by rw [HLV.out]; exact order_nodup hR
                                            obtain ⟨j, hj⟩ := List.getElem?_of_mem (List.contains_iff_mem.1 hc)
                                            have hjk : j < k := by have := (List.getElem?_eq_some_iff.1 hj).1; rw [List.length_take] at this; omega
                                            rw [List.getElem?_take_of_lt hjk] at hj
                                            have e1 := idxV_nd hnn hj
                                            have e2 := idxV_nd hnn hy
                                            omega
                                        have hpar : nd.par ≠ 0 → nd.par ∈ L.take k ∧ 0 ≤ nd.par ∧ nd.par < N := fun h0 => by
                                          have h1 : nd.par ∈ L.take k := by
                                            have := order_par hR (k := k) (y := (yy : Int)) (by rw [← HLV.out]; exact hy) hnd h0
                                            rwa [← HLV.out] at this
                                          obtain ⟨z, hz⟩ := order_mem hR (by have := List.mem_of_mem_take h1; rw [HLV.out] at this; exact this)
                                          obtain ⟨hzm, hzi⟩ := (ndOf_mem hR.rise).1 hz
                                          have := HTM.out.ids z hzm
                                          exact ⟨h1, by omega, by omega⟩
                                        have HMk : Hid (∀ X ids, BBlk X gb (marksV N ids) → ∀ z : Nat, z < N → X.cell? ⟨gb, z, none⟩ = some (.bool (ids.contains (z : Int)))) := Lib.hid fun X ids hb z hz => by
                                          have := Blk.cell hb z
                                          rw [this]
                                          simp [marksV_at hz]
                                        obtain ⟨gl, hAL, hl1, hl2, hlc⟩ := list_at HI.out.lr hy
                                        subst hAL
                                        have HSo2 : Hid (∀ X, RI w gm N ql A5 n5 c5 l5 (some ⟨gl, 0, none⟩) cL L gb (L.take k) X → X.cell? ⟨gm, 0, none⟩ = some (.int .i64 (N : Int)) ∧ X.cell? ⟨gm, 1, none⟩ = some (.slice A5 n5 c5) ∧ X.cell? ⟨gl, k, none⟩ = some (.int .i64 (yy : Int))) := Lib.hid fun X hX => ⟨(hX.bm.m.cell 0).trans rfl, (hX.bm.m.cell 1).trans rfl, hlc X hX.lr⟩
                                        have HTk : Hid (L.take (k + 1) = L.take k ++ [(yy : Int)]) := Lib.hid (by rw [List.take_add_one, hy]; rfl)
                                        have HFy : Hid (∀ X, BM w gm (N : Int) ql A5 n5 c5 l5 X → Calls Tryz.prog 13 #[.agg #[.int .i64 (N : Int), .slice A5 n5 c5], .int .i64 (yy : Int)] X (FindIs X (nd, true))) := Lib.hid fun X hX => hfv ▸ HFi.out X hX (yy : Int)
                                        have HNI := Lib.hid hni
                                        have HPar := Lib.hid hpar
                                        have HyN := Lib.hid hyN
                                        have HNot := Lib.hid hnot
                                        clear hlc hy hnd hnm hni hib hfv hnot hpar hR hyN
                                        go_upto_region 16 with (fail)
                                        replace HI := Lib.hid (HI.out.after (below_drew1 _))
                                        go_cut [9, 10] (fun s9 s10 wx => ∃ (g9 : Nat) (cs : Array Value), s9 = .pointer (some ⟨g9, 0, none⟩) ∧ s10 = .bool true ∧ Hid (RI w gm N ql A5 n5 c5 l5 (some ⟨gl, 0, none⟩) cL L gb (L.take k) wx) ∧ Hid (Blk wx g9 41 cs ∧ cs[0]? = some (.int .i64 nd.id) ∧ cs[2]? = some (.int .i64 nd.par)))
                                        case first =>
                                          refine wp_region_held (S := fun w' => w'.cell? ⟨gm, 0, none⟩ = some (.int .i64 (N : Int)) ∧ w'.cell? ⟨gm, 1, none⟩ = some (.slice A5 n5 c5) ∧ w'.cell? ⟨gl, k, none⟩ = some (.int .i64 (yy : Int))) (by kernel_rfl) ?_
                                          show wpAnyH _ _ _ _ _ 12 (Array.replicate 12 false) _ wq.drew
                                          generalize wq.drew = wz at HI ⊢
                                          have hHeld : (fun w' => w'.cell? ⟨gm, 0, none⟩ = some (.int .i64 (N : Int)) ∧ w'.cell? ⟨gm, 1, none⟩ = some (.slice A5 n5 c5) ∧ w'.cell? ⟨gl, k, none⟩ = some (.int .i64 (yy : Int))) wz := HSo2.out _ HI.out
                                          refine wpAnyH_take (i := 0) (v := (.agg #[.int .i64 (N : Int), .slice A5 n5 c5])) rfl (by kernel_rfl) (by kernel_rfl) (by kernel_rfl) (fun _ _ _ h => h) (Or.inl ⟨by rfl, ?yb_1⟩) (by assumption) ?qb_1
                                          case yb_1 => (intro w hSw; (try dsimp only at hSw); go_simp)
                                          case qb_1 =>
                                            (try simp only [Act.put]); (try simp only [List.setIfInBounds_toArray])
                                            refine wpAnyH_take (i := 1) (v := (.slice (some ⟨gl, 0, none⟩) L.length cL)) rfl (by kernel_rfl) (by kernel_rfl) (by kernel_rfl) (fun _ _ _ h => h) (Or.inl ⟨by rfl, ?yb_2⟩) (by assumption) ?qb_2
                                            case yb_2 => (intro w hSw; (try dsimp only at hSw); go_simp)
                                            case qb_2 =>
                                              (try simp only [Act.put]); (try simp only [List.setIfInBounds_toArray])
                                              refine wpAnyH_take (i := 2) (v := (.int .i64 k)) rfl (by kernel_rfl) (by kernel_rfl) (by kernel_rfl) (fun _ _ _ h => h) (Or.inl ⟨by rfl, ?yb_3⟩) (by assumption) ?qb_3
                                              case yb_3 => (intro w hSw; (try dsimp only at hSw); go_simp)
                                              case qb_3 =>
                                                (try simp only [Act.put]); (try simp only [List.setIfInBounds_toArray])
                                                refine wpAnyH_take (i := 3) (v := (.pointer (some ⟨gl, k, none⟩))) rfl (by kernel_rfl) (by kernel_rfl) (by kernel_rfl) (fun _ _ _ h => h) (Or.inl ⟨by rfl, ?yb_4⟩) (by assumption) ?qb_4
                                                case yb_4 => (intro w hSw; (try dsimp only at hSw); go_simp)
                                                case qb_4 =>
                                                  (try simp only [Act.put]); (try simp only [List.setIfInBounds_toArray])
                                                  refine wpAnyH_take (i := 4) (v := (.int .i64 (yy : Int))) rfl (by kernel_rfl) (by kernel_rfl) (by kernel_rfl) (fun _ _ _ h => h) (Or.inl ⟨by rfl, ?yb_5⟩) (by assumption) ?qb_5
                                                  case yb_5 => (intro w hSw; (try dsimp only at hSw); go_simp)
                                                  case qb_5 =>
                                                    (try simp only [Act.put]); (try simp only [List.setIfInBounds_toArray])
                                                    refine wpAnyH_ready (rs := [5, 9]) (by kernel_rfl) (by simp) ?_
                                                    refine AllReadyH.cons rfl (fun K hK => ?sb_6) ?mb_6
                                                    case sb_6 =>
                                                      (refine step_call _ (by rfl) 13 #[.agg #[.int .i64 (N : Int), .slice A5 n5 c5], .int .i64 (yy : Int)] (by go_simp) (HFy.out _ HI.out.bm) ?_; rintro e Yb ⟨⟨⟨Ap, np, cp⟩, ⟨Ak, nk, ck⟩, ⟨Ar, nr, cr⟩⟩, rfl, _, hbb⟩; refine ⟨_, rfl, ?_⟩; replace HI := Lib.hid (HI.out.after hbb); clear hbb)
                                                      refine hK.out _ _ ?kb_6 (fun hHeld => ?qb_6)
                                                      case kb_6 => ((try dsimp only); first | exact HSo2.out _ HIz.out.1 | exact HSo2.out _ HI.out)
                                                      case qb_6 =>
                                                        clear hK K
                                                        (try simp only [Act.put]); (try simp only [List.setIfInBounds_toArray])
                                                        refine wpAnyH_take (i := 6) (v := (.tuple #[.agg #[.int .i64 nd.id, .string nd.con, .int .i64 nd.par, .string nd.role, .slice Ap np cp, .slice Ak nk ck, .slice Ar nr cr], .bool true])) rfl (by kernel_rfl) (by kernel_rfl) (by kernel_rfl) (fun _ _ _ h => h) (Or.inl ⟨by rfl, ?yb_7⟩) (by assumption) ?qb_7
                                                        case yb_7 => (intro w hSw; (try dsimp only at hSw); go_simp)
                                                        case qb_7 =>
                                                          (try simp only [Act.put]); (try simp only [List.setIfInBounds_toArray])
                                                          refine wpAnyH_take (i := 7) (v := (.agg #[.int .i64 nd.id, .string nd.con, .int .i64 nd.par, .string nd.role, .slice Ap np cp, .slice Ak nk ck, .slice Ar nr cr])) rfl (by kernel_rfl) (by kernel_rfl) (by kernel_rfl) (fun _ _ _ h => h) (Or.inl ⟨by rfl, ?yb_8⟩) (by assumption) ?qb_8
                                                          case yb_8 => (intro w hSw; (try dsimp only at hSw); go_simp)
                                                          case qb_8 =>
                                                            (try simp only [Act.put]); (try simp only [List.setIfInBounds_toArray])
                                                            refine wpAnyH_take (i := 8) (v := (.bool true)) rfl (by kernel_rfl) (by kernel_rfl) (by kernel_rfl) (fun _ _ _ h => h) (Or.inl ⟨by rfl, ?yb_9⟩) (by assumption) ?qb_9
                                                            case yb_9 => (intro w hSw; (try dsimp only at hSw); go_simp)
                                                            case qb_9 =>
                                                              (try simp only [Act.put]); (try simp only [List.setIfInBounds_toArray])
                                                              refine wpAnyH_ready (rs := [9]) (by kernel_rfl) (by simp) ?_
                                                              refine AllReadyH.cons rfl (fun K hK => ?sb_10) ?mb_10
                                                              case sb_10 =>
                                                                (refine step_alloc _ (by rfl) 41 #[.int .i64 0, .string ⟨#[]⟩, .int .i64 0, .string ⟨#[]⟩, .slice none 0 0, .slice none 0 0, .slice none 0 0] (by go_simp) ?_; intro g9 Yd hx9 hb9 hs9; have HU := Lib.hid hx9; have HNo : Hid (∀ g', A5 = some ⟨g', 0, none⟩ → g' ≠ g9) := Lib.hid (fun g' e => by have h6 := HI.out.bm.own.own; subst e; unfold OwnN at h6; rw [HI.out.bm.len] at h6; have := own_ltH h6; omega); have HG9 : Hid (w.heap.size ≤ g9) := Lib.hid (Nat.le_trans HI.out.bm.bel.size hs9); replace HI := Lib.hid (HI.out.after hb9); clear hx9 hb9 hs9)
                                                                refine hK.out _ _ ?kb_10 (fun hHeld => ?qb_10)
                                                                case kb_10 => ((try dsimp only); first | exact HSo2.out _ HIz.out.1 | exact HSo2.out _ HI.out)
                                                                case qb_10 =>
                                                                  clear hK K
                                                                  (try simp only [Act.put]); (try simp only [List.setIfInBounds_toArray])
                                                                  refine wpAnyH_ready (rs := [10]) (by kernel_rfl) (by simp) ?_
                                                                  refine AllReadyH.cons rfl (fun K hK => ?sb_11) ?mb_11
                                                                  case sb_11 =>
                                                                    (have z0 := (HU.out.cell 0).trans (show _ = some (.int .i64 0) from rfl); have f0 := HU.out.frozen 0; have z1 := (HU.out.cell 1).trans (show _ = some (.string ⟨#[]⟩) from rfl); have f1 := HU.out.frozen 1; have z2 := (HU.out.cell 2).trans (show _ = some (.int .i64 0) from rfl); have f2 := HU.out.frozen 2; have z3 := (HU.out.cell 3).trans (show _ = some (.string ⟨#[]⟩) from rfl); have f3 := HU.out.frozen 3; have z4 := (HU.out.cell 4).trans (show _ = some (.slice none 0 0) from rfl); have f4 := HU.out.frozen 4; have z5 := (HU.out.cell 5).trans (show _ = some (.slice none 0 0) from rfl); have f5 := HU.out.frozen 5; have z6 := (HU.out.cell 6).trans (show _ = some (.slice none 0 0) from rfl); have f6 := HU.out.frozen 6; have HIz := Lib.hid (HI.out.stored7 HU.out HG9.out HNo.out (.int .i64 nd.id) (.string nd.con) (.int .i64 nd.par) (.string nd.role) (.slice Ap np cp) (.slice Ak nk ck) (.slice Ar nr cr)); go_simp)
                                                                    refine hK.out _ _ ?kb_11 (fun hHeld => ?qb_11)
                                                                    case kb_11 => ((try dsimp only); first | exact HSo2.out _ HIz.out.1 | exact HSo2.out _ HI.out)
                                                                    case qb_11 =>
                                                                      clear hK K
                                                                      (try simp only [Act.put]); (try simp only [List.setIfInBounds_toArray])
                                                                      refine wpAnyH_take (i := 11) (v := (.bool true)) rfl (by kernel_rfl) (by kernel_rfl) (by kernel_rfl) (fun _ _ _ h => h) (Or.inl ⟨by rfl, ?yb_12⟩) (by assumption) ?qb_12
                                                                      case yb_12 => (intro w hSw; (try dsimp only at hSw); go_simp)
                                                                      case qb_12 =>
                                                                        (try simp only [Act.put]); (try simp only [List.setIfInBounds_toArray])
                                                                        refine wpAnyH_done (by kernel_rfl) ?_ _
                                                                        clear hHeld
                                                                        go_wp2_with fail
                                                                        go_meet
                                                                        exact ⟨g9, _, rfl, rfl, Lib.hid HIz.out.1, Lib.hid ⟨HIz.out.2, rfl, rfl⟩⟩
                                                                  case mb_11 =>
                                                                    exact AllReadyH.nil
                                                              case mb_10 =>
                                                                exact AllReadyH.nil
                                                    case mb_6 =>
                                                      refine AllReadyH.cons rfl (fun K hK => ?sb_13) ?mb_13
                                                      case sb_13 =>
                                                        (refine step_alloc _ (by rfl) 41 #[.int .i64 0, .string ⟨#[]⟩, .int .i64 0, .string ⟨#[]⟩, .slice none 0 0, .slice none 0 0, .slice none 0 0] (by go_simp) ?_; intro g9 Yd hx9 hb9 hs9; have HU := Lib.hid hx9; have HNo : Hid (∀ g', A5 = some ⟨g', 0, none⟩ → g' ≠ g9) := Lib.hid (fun g' e => by have h6 := HI.out.bm.own.own; subst e; unfold OwnN at h6; rw [HI.out.bm.len] at h6; have := own_ltH h6; omega); have HG9 : Hid (w.heap.size ≤ g9) := Lib.hid (Nat.le_trans HI.out.bm.bel.size hs9); replace HI := Lib.hid (HI.out.after hb9); clear hx9 hb9 hs9)
                                                        refine hK.out _ _ ?kb_13 (fun hHeld => ?qb_13)
                                                        case kb_13 => ((try dsimp only); first | exact HSo2.out _ HIz.out.1 | exact HSo2.out _ HI.out)
                                                        case qb_13 =>
                                                          clear hK K
                                                          (try simp only [Act.put]); (try simp only [List.setIfInBounds_toArray])
                                                          refine wpAnyH_ready (rs := [5]) (by kernel_rfl) (by simp) ?_
                                                          refine AllReadyH.cons rfl (fun K hK => ?sb_14) ?mb_14
                                                          case sb_14 =>
                                                            (refine step_call _ (by rfl) 13 #[.agg #[.int .i64 (N : Int), .slice A5 n5 c5], .int .i64 (yy : Int)] (by go_simp) (HFy.out _ HI.out.bm) ?_; rintro e Yb ⟨⟨⟨Ap, np, cp⟩, ⟨Ak, nk, ck⟩, ⟨Ar, nr, cr⟩⟩, rfl, _, hbb⟩; refine ⟨_, rfl, ?_⟩; replace HI := Lib.hid (HI.out.after hbb); replace HU := Lib.hid (HU.out.after hbb); clear hbb)
                                                            refine hK.out _ _ ?kb_14 (fun hHeld => ?qb_14)
                                                            case kb_14 => ((try dsimp only); first | exact HSo2.out _ HIz.out.1 | exact HSo2.out _ HI.out)
                                                            case qb_14 =>
                                                              clear hK K
                                                              (try simp only [Act.put]); (try simp only [List.setIfInBounds_toArray])
                                                              refine wpAnyH_take (i := 6) (v := (.tuple #[.agg #[.int .i64 nd.id, .string nd.con, .int .i64 nd.par, .string nd.role, .slice Ap np cp, .slice Ak nk ck, .slice Ar nr cr], .bool true])) rfl (by kernel_rfl) (by kernel_rfl) (by kernel_rfl) (fun _ _ _ h => h) (Or.inl ⟨by rfl, ?yb_15⟩) (by assumption) ?qb_15
                                                              case yb_15 => (intro w hSw; (try dsimp only at hSw); go_simp)
                                                              case qb_15 =>
                                                                (try simp only [Act.put]); (try simp only [List.setIfInBounds_toArray])
                                                                refine wpAnyH_take (i := 7) (v := (.agg #[.int .i64 nd.id, .string nd.con, .int .i64 nd.par, .string nd.role, .slice Ap np cp, .slice Ak nk ck, .slice Ar nr cr])) rfl (by kernel_rfl) (by kernel_rfl) (by kernel_rfl) (fun _ _ _ h => h) (Or.inl ⟨by rfl, ?yb_16⟩) (by assumption) ?qb_16
                                                                case yb_16 => (intro w hSw; (try dsimp only at hSw); go_simp)
                                                                case qb_16 =>
                                                                  (try simp only [Act.put]); (try simp only [List.setIfInBounds_toArray])
                                                                  refine wpAnyH_take (i := 8) (v := (.bool true)) rfl (by kernel_rfl) (by kernel_rfl) (by kernel_rfl) (fun _ _ _ h => h) (Or.inl ⟨by rfl, ?yb_17⟩) (by assumption) ?qb_17
                                                                  case yb_17 => (intro w hSw; (try dsimp only at hSw); go_simp)
                                                                  case qb_17 =>
                                                                    (try simp only [Act.put]); (try simp only [List.setIfInBounds_toArray])
                                                                    refine wpAnyH_ready (rs := [10]) (by kernel_rfl) (by simp) ?_
                                                                    refine AllReadyH.cons rfl (fun K hK => ?sb_18) ?mb_18
                                                                    case sb_18 =>
                                                                      (have z0 := (HU.out.cell 0).trans (show _ = some (.int .i64 0) from rfl); have f0 := HU.out.frozen 0; have z1 := (HU.out.cell 1).trans (show _ = some (.string ⟨#[]⟩) from rfl); have f1 := HU.out.frozen 1; have z2 := (HU.out.cell 2).trans (show _ = some (.int .i64 0) from rfl); have f2 := HU.out.frozen 2; have z3 := (HU.out.cell 3).trans (show _ = some (.string ⟨#[]⟩) from rfl); have f3 := HU.out.frozen 3; have z4 := (HU.out.cell 4).trans (show _ = some (.slice none 0 0) from rfl); have f4 := HU.out.frozen 4; have z5 := (HU.out.cell 5).trans (show _ = some (.slice none 0 0) from rfl); have f5 := HU.out.frozen 5; have z6 := (HU.out.cell 6).trans (show _ = some (.slice none 0 0) from rfl); have f6 := HU.out.frozen 6; have HIz := Lib.hid (HI.out.stored7 HU.out HG9.out HNo.out (.int .i64 nd.id) (.string nd.con) (.int .i64 nd.par) (.string nd.role) (.slice Ap np cp) (.slice Ak nk ck) (.slice Ar nr cr)); go_simp)
                                                                      refine hK.out _ _ ?kb_18 (fun hHeld => ?qb_18)
                                                                      case kb_18 => ((try dsimp only); first | exact HSo2.out _ HIz.out.1 | exact HSo2.out _ HI.out)
                                                                      case qb_18 =>
                                                                        clear hK K
                                                                        (try simp only [Act.put]); (try simp only [List.setIfInBounds_toArray])
                                                                        refine wpAnyH_take (i := 11) (v := (.bool true)) rfl (by kernel_rfl) (by kernel_rfl) (by kernel_rfl) (fun _ _ _ h => h) (Or.inl ⟨by rfl, ?yb_19⟩) (by assumption) ?qb_19
                                                                        case yb_19 => (intro w hSw; (try dsimp only at hSw); go_simp)
                                                                        case qb_19 =>
                                                                          (try simp only [Act.put]); (try simp only [List.setIfInBounds_toArray])
                                                                          refine wpAnyH_done (by kernel_rfl) ?_ _
                                                                          clear hHeld
                                                                          go_wp2_with fail
                                                                          go_meet
                                                                          exact ⟨g9, _, rfl, rfl, Lib.hid HIz.out.1, Lib.hid ⟨HIz.out.2, rfl, rfl⟩⟩
                                                                    case mb_18 =>
                                                                      exact AllReadyH.nil
                                                          case mb_14 =>
                                                            exact AllReadyH.nil
                                                      case mb_13 =>
                                                        exact AllReadyH.nil
                                        case rest =>
                                          obtain ⟨g9, cs, rfl, rfl, HI, HNd⟩ := hcut
                                          rename World => wc
                                          have n0 := (HNd.out.1.cell 0).trans (HNd.out.2.1.trans (show _ = some (.int .i64 (yy : Int)) from by rw [HNI.out]))
                                          have n2 := (HNd.out.1.cell 2).trans HNd.out.2.2
                                          obtain ⟨c0, c1, c2⟩ := HSo2.out _ HI.out
                                          have d0 := HMk.out _ _ HI.out.mrk yy HyN.out
                                          rw [HNot.out] at d0
                                          have d1 : wc.frozen? ⟨gb, yy, none⟩ = false := Blk.frozen HI.out.mrk yy
                                          have hyi : (yy : Int) < (N : Int) := by have := HyN.out; omega
                                          have t1 : ((yy : Int) != (yy : Int)) = false := by simp
                                          have t2 : decide ((N : Int) ≤ (yy : Int)) = false := decide_eq_false (by omega)
                                          have t4 : decide (N ≤ yy) = false := decide_eq_false (by have := HyN.out; omega)
                                          have hN3 := HN2.out
                                          have hyn := HyN.out
                                          by_cases hp : nd.par = 0
                                          · have t3 : (nd.par != 0) = false := by rw [hp]; rfl
                                            clear hp
                                            go_upto_region 17 with (fail)
                                            have q0 := cell_regrown n0
                                            have q1 := cell_regrown n2
                                            have q2 := cell_regrown c0
                                            have q3 := cell_regrown c2
                                            have q4 := cell_regrown d0
                                            refine wp_region_quiet_below (by kernel_rfl) (by kernel_rfl) ?_
                                            repeat (go_big_quiet_step (fail))
                                            refine wpQuiet_nil ?_
                                            intro _ hw'
                                            obtain ⟨⟨dq, osq⟩, hw''⟩ := hw'
                                            subst hw''
                                            replace HI := Lib.hid (HI.out.after (below_regrown _ dq osq))
                                            generalize grow (redrawn _ dq) osq = wz at HI ⊢
                                            clear q0 q1 q2 q3 q4 n0 n2 c0 c1 c2 d0 d1
                                            obtain ⟨c0, c1, c2⟩ := HSo2.out _ HI.out
                                            have d0 := HMk.out _ _ HI.out.mrk yy HyN.out
                                            have d1 : wz.frozen? ⟨gb, yy, none⟩ = false := Blk.frozen HI.out.mrk yy
                                            go_wp2_with fail
                                            go_roundw
                                            case measure => simp only [intOf]; omega
                                            case rel => exact ⟨k + 1, by omega, by go_num, Lib.hid (by rw [HTk.out]; exact HI.out.mark HyN.out)⟩
                                          · have t3 : (nd.par != 0) = true := by rw [bne_iff_ne]; exact hp
                                            obtain ⟨hp1, hp2, hp3⟩ := HPar.out hp
                                            obtain ⟨pp, hpp⟩ : ∃ pp : Nat, nd.par = (pp : Int) := ⟨nd.par.toNat, by omega⟩
                                            have e0 := HMk.out _ _ HI.out.mrk pp (by omega)
                                            rw [← hpp, List.contains_iff_mem.2 hp1] at e0
                                            rw [hpp] at n2 t3
                                            have hpi : (pp : Int) < (N : Int) := by omega
                                            have t5 : ((pp : Int) == 0) = false := by rw [beq_eq_false_iff_ne]; rw [bne_iff_ne] at t3; exact t3
                                            have hpn : pp < N := by omega
                                            clear hp hp1 hp2 hp3 hpp
                                            go_upto_region 17 with (fail)
                                            have q0 := cell_regrown n0
                                            have q1 := cell_regrown n2
                                            have q2 := cell_regrown c0
                                            have q3 := cell_regrown c2
                                            have q4 := cell_regrown d0
                                            have q5 := cell_regrown e0
                                            refine wp_region_quiet_below (by kernel_rfl) (by kernel_rfl) ?_
                                            repeat (go_big_quiet_step (fail))
                                            refine wpQuiet_nil ?_
                                            intro _ hw'
                                            obtain ⟨⟨dq, osq⟩, hw''⟩ := hw'
                                            subst hw''
                                            replace HI := Lib.hid (HI.out.after (below_regrown _ dq osq))
                                            generalize grow (redrawn _ dq) osq = wz at HI ⊢
                                            clear q0 q1 q2 q3 q4 q5 e0 n0 n2 c0 c1 c2 d0 d1
                                            obtain ⟨c0, c1, c2⟩ := HSo2.out _ HI.out
                                            have d0 := HMk.out _ _ HI.out.mrk yy HyN.out
                                            have d1 : wz.frozen? ⟨gb, yy, none⟩ = false := Blk.frozen HI.out.mrk yy
                                            go_wp2_with fail
                                            go_roundw
                                            case measure => simp only [intOf]; omega
                                            case rel => exact ⟨k + 1, by omega, by go_num, Lib.hid (by rw [HTk.out]; exact HI.out.mark HyN.out)⟩
                                      · obtain rfl : k = L.length := by omega
                                        go_wp2_with fail
                                        go_roundw
                                        case rel => exact ⟨i + 1, ((N : Int), ql), A5, n5, c5, l5, by omega, by omega, by go_num, Lib.hid HI.out.bm, HOq⟩
                                        case measure => simp only [intOf]; omega
                                case mt_10 =>
                                  exact AllReadyH.nil
                      case mt_6 =>
                        exact AllReadyH.nil
                  case mt_5 =>
                    exact AllReadyH.nil
        · go_wp2_with fail
          go_ret
          exact ret_b (by simp) rfl HX.out.bel
      · go_wp2_with fail
        go_ret
        exact ret_b (by simp) rfl HX.out.bel
    · go_wp2_with fail
      go_ret
      exact ret_b (by simp) rfl HX.out.bel
end Go.Proofs.YtohinklkcinjpaaGreat
namespace Go.Proofs.YtohinklkcinjpaaGreat
open Go Go.RowKit Go.Sort Go.ChangeShapes Go.WideShapes Go.Deep Go.Joins
set_option linter.unusedVariables false
theorem cell_spot {w : World} {a : Addr} {u : Value} (h : w.cell? a = some u) : a.spot = none := by
  unfold World.cell? at h
  split at h
  · split at h
    · cases h
    · rename_i hs
      cases ha : a.spot with
      | none => rfl
      | some k => rw [ha] at hs; simp at hs
  · cases h
theorem add_zero_ (a : Addr) : a.add 0 = a := by unfold Addr.add; simp
theorem addr_plain {a : Addr} (h : a.spot = none) : a = ⟨a.block, a.off, none⟩ := by
  obtain ⟨b, o, s⟩ := a
  obtain rfl : s = none := h
  rfl
/-- cells of an own kind, by the elements' index -/
theorem flat_cells {α : Type} {w : World} {f : α → List Value} {s : Nat} (hs : ∀ a, (f a).length = s) (h0 : 0 < s) (l : List α) (a : Addr)
    (h : ∀ i p, l[i]? = some p → ∀ r u, (f p)[r]? = some u → w.cell? (a.add (i * s + r)) = some u) : ∀ j u, (l.flatMap f)[j]? = some u → w.cell? (a.add j) = some u := by
  intro j u hj
  have hl : j < l.length * s := by rw [← flatN_len hs l]; exact (List.getElem?_eq_some_iff.1 hj).1
  have hd : j / s < l.length := Nat.div_lt_of_lt_mul (by rwa [Nat.mul_comm] at hl)
  have hr : j % s < s := Nat.mod_lt _ h0
  have he : j / s * s + j % s = j := by rw [Nat.mul_comm]; exact Nat.div_add_mod j s
  have hp : l[j / s]? = some l[j / s] := List.getElem?_eq_getElem hd
  have := h (j / s) _ hp (j % s) u (by rw [← flatN_get hs l (j / s) _ hp _ hr, he]; exact hj)
  rwa [he] at this
theorem row_of {w : World} {base n c size : Nat} {a : Addr} {xs : List Value} (hlen : xs.length = n * size) (h0 : 0 < size) (hn : n ≤ c) (hm : c ≤ maxLen) (hb : base ≤ a.block)
    (hc : ∀ j u, xs[j]? = some u → w.cell? (a.add j) = some u) : Row w base w.heap.size size (some a) n c xs := by
  refine ⟨hlen, hn, hm, fun hp => ?_⟩
  have hl : 0 < xs.length := by rw [hlen]; exact Nat.mul_pos hp h0
  have h1 := hc 0 _ (List.getElem?_eq_getElem hl)
  rw [add_zero_] at h1
  have ha := addr_plain (cell_spot h1)
  have hlt := block_lt_of_cell h1
  refine ⟨a.block, a.off, by rw [← ha], hb, hlt, fun j u hu => ?_⟩
  · have := hc j u hu
    rw [ha, Addr.add_lit] at this; exact this
section
variable {H : Type}
end
section
variable {H : Type} {enc : TypeId × Value → H} {w : World} {base : Nat} {spare : Nat → Bool} {held : Bool}
theorem spare_le {spare : Nat → Bool} {b len cap m : Nat} (hl : len ≤ cap) (hm : m = (if spare b then cap else len)) : len ≤ m := by rw [hm]; split <;> omega
instance ndLeafInhabited : Inhabited (Nd × Leaf) := ⟨(⟨0, ByteArray.empty, 0, ByteArray.empty, [], [], []⟩, ⟨⟨none, 0, 0⟩, ⟨none, 0, 0⟩, ⟨none, 0, 0⟩⟩)⟩
end
section
variable {H : Type} {enc : TypeId × Value → H} {P : Program}
/-- what the row asks behind the call, where all that was there before lies as it lay: the same readings again -/
theorem post_read {f : Func} {s : ChangeSpec} {W W' : World} {args : Array Value} {v : Value} {ds gs : List (DataW H)} {before q : List MemPlace} (hW : DataW.Whole enc P f.params.toList s.vars false W args.toList ds gs before)
    (hres : DataW.TrodAll enc P W' W.heap.size (fun _ => false) false f.resultTypes.toList (v.resultList f.resultTypes.size) (s.fn H (ds ++ gs)).results [])
    (hargs : DataW.TrodAll enc P W' 0 (fun b => decide (b < W.heap.size)) true f.params.toList args.toList (s.fn H (ds ++ gs)).args q)
    (hvars : DataW.TrodVars enc P W' (fun b => decide (b < W.heap.size)) s.vars (s.fn H (ds ++ gs)).vars []) (hb : Below W.heap.size W W') :
    s.post enc P f false true false false W args v W' :=
  ⟨ds, gs, before, [], q, [], hW, hres, hargs, hvars, hb.frame _, fun h => by cases h⟩
end
end Go.Proofs.YtohinklkcinjpaaGreat

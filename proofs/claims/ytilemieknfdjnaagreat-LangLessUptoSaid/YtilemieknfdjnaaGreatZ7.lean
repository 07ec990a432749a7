/-
  WALKS: the document: a round of the loop over the templates.
-/
import Derived.Test.YtilemieknfdjnaaGreatZ6
namespace Go.Proofs.YtilemieknfdjnaaGreat
open Go Go.RowKit Go.Sort
set_option linter.unusedVariables false
attribute [local go_sem ↓] Go.wp_at_zero Go.wp_at_succ
set_option maxRecDepth 20000 in
set_option maxHeartbeats 3200000 in
/-- a round: one row of cells is told anew -/
theorem twin_te_round {wr X0 : World} {hi gB b o n c k : Nat} {Aq : Option Addr} {nq cq : Nat} {con : ByteArray} {cells : List CellD} {m : List (RowD × Sl)} {ov : Value} {fr0 fr2 fr3 fr4 fr5 fr6 fr7 fr8 fr11 fr12 fr13 fr14 fr15 fr16 fr17 fr18 fr19 fr20 fr21 fr22 fr23 fr24 fr25 fr26 fr27 fr28 fr29 fr30 fr31 fr32 fr33 fr34 fr35 fr36 fr37 fr38 fr39 fr40 fr41 fr42 fr43 fr44 fr45 fr46 fr47 fr48 fr49 fr50 fr51 fr52 fr53 fr54 fr55 fr56 fr57 fr58 fr59 fr60 fr61 fr62 fr63 fr64 fr65 fr66 fr67 fr68 fr69 fr70 fr71 fr72 fr73 fr74 fr75 fr76 fr77 fr78 fr79 fr80 fr81 fr82 fr83 fr84 fr85 fr86 fr87 fr88 fr89 fr90 fr91 fr92 fr93 fr94 fr95 fr96 fr97 fr98 fr99 fr100 fr101 fr102 fr103 fr104 fr105 fr106 fr107 fr108 fr109 fr110 fr111 fr112 fr113 fr114 fr115 fr116 fr117 fr118 fr119 fr120 fr121 fr122 fr123 fr124 fr125 fr126 : Value}
    (hSo : ∀ X : World, Below wr.heap.size wr X → (X.cell? ⟨gB, 7, none⟩ = some (.slice (some ⟨b, o, none⟩) n c) ∧ X.cell? ⟨b, o + k * 2, none⟩ = some (.string con) ∧ X.cell? ⟨b, o + k * 2 + 1, none⟩ = some (.slice Aq nq cq))) (hR : Row wr 0 hi 3 Aq nq cq (ceCells cells)) (hRn : nq = cells.length) (hnq : nq ≤ 20000) (hhw : hi ≤ wr.heap.size)
    (hB : Below X0.heap.size X0 wr) (hG : GL rowC (RowOwn 77) 58 2 X0.heap.size ov m wr) (hml : m.length = k) (hlt : k < n) (hn : n ≤ 20000)
    (Q : Exit → Act → World → Prop) (hPn : ∀ x (a a' : Act) (w : World), Q (.panic x) a w → a.defers = a'.defers → Q (.panic x) a' w)
    (hQ : ∀ (wx : World) (A' : Option Addr) (c' : Nat) (v7 v8 : Value), v8 = .int .i64 ((k + 1 : Nat) : Int) → ∀ fw99 fw100 fw101 fw102 fw103 fw104 fw105 fw106 fw107 fw108 fw109 fw110 fw111 fw112 fw113 fw114 fw115 fw116 fw117 fw118 fw119 fw120 fw121 fw122 fw123 : Value, Below X0.heap.size X0 wx → GL rowC (RowOwn 77) 58 2 X0.heap.size v7 (m ++ [(⟨con, cells⟩, ⟨A', nq, c'⟩)]) wx → Q .normal ⟨#[fr0, .pointer (some ⟨gB, 0, none⟩), fr2, fr3, fr4, fr5, fr6, fr7, fr8, v7, v8, fr11, fr12, fr13, fr14, fr15, fr16, fr17, fr18, fr19, fr20, fr21, fr22, fr23, fr24, fr25, fr26, fr27, fr28, fr29, fr30, fr31, fr32, fr33, fr34, fr35, fr36, fr37, fr38, fr39, fr40, fr41, fr42, fr43, fr44, fr45, fr46, fr47, fr48, fr49, fr50, fr51, fr52, fr53, fr54, fr55, fr56, fr57, fr58, fr59, fr60, fr61, fr62, fr63, fr64, fr65, fr66, fr67, fr68, fr69, fr70, fr71, fr72, fr73, fr74, fr75, fr76, fr77, fr78, fr79, fr80, fr81, fr82, fr83, fr84, fr85, fr86, fr87, fr88, fr89, fr90, fr91, fr92, fr93, fr94, fr95, fr96, fr97, fr98, fw99, fw100, fw101, fw102, fw103, fw104, fw105, fw106, fw107, fw108, fw109, fw110, fw111, fw112, fw113, fw114, fw115, fw116, fw117, fw118, fw119, fw120, fw121, fw122, fw123, fr124, fr125, fr126], []⟩ wx) :
    Code.wp Tryz.prog (twinBody 3) Q ⟨#[fr0, .pointer (some ⟨gB, 0, none⟩), fr2, fr3, fr4, fr5, fr6, fr7, fr8, ov, .int .i64 (k : Int), fr11, fr12, fr13, fr14, fr15, fr16, fr17, fr18, fr19, fr20, fr21, fr22, fr23, fr24, fr25, fr26, fr27, fr28, fr29, fr30, fr31, fr32, fr33, fr34, fr35, fr36, fr37, fr38, fr39, fr40, fr41, fr42, fr43, fr44, fr45, fr46, fr47, fr48, fr49, fr50, fr51, fr52, fr53, fr54, fr55, fr56, fr57, fr58, fr59, fr60, fr61, fr62, fr63, fr64, fr65, fr66, fr67, fr68, fr69, fr70, fr71, fr72, fr73, fr74, fr75, fr76, fr77, fr78, fr79, fr80, fr81, fr82, fr83, fr84, fr85, fr86, fr87, fr88, fr89, fr90, fr91, fr92, fr93, fr94, fr95, fr96, fr97, fr98, fr99, fr100, fr101, fr102, fr103, fr104, fr105, fr106, fr107, fr108, fr109, fr110, fr111, fr112, fr113, fr114, fr115, fr116, fr117, fr118, fr119, fr120, fr121, fr122, fr123, fr124, fr125, fr126], []⟩ wr := by
  obtain ⟨i6, hi6, hz6, hs6, hb6⟩ := info_parts info_te
  obtain ⟨i8, hi8, hz8, hs8, hb8⟩ := info_parts info_pi
  have HSo := Lib.hid hSo
  have HR := Lib.hid hR
  have HRn := Lib.hid hRn
  have HB := Lib.hid hB
  have HG := Lib.hid hG
  have HML := Lib.hid hml
  have HQe := Lib.hid hQ
  have pf := (hSo wr (Below.refl _ _)).1
  clear hSo hR hRn hB hG hml hQ
  conv => arg 2; whnf
  go_upto_region 25 with (fail)
  clear pf
  have HBz : Hid (Below wr.heap.size wr wr.drew) := Lib.hid (drew1_below _)
  refine wp_region_held_tail 17 (fun X : World => X.cell? ⟨gB, 7, none⟩ = some (.slice (some ⟨b, o, none⟩) n c) ∧ X.cell? ⟨b, o + k * 2, none⟩ = some (.string con) ∧ X.cell? ⟨b, o + k * 2 + 1, none⟩ = some (.slice Aq nq cq)) (by kernel_rfl) (by kernel_rfl) ?hSt (fun hHeld => ?qt0)
  case hSt => exact HSo.out _ HBz.out
  case qt0 =>
    generalize wr.drew = wz at HBz hHeld ⊢
    simp only [List.take_succ_cons, List.take_zero, List.drop_succ_cons, List.drop_zero]
    refine wpAnyH_take (i := 0) (v := ov) rfl (by kernel_rfl) (by kernel_rfl) (by kernel_rfl) (fun _ _ _ h => hPn _ _ _ _ h rfl) (Or.inl ⟨by rfl, ?yte_1⟩) (by assumption) ?qte_1
    case yte_1 => (intro w hSw; (try dsimp only at hSw); go_simp)
    case qte_1 =>
      (try simp only [Act.put]); (try simp only [List.setIfInBounds_toArray])
      refine wpAnyH_take (i := 1) (v := (.pointer (some ⟨gB, 7, none⟩))) rfl (by kernel_rfl) (by kernel_rfl) (by kernel_rfl) (fun _ _ _ h => hPn _ _ _ _ h rfl) (Or.inl ⟨by rfl, ?yte_2⟩) (by assumption) ?qte_2
      case yte_2 => (intro w hSw; (try dsimp only at hSw); go_simp)
      case qte_2 =>
        (try simp only [Act.put]); (try simp only [List.setIfInBounds_toArray])
        refine wpAnyH_take (i := 2) (v := (.slice (some ⟨b, o, none⟩) n c)) rfl (by kernel_rfl) (by kernel_rfl) (by kernel_rfl) (fun _ _ _ h => hPn _ _ _ _ h rfl) (Or.inl ⟨by rfl, ?yte_3⟩) (by assumption) ?qte_3
        case yte_3 => (intro w hSw; (try dsimp only at hSw); go_simp)
        case qte_3 =>
          (try simp only [Act.put]); (try simp only [List.setIfInBounds_toArray])
          refine wpAnyH_take (i := 3) (v := (.int .i64 k)) rfl (by kernel_rfl) (by kernel_rfl) (by kernel_rfl) (fun _ _ _ h => hPn _ _ _ _ h rfl) (Or.inl ⟨by rfl, ?yte_4⟩) (by assumption) ?qte_4
          case yte_4 => (intro w hSw; (try dsimp only at hSw); go_simp)
          case qte_4 =>
            (try simp only [Act.put]); (try simp only [List.setIfInBounds_toArray])
            refine wpAnyH_take (i := 4) (v := (.pointer (some ⟨b, o + k * 2, none⟩))) rfl (by kernel_rfl) (by kernel_rfl) (by kernel_rfl) (fun _ _ _ h => hPn _ _ _ _ h rfl) (Or.inl ⟨by rfl, ?yte_5⟩) (by assumption) ?qte_5
            case yte_5 => (intro w hSw; (try dsimp only at hSw); go_simp)
            case qte_5 =>
              (try simp only [Act.put]); (try simp only [List.setIfInBounds_toArray])
              refine wpAnyH_take (i := 5) (v := (.pointer (some ⟨b, o + k * 2, none⟩))) rfl (by kernel_rfl) (by kernel_rfl) (by kernel_rfl) (fun _ _ _ h => hPn _ _ _ _ h rfl) (Or.inl ⟨by rfl, ?yte_6⟩) (by assumption) ?qte_6
              case yte_6 => (intro w hSw; (try dsimp only at hSw); go_simp)
              case qte_6 =>
                (try simp only [Act.put]); (try simp only [List.setIfInBounds_toArray])
                refine wpAnyH_take (i := 6) (v := (.string con)) rfl (by kernel_rfl) (by kernel_rfl) (by kernel_rfl) (fun _ _ _ h => hPn _ _ _ _ h rfl) (Or.inl ⟨by rfl, ?yte_7⟩) (by assumption) ?qte_7
                case yte_7 => (intro w hSw; (try dsimp only at hSw); go_simp)
                case qte_7 =>
                  (try simp only [Act.put]); (try simp only [List.setIfInBounds_toArray])
                  refine wpAnyH_take (i := 8) (v := (.pointer (some ⟨gB, 7, none⟩))) rfl (by kernel_rfl) (by kernel_rfl) (by kernel_rfl) (fun _ _ _ h => hPn _ _ _ _ h rfl) (Or.inl ⟨by rfl, ?yte_8⟩) (by assumption) ?qte_8
                  case yte_8 => (intro w hSw; (try dsimp only at hSw); go_simp)
                  case qte_8 =>
                    (try simp only [Act.put]); (try simp only [List.setIfInBounds_toArray])
                    refine wpAnyH_take (i := 9) (v := (.slice (some ⟨b, o, none⟩) n c)) rfl (by kernel_rfl) (by kernel_rfl) (by kernel_rfl) (fun _ _ _ h => hPn _ _ _ _ h rfl) (Or.inl ⟨by rfl, ?yte_9⟩) (by assumption) ?qte_9
                    case yte_9 => (intro w hSw; (try dsimp only at hSw); go_simp)
                    case qte_9 =>
                      (try simp only [Act.put]); (try simp only [List.setIfInBounds_toArray])
                      refine wpAnyH_take (i := 10) (v := (.int .i64 k)) rfl (by kernel_rfl) (by kernel_rfl) (by kernel_rfl) (fun _ _ _ h => hPn _ _ _ _ h rfl) (Or.inl ⟨by rfl, ?yte_10⟩) (by assumption) ?qte_10
                      case yte_10 => (intro w hSw; (try dsimp only at hSw); go_simp)
                      case qte_10 =>
                        (try simp only [Act.put]); (try simp only [List.setIfInBounds_toArray])
                        refine wpAnyH_take (i := 11) (v := (.pointer (some ⟨b, o + k * 2, none⟩))) rfl (by kernel_rfl) (by kernel_rfl) (by kernel_rfl) (fun _ _ _ h => hPn _ _ _ _ h rfl) (Or.inl ⟨by rfl, ?yte_11⟩) (by assumption) ?qte_11
                        case yte_11 => (intro w hSw; (try dsimp only at hSw); go_simp)
                        case qte_11 =>
                          (try simp only [Act.put]); (try simp only [List.setIfInBounds_toArray])
                          refine wpAnyH_take (i := 12) (v := (.pointer (some ⟨b, o + k * 2 + 1, none⟩))) rfl (by kernel_rfl) (by kernel_rfl) (by kernel_rfl) (fun _ _ _ h => hPn _ _ _ _ h rfl) (Or.inl ⟨by rfl, ?yte_12⟩) (by assumption) ?qte_12
                          case yte_12 => (intro w hSw; (try dsimp only at hSw); go_simp)
                          case qte_12 =>
                            (try simp only [Act.put]); (try simp only [List.setIfInBounds_toArray])
                            refine wpAnyH_take (i := 13) (v := (.slice Aq nq cq)) rfl (by kernel_rfl) (by kernel_rfl) (by kernel_rfl) (fun _ _ _ h => hPn _ _ _ _ h rfl) (Or.inl ⟨by rfl, ?yte_13⟩) (by assumption) ?qte_13
                            case yte_13 => (intro w hSw; (try dsimp only at hSw); go_simp)
                            case qte_13 =>
                              (try simp only [Act.put]); (try simp only [List.setIfInBounds_toArray])
                              refine wpAnyH_ready (rs := [7]) (by kernel_rfl) (by simp) ?_
                              refine AllReadyH.cons rfl (fun K hK => ?ste_14) ?mte_14
                              case ste_14 =>
                                (refine step_empty _ (by rfl) 77 (by go_simp) ?_; intro g7 Y7 hx7 hb7 hs7; have HU := Lib.hid hx7; have HG7 := Lib.hid (Nat.le_trans HBz.out.size hs7); replace HBz := Lib.hid (HBz.out.trans (hb7.mono HBz.out.size)); clear hx7 hb7 hs7)
                                refine hK.out _ _ ?kte_14 (fun hHeld => ?qte_14)
                                case kte_14 => ((try dsimp only); exact HSo.out _ HBz.out)
                                case qte_14 =>
                                  clear hK K
                                  (try simp only [Act.put]); (try simp only [List.setIfInBounds_toArray])
                                  refine wpAnyH_ready (rs := [14]) (by kernel_rfl) (by simp) ?_
                                  refine AllReadyH.cons rfl (fun K hK => ?ste_15) ?mte_15
                                  case ste_15 =>
                                    (refine step_appN (by rfl) (.tmp 113) (.tmp 119) _ (by rfl) 77 i8 _ 3 40 Tryz.underlying56 hi8 hz8 hs8 hb8 rfl (by omega) (by go_simp) HBz.out HU.out HG7.out (by go_simp) (Row.below (Row.mono HR.out (Nat.le_refl _) hhw) HBz.out) (ceCells_one _) (by unfold maxLen; omega) (by omega) ?_; intro A1' c1' Y1 ho1 hb1; have HO := Lib.hid (own_mono ho1 HB.out.size); have HO' := Lib.hid ho1; replace HBz := Lib.hid hb1; clear ho1 hb1)
                                    refine hK.out _ _ ?kte_15 (fun hHeld => ?qte_15)
                                    case kte_15 => ((try dsimp only); exact HSo.out _ HBz.out)
                                    case qte_15 =>
                                      clear hK K
                                      (try simp only [Act.put]); (try simp only [List.setIfInBounds_toArray])
                                      refine wpAnyH_take (i := 15) (v := (.agg #[.string con, .slice A1' nq c1'])) rfl (by kernel_rfl) (by kernel_rfl) (by kernel_rfl) (fun _ _ _ h => hPn _ _ _ _ h rfl) (Or.inl ⟨by rfl, ?yte_16⟩) (by assumption) ?qte_16
                                      case yte_16 => (intro w hSw; (try dsimp only at hSw); go_simp)
                                      case qte_16 =>
                                        (try simp only [Act.put]); (try simp only [List.setIfInBounds_toArray])
                                        refine wpAnyH_ready (rs := [16]) (by kernel_rfl) (by simp) ?_
                                        refine AllReadyH.cons rfl (fun K hK => ?ste_17) ?mte_17
                                        case ste_17 =>
                                          (refine step_mk1 _ (by rfl) 58 #[.string con, .slice A1' nq c1'] (by go_simp) ?_; intro g8 Y8 hx8 hb8 hs8; have HU8 := Lib.hid hx8; replace HO := Lib.hid (own_after HO.out hb8); replace HO' := Lib.hid (own_after HO'.out hb8); replace HBz := Lib.hid (HBz.out.trans (hb8.mono HBz.out.size)); clear hx8 hb8 hs8)
                                          refine hK.out _ _ ?kte_17 (fun hHeld => ?qte_17)
                                          case kte_17 => ((try dsimp only); exact HSo.out _ HBz.out)
                                          case qte_17 =>
                                            clear hK K
                                            (try simp only [Act.put]); (try simp only [List.setIfInBounds_toArray])
                                            refine wpAnyH_done (by kernel_rfl) ?_ _
                                            clear hHeld
                                            have HGz := Lib.hid (HG.out.after teOK HBz.out)
                                            have HBa := Lib.hid (HB.out.trans (HBz.out.mono HB.out.size))
                                            have HRw : Hid (Row Y8 g8 (g8 + 1) 2 (some ⟨g8, 0, none⟩) 1 1 [.string con, .slice A1' nq c1']) := Lib.hid (row_blk HU8.out rfl (Nat.le_refl _) (by unfold maxLen; omega))
                                            show wpList _ _ _ _ _ _
                                            go_wp2_with (at_builtin; with_reducible show wpList _ _ _ (⟨some 123, _, _, _, _, _⟩ :: _) _ _; go_must (refine wpList_app (o := ⟨some 123, _, _, _, _, _⟩) _ rfl (.tmp 106) (.tmp 122) _ rfl X0.heap.size 58 i6 _ 2 40 Tryz.underlying27 hi6 hz6 hs6 hb6 rfl (by omega) ov m.length (m.flatMap rowC) (by go_simp) HGz.out.own g8 (g8 + 1) (some ⟨g8, 0, none⟩) 1 1 [.string con, .slice A1' nq c1'] (by go_simp) HRw.out (row_one con A1' nq c1') (by have := HML.out; unfold maxLen; omega) (by have := HML.out; omega) HBa.out.size ?_); go_must (intro v2 w3 hown2 hgr2 _; have HB2 := Lib.hid (below_grows HBa.out hgr2 HGz.out.own (Nat.le_refl _)); have HG2 := Lib.hid (GL.push (p := (⟨con, cells⟩, ⟨A1', nq, c1'⟩)) HGz.out teOK hgr2 hown2 ⟨HRn.out, HO.out⟩ HB.out.size (fun g hg => rowLt (HG.out.leaf g hg)) ⟨HRn.out, HO'.out⟩); clear hown2 hgr2))
                                            exact HQe.out _ _ _ _ _ (by go_num) _ _ _ _ _ _ _ _ _ _ _ _ _ _ _ _ _ _ _ _ _ _ _ _ _ HB2.out HG2.out
                                        case mte_17 =>
                                          exact AllReadyH.nil
                                  case mte_15 =>
                                    exact AllReadyH.nil
                              case mte_14 =>
                                exact AllReadyH.nil
end Go.Proofs.YtilemieknfdjnaaGreat

/-
  WALKS over the document's sheet: Parse.
-/
import Derived.Test.YtjjlofaejpnnnaaGreatDoorZR24
namespace Go.Proofs.YtjjlofaejpnnnaaGreatDoor
open Go Go.RowKit Go.Sort
set_option linter.unusedVariables false
theorem step_storeRowD {P : Program} {w : World} {ops : Array Oper} {o : Oper} {a : Act} {K : Act → World → Prop} {Q : Exit → Act → World → Prop} {E : Prop} (hgd : o.guard = none) (ty : TypeId) (x y : Operand) (ho : o.op = .store ty x y)
    (g : Nat) (cells : Array Value) (hx : a.eval x = .pointer (some ⟨g, 0, none⟩)) (hy : a.eval y = .agg cells)
    (t : TypeId) (old : Array Value) (hg : Blk w g t old) (hi : (P.info? ty).map (·.size) = some cells.size)
    (hold : old.size = cells.size) (h1 : cells.all (·.oneCell') = true) (hK : K (a.put o.dst undef) (w.setRow g cells)) : if Region.wanted o (yielded ops a.tmps) = true then Oper.wp P o a w K Q else E := by
  have hw : Region.wanted o (yielded ops a.tmps) = true := by simp [Region.wanted, hgd]
  rw [if_pos hw]
  exact wp_store_row ty x y ho g cells hx hy t old hg hi hold h1 hK
theorem cutA_stop {c : UInt8} {t : List UInt8} (h : c = 10) : cutA 10 (c :: t) = [] := by
  unfold cutA
  rw [List.takeWhile_cons, if_neg (by simp [h])]
theorem cutA_go {c : UInt8} {t : List UInt8} (h : c ≠ 10) : (cutA 10 (c :: t)).length = (cutA 10 t).length + 1 := by
  unfold cutA
  rw [List.takeWhile_cons, if_pos (by simp [h]), List.length_cons]
set_option maxRecDepth 20000 in
set_option maxHeartbeats 25600000 in
theorem refParse_any (w : World) (s : ByteArray) : Calls Tryz.prog 9 #[.string s] w (ParseD w (parseV s.data.toList)) := by
  have hres : Tryz.f9.results = #[.cell 2 25, .tmp 3, .tmp 4] := by kernel_rfl
  have bx0 : Blk (w.alloc (.cells #[.int .i64 0, .slice none 0 0] 25)) w.heap.size 25 #[.int .i64 0, .slice none 0 0] := Blk.new _ _ _
  by_cases hl : 1048576 < s.size
  · have HX : Hid (parseV s.data.toList = ((0, []), 0, 3)) := Lib.hid (by unfold parseV; rw [if_pos (by rw [toList_eq]; exact hl)])
    have hl1 : (1048576 : Int) < (s.size : Int) := by omega
    have bx := bx0
    clear hl bx0
    go_enter Tryz.func9, Tryz.ntmps9
    go_wp2_with ((with_reducible show wpList _ _ _ (Oper.mk _ (Op.store 25 _ _) _ _ _ _ :: _) _ _); refine wpList_store_row rfl _ _ _ rfl w.heap.size _ rfl rfl 25 #[.int .i64 0, .slice none 0 0] bx infoModelD rfl (oneModelD _ _ _ _) ?_)
    (try simp only [Exit.inBlock, Exit.then])
    refine bodyPost_ret (parseD_res _ hres (v3 := .int .i64 0) (v4 := .int .i64 3) (setRow_heap _ _ _ _ _ _ bx) _ (by go_simp) (by go_simp) (by go_simp)) rfl ?_
    exact parseD_no HX.out (below_setRowD ((Below.refl _ _).alloc (Nat.le_refl _) _) (Nat.le_refl _))
  · have HX : Hid (parseV s.data.toList = (match linesV (s.data.toList.length + 1) ⟨0, [], []⟩ 0 s.data.toList with
      | .inl st => ((st.next, sortV st.nds), 0, 0)
      | .inr k => ((0, []), (k : Int), 30))) := Lib.hid (by unfold parseV; rw [if_neg (by rw [toList_eq]; exact hl)]; rfl)
    have hl1 : ¬ (1048576 : Int) < (s.size : Int) := by omega
    have HP0 := Lib.hid (uin_start w)
    have HL0 := Lib.hid (LeftU.start s)
    have hss : s.size ≤ 1048576 := by omega
    have HNO : Hid (∀ c : Nat, linesV (s.data.toList.length + 1) ⟨0, [], []⟩ 0 s.data.toList = .inr (c + 1) → parseV s.data.toList = ((0, []), ((c + 1 : Nat) : Int), 30)) := Lib.hid fun c h => by rw [HX.out, h]
    have HYS : Hid (∀ st : RS, linesV (s.data.toList.length + 1) ⟨0, [], []⟩ 0 s.data.toList = .inl st → parseV s.data.toList = ((st.next, sortV st.nds), 0, 0)) := Lib.hid fun st h => by rw [HX.out, h]
    clear hl HX bx0
    go_enter Tryz.func9, Tryz.ntmps9
    go_upto_region 4 with (fail)
    generalize (w.alloc (.cells #[.int .i64 0, .slice none 0 0] 25)).alloc (.cells #[.int .i64 0, .slice none 0 0, .slice none 0 0, .int .i64 0] 51) = W0 at HP0 ⊢
    go_wp2_with fail
    go_loopw [6, 7, 8] (fun a6 a7 a8 wr => ∃ (fr c : Nat) (st : RS), a6 = .int .i64 fr ∧ fr ≤ s.size ∧ c ≤ fr ∧ (c = 0 → fr = 0) ∧ Hid (PU w c st wr) ∧ Hid (LeftU (s.data.toList.length + 1) s fr c st)) (fun a6 _ _ _ => s.size - (intOf a6).toNat)
    case atStart => exact ⟨0, 0, _, rfl, Nat.zero_le _, Nat.le_refl _, fun _ => rfl, HP0, HL0⟩
    case round =>
      rename World => wr
      obtain ⟨fr, c, st, rfl, hfr, hcf, hc0, HPU, HLF⟩ := hrel
      clear HP0 HL0
      by_cases hlf : fr < s.size
      · have hgo : fr < s.size ∨ c = 0 := .inl hlf
        have d0 : (fr : Int) < (s.size : Int) := by omega
        clear HYS
        go_upto_region 7 with fail
        go_loop [7] (fun a7 => ∃ n : Nat, a7 = .int .i64 n ∧ fr ≤ n ∧ n ≤ s.size ∧ Hid (fr + (cutA 10 (s.data.toList.drop fr)).length = n + (cutA 10 (s.data.toList.drop n)).length)) (fun a7 => s.size - (intOf a7).toNat)
        case atStart => exact ⟨fr, rfl, Nat.le_refl _, hfr, Lib.hid rfl⟩
        case round =>
          obtain ⟨n, rfl, hfn, hn, HE⟩ := hrel
          by_cases hlt : n < s.size
          · have e0 := drop_get' s n hlt
            by_cases h10 : s[n].toNat = 10
            · have d1 : ((s[n].toNat : Int) != 10) = false := by rw [bne_eq_false_iff_eq]; omega
              have HEN : Hid (fr + (cutA 10 (s.data.toList.drop fr)).length = n) := Lib.hid (by rw [HE.out, e0, cutA_stop (UInt8.toNat_inj.1 (by rw [h10]; rfl))]; rfl)
              clear h10 e0 HE
              have htz := (cut_two s 0 (Nat.zero_le _))
              have hT : (s.extract fr n).size ≤ 1048576 := by rw [← toList_eq, line_is s fr n HEN.out]; have := cutA_leD (s.data.toList.drop fr); rw [List.length_drop, toList_eq] at this; omega
              have HTK := Lib.hid (HPU.out.takes (by omega) (s.extract fr n) hT)
              clear htz hT
              cases htv : takesV st (s.extract fr n).data.toList with
              | none =>
                have HF := Lib.hid (HNO.out c (HLF.out.no hgo HEN.out hn (.inl htv)))
                rw [htv] at HTK
                clear htv HLF HNO
                go_upto_region 11 with (go_at_call 21; refine HTK.out.mono ?_; rintro e w2 ⟨rfl, hb2, hx2, hc2, hst⟩; have HB2 := Lib.hid hb2; have bx := hx2; have HST := Lib.hid hst; clear hb2 hx2 hst; (try simp only [Option.isSome_none, Option.isSome_some]))
                have HBD : Hid (Blk w2.drew w.heap.size 25 #[.int .i64 0, .slice none 0 0]) := Lib.hid (bx.after (drewS_below _))
                have HGU : Hid (∀ Y : World, Y.cell? ⟨w.heap.size + 1, 3, none⟩ = some (.int .i64 ((c + 1 : Nat) : Int)) → (Y.setRow w.heap.size #[.int .i64 0, .slice none 0 0]).cell? ⟨w.heap.size + 1, 3, none⟩ = some (.int .i64 ((c + 1 : Nat) : Int))) := Lib.hid fun Y hY => (World.cell?_of_block (a := ⟨w.heap.size + 1, 3, none⟩) (setRow_other Y w.heap.size (w.heap.size + 1) _ (by omega))).trans hY
                have HC2 : Hid (w2.drew.cell? ⟨w.heap.size + 1, 3, none⟩ = some (.int .i64 ((c + 1 : Nat) : Int))) := Lib.hid hc2
                clear hc2
                refine wp_region_held_tail 6 (fun Y => Y.cell? ⟨w.heap.size + 1, 3, none⟩ = some (.int .i64 ((c + 1 : Nat) : Int))) (by kernel_rfl) (by kernel_rfl) ?hS11 (fun hHeld => ?q11)
                case hS11 => exact HC2.out
                case q11 =>
                  simp only [List.take_succ_cons, List.take_zero, List.drop_succ_cons, List.drop_zero]
                  refine wpAnyH_take (i := 0) (oi := ⟨some 57, _, _, _, _, _⟩) (v := (.agg #[.int .i64 0, .slice none 0 0])) rfl (by kernel_rfl) (by kernel_rfl) (by kernel_rfl) (fun _ _ _ h => h) (Or.inl ⟨by rfl, ?ys_1⟩) (by assumption) ?qs_1
                  case ys_1 => (intro w hSw; (try dsimp only at hSw); go_simp)
                  case qs_1 =>
                    (try simp only [Act.put]); (try simp only [List.setIfInBounds_toArray])
                    refine wpAnyH_take (i := 1) (oi := ⟨some 58, _, _, _, _, _⟩) (v := (.pointer (some ⟨w.heap.size + 1, 0, none⟩))) rfl (by kernel_rfl) (by kernel_rfl) (by kernel_rfl) (fun _ _ _ h => h) (Or.inl ⟨by rfl, ?ys_2⟩) (by assumption) ?qs_2
                    case ys_2 => (intro w hSw; (try dsimp only at hSw); go_simp)
                    case qs_2 =>
                      (try simp only [Act.put]); (try simp only [List.setIfInBounds_toArray])
                      refine wpAnyH_take (i := 2) (oi := ⟨some 59, _, _, _, _, _⟩) (v := (.pointer (some ⟨w.heap.size + 1, 0, none⟩))) rfl (by kernel_rfl) (by kernel_rfl) (by kernel_rfl) (fun _ _ _ h => h) (Or.inl ⟨by rfl, ?ys_3⟩) (by assumption) ?qs_3
                      case ys_3 => (intro w hSw; (try dsimp only at hSw); go_simp)
                      case qs_3 =>
                        (try simp only [Act.put]); (try simp only [List.setIfInBounds_toArray])
                        refine wpAnyH_take (i := 3) (oi := ⟨some 60, _, _, _, _, _⟩) (v := (.pointer (some ⟨w.heap.size + 1, 3, none⟩))) rfl (by kernel_rfl) (by kernel_rfl) (by kernel_rfl) (fun _ _ _ h => h) (Or.inl ⟨by rfl, ?ys_4⟩) (by assumption) ?qs_4
                        case ys_4 => (intro w hSw; (try dsimp only at hSw); go_simp)
                        case qs_4 =>
                          (try simp only [Act.put]); (try simp only [List.setIfInBounds_toArray])
                          refine wpAnyH_take (i := 4) (oi := ⟨some 61, _, _, _, _, _⟩) (v := (.int .i64 ((c + 1 : Nat) : Int))) rfl (by kernel_rfl) (by kernel_rfl) (by kernel_rfl) (fun _ _ _ h => h) (Or.inl ⟨by rfl, ?ys_5⟩) (by assumption) ?qs_5
                          case ys_5 => (intro w hSw; (try dsimp only at hSw); go_simp)
                          case qs_5 =>
                            (try simp only [Act.put]); (try simp only [List.setIfInBounds_toArray])
                            refine wpAnyH_ready (rs := [5]) (by kernel_rfl) (by simp) ?_
                            refine AllReadyH.cons (o := ⟨none, _, _, _, _, _⟩) rfl (fun K hK => ?ss_6) ?ms_6
                            case ss_6 =>
                              refine step_storeRowD (by rfl) 25 _ _ (by rfl) w.heap.size #[.int .i64 0, .slice none 0 0] (by go_simp) (by go_simp) 25 #[.int .i64 0, .slice none 0 0] HBD.out infoModelD rfl (oneModelD _ _ _ _) ?_
                              refine hK.out _ _ ?ks_6 (fun hHeld => ?qs_6)
                              case ks_6 => ((try dsimp only); exact HGU.out _ HC2.out)
                              case qs_6 =>
                                clear hK K
                                (try simp only [Act.put]); (try simp only [List.setIfInBounds_toArray])
                                refine wpAnyH_done (by kernel_rfl) ?_ _
                                clear hHeld
                                show wpList _ _ _ _ _ _
                                have bx := HBD.out
                                go_wp2_with fail
                                (try simp only [Exit.noGoto_ret, Exit.inBlock, Exit.then])
                                refine bodyPost_ret (parseD_res _ hres (v3 := .int .i64 ((c + 1 : Nat) : Int)) (v4 := .int .i64 30) (setRow_heap _ _ _ _ _ _ bx) _ (by go_simp) (by go_simp) (by go_simp)) rfl ?_
                                exact parseD_no HF.out (below_setRowD (HB2.out.trans ((drewS_below _).mono HB2.out.size)) (Nat.le_refl _))
                            case ms_6 =>
                              exact AllReadyH.nil
              | some st' =>
                have HLF2 := Lib.hid (HLF.out.next hgo HEN.out hlt htv)
                rw [htv] at HTK
                have hnn : ((n : Int) == (s.size : Int)) = false := by rw [beq_eq_false_iff_ne]; omega
                clear htv HLF hgo
                go_wp2_with (go_at_call 21; refine HTK.out.mono ?_; rintro e w2 ⟨rfl, hb2, hx2, hc2, hst⟩; have HB2 := Lib.hid hb2; have bx := hx2; have HST := Lib.hid hst; clear hb2 hx2 hst; (try simp only [Option.isSome_none, Option.isSome_some]))
                go_roundw
                case rel => exact ⟨n + 1, c + 1, st', by go_num, by omega, by omega, fun h => by omega, Lib.hid (HST.out _ rfl), HLF2⟩
                case measure => simp [intOf]; omega
            · have d1 : ((s[n].toNat : Int) != 10) = true := by rw [bne_iff_ne]; omega
              have HE2 : Hid (fr + (cutA 10 (s.data.toList.drop fr)).length = (n + 1) + (cutA 10 (s.data.toList.drop (n + 1))).length) := Lib.hid (by rw [HE.out, e0, cutA_go fun e => h10 (by rw [e]; rfl)]; omega)
              clear h10 e0 HE
              go_wp2_with fail
              go_round
              case rel => exact ⟨n + 1, by go_num, by omega, by omega, HE2⟩
              case measure => simp [intOf]; omega
          · have d1 : ¬ (n : Int) < (s.size : Int) := by omega
            have HEN : Hid (fr + (cutA 10 (s.data.toList.drop fr)).length = n) := Lib.hid (by rw [HE.out, drop_empty (by omega)]; rfl)
            clear HE
            have htz := (cut_two s 0 (Nat.zero_le _))
            have hT : (s.extract fr n).size ≤ 1048576 := by rw [← toList_eq, line_is s fr n HEN.out]; have := cutA_leD (s.data.toList.drop fr); rw [List.length_drop, toList_eq] at this; omega
            have HTK := Lib.hid (HPU.out.takes (by omega) (s.extract fr n) hT)
            clear htz hT
            cases htv : takesV st (s.extract fr n).data.toList with
            | none =>
              have HF := Lib.hid (HNO.out c (HLF.out.no hgo HEN.out hn (.inl htv)))
              rw [htv] at HTK
              clear htv HLF HNO
              go_upto_region 11 with (go_at_call 21; refine HTK.out.mono ?_; rintro e w2 ⟨rfl, hb2, hx2, hc2, hst⟩; have HB2 := Lib.hid hb2; have bx := hx2; have HST := Lib.hid hst; clear hb2 hx2 hst; (try simp only [Option.isSome_none, Option.isSome_some]))
              have HBD : Hid (Blk w2.drew w.heap.size 25 #[.int .i64 0, .slice none 0 0]) := Lib.hid (bx.after (drewS_below _))
              have HGU : Hid (∀ Y : World, Y.cell? ⟨w.heap.size + 1, 3, none⟩ = some (.int .i64 ((c + 1 : Nat) : Int)) → (Y.setRow w.heap.size #[.int .i64 0, .slice none 0 0]).cell? ⟨w.heap.size + 1, 3, none⟩ = some (.int .i64 ((c + 1 : Nat) : Int))) := Lib.hid fun Y hY => (World.cell?_of_block (a := ⟨w.heap.size + 1, 3, none⟩) (setRow_other Y w.heap.size (w.heap.size + 1) _ (by omega))).trans hY
              have HC2 : Hid (w2.drew.cell? ⟨w.heap.size + 1, 3, none⟩ = some (.int .i64 ((c + 1 : Nat) : Int))) := Lib.hid hc2
              clear hc2
              refine wp_region_held_tail 6 (fun Y => Y.cell? ⟨w.heap.size + 1, 3, none⟩ = some (.int .i64 ((c + 1 : Nat) : Int))) (by kernel_rfl) (by kernel_rfl) ?hS11 (fun hHeld => ?q11)
              case hS11 => exact HC2.out
              case q11 =>
                simp only [List.take_succ_cons, List.take_zero, List.drop_succ_cons, List.drop_zero]
                refine wpAnyH_take (i := 0) (oi := ⟨some 57, _, _, _, _, _⟩) (v := (.agg #[.int .i64 0, .slice none 0 0])) rfl (by kernel_rfl) (by kernel_rfl) (by kernel_rfl) (fun _ _ _ h => h) (Or.inl ⟨by rfl, ?ys_1⟩) (by assumption) ?qs_1
                case ys_1 => (intro w hSw; (try dsimp only at hSw); go_simp)
                case qs_1 =>
                  (try simp only [Act.put]); (try simp only [List.setIfInBounds_toArray])
                  refine wpAnyH_take (i := 1) (oi := ⟨some 58, _, _, _, _, _⟩) (v := (.pointer (some ⟨w.heap.size + 1, 0, none⟩))) rfl (by kernel_rfl) (by kernel_rfl) (by kernel_rfl) (fun _ _ _ h => h) (Or.inl ⟨by rfl, ?ys_2⟩) (by assumption) ?qs_2
                  case ys_2 => (intro w hSw; (try dsimp only at hSw); go_simp)
                  case qs_2 =>
                    (try simp only [Act.put]); (try simp only [List.setIfInBounds_toArray])
                    refine wpAnyH_take (i := 2) (oi := ⟨some 59, _, _, _, _, _⟩) (v := (.pointer (some ⟨w.heap.size + 1, 0, none⟩))) rfl (by kernel_rfl) (by kernel_rfl) (by kernel_rfl) (fun _ _ _ h => h) (Or.inl ⟨by rfl, ?ys_3⟩) (by assumption) ?qs_3
                    case ys_3 => (intro w hSw; (try dsimp only at hSw); go_simp)
                    case qs_3 =>
                      (try simp only [Act.put]); (try simp only [List.setIfInBounds_toArray])
                      refine wpAnyH_take (i := 3) (oi := ⟨some 60, _, _, _, _, _⟩) (v := (.pointer (some ⟨w.heap.size + 1, 3, none⟩))) rfl (by kernel_rfl) (by kernel_rfl) (by kernel_rfl) (fun _ _ _ h => h) (Or.inl ⟨by rfl, ?ys_4⟩) (by assumption) ?qs_4
                      case ys_4 => (intro w hSw; (try dsimp only at hSw); go_simp)
                      case qs_4 =>
                        (try simp only [Act.put]); (try simp only [List.setIfInBounds_toArray])
                        refine wpAnyH_take (i := 4) (oi := ⟨some 61, _, _, _, _, _⟩) (v := (.int .i64 ((c + 1 : Nat) : Int))) rfl (by kernel_rfl) (by kernel_rfl) (by kernel_rfl) (fun _ _ _ h => h) (Or.inl ⟨by rfl, ?ys_5⟩) (by assumption) ?qs_5
                        case ys_5 => (intro w hSw; (try dsimp only at hSw); go_simp)
                        case qs_5 =>
                          (try simp only [Act.put]); (try simp only [List.setIfInBounds_toArray])
                          refine wpAnyH_ready (rs := [5]) (by kernel_rfl) (by simp) ?_
                          refine AllReadyH.cons (o := ⟨none, _, _, _, _, _⟩) rfl (fun K hK => ?ss_6) ?ms_6
                          case ss_6 =>
                            refine step_storeRowD (by rfl) 25 _ _ (by rfl) w.heap.size #[.int .i64 0, .slice none 0 0] (by go_simp) (by go_simp) 25 #[.int .i64 0, .slice none 0 0] HBD.out infoModelD rfl (oneModelD _ _ _ _) ?_
                            refine hK.out _ _ ?ks_6 (fun hHeld => ?qs_6)
                            case ks_6 => ((try dsimp only); exact HGU.out _ HC2.out)
                            case qs_6 =>
                              clear hK K
                              (try simp only [Act.put]); (try simp only [List.setIfInBounds_toArray])
                              refine wpAnyH_done (by kernel_rfl) ?_ _
                              clear hHeld
                              show wpList _ _ _ _ _ _
                              have bx := HBD.out
                              go_wp2_with fail
                              (try simp only [Exit.noGoto_ret, Exit.inBlock, Exit.then])
                              refine bodyPost_ret (parseD_res _ hres (v3 := .int .i64 ((c + 1 : Nat) : Int)) (v4 := .int .i64 30) (setRow_heap _ _ _ _ _ _ bx) _ (by go_simp) (by go_simp) (by go_simp)) rfl ?_
                              exact parseD_no HF.out (below_setRowD (HB2.out.trans ((drewS_below _).mono HB2.out.size)) (Nat.le_refl _))
                          case ms_6 =>
                            exact AllReadyH.nil
            | some st' =>
              have HF := Lib.hid (HNO.out c (HLF.out.no hgo HEN.out hn (.inr hlt)))
              rw [htv] at HTK
              have hnn : ((n : Int) == (s.size : Int)) = true := by rw [beq_iff_eq]; omega
              clear htv HLF HNO
              go_upto_region 11 with (go_at_call 21; refine HTK.out.mono ?_; rintro e w2 ⟨rfl, hb2, hx2, hc2, hst⟩; have HB2 := Lib.hid hb2; have bx := hx2; have HST := Lib.hid hst; clear hb2 hx2 hst; (try simp only [Option.isSome_none, Option.isSome_some]))
              have HBD : Hid (Blk w2.drew w.heap.size 25 #[.int .i64 0, .slice none 0 0]) := Lib.hid (bx.after (drewS_below _))
              have HGU : Hid (∀ Y : World, Y.cell? ⟨w.heap.size + 1, 3, none⟩ = some (.int .i64 ((c + 1 : Nat) : Int)) → (Y.setRow w.heap.size #[.int .i64 0, .slice none 0 0]).cell? ⟨w.heap.size + 1, 3, none⟩ = some (.int .i64 ((c + 1 : Nat) : Int))) := Lib.hid fun Y hY => (World.cell?_of_block (a := ⟨w.heap.size + 1, 3, none⟩) (setRow_other Y w.heap.size (w.heap.size + 1) _ (by omega))).trans hY
              have HC2 : Hid (w2.drew.cell? ⟨w.heap.size + 1, 3, none⟩ = some (.int .i64 ((c + 1 : Nat) : Int))) := Lib.hid hc2
              clear hc2
              refine wp_region_held_tail 6 (fun Y => Y.cell? ⟨w.heap.size + 1, 3, none⟩ = some (.int .i64 ((c + 1 : Nat) : Int))) (by kernel_rfl) (by kernel_rfl) ?hS11 (fun hHeld => ?q11)
              case hS11 => exact HC2.out
              case q11 =>
                simp only [List.take_succ_cons, List.take_zero, List.drop_succ_cons, List.drop_zero]
                refine wpAnyH_take (i := 0) (oi := ⟨some 57, _, _, _, _, _⟩) (v := (.agg #[.int .i64 0, .slice none 0 0])) rfl (by kernel_rfl) (by kernel_rfl) (by kernel_rfl) (fun _ _ _ h => h) (Or.inl ⟨by rfl, ?ys_1⟩) (by assumption) ?qs_1
                case ys_1 => (intro w hSw; (try dsimp only at hSw); go_simp)
                case qs_1 =>
                  (try simp only [Act.put]); (try simp only [List.setIfInBounds_toArray])
                  refine wpAnyH_take (i := 1) (oi := ⟨some 58, _, _, _, _, _⟩) (v := (.pointer (some ⟨w.heap.size + 1, 0, none⟩))) rfl (by kernel_rfl) (by kernel_rfl) (by kernel_rfl) (fun _ _ _ h => h) (Or.inl ⟨by rfl, ?ys_2⟩) (by assumption) ?qs_2
                  case ys_2 => (intro w hSw; (try dsimp only at hSw); go_simp)
                  case qs_2 =>
                    (try simp only [Act.put]); (try simp only [List.setIfInBounds_toArray])
                    refine wpAnyH_take (i := 2) (oi := ⟨some 59, _, _, _, _, _⟩) (v := (.pointer (some ⟨w.heap.size + 1, 0, none⟩))) rfl (by kernel_rfl) (by kernel_rfl) (by kernel_rfl) (fun _ _ _ h => h) (Or.inl ⟨by rfl, ?ys_3⟩) (by assumption) ?qs_3
                    case ys_3 => (intro w hSw; (try dsimp only at hSw); go_simp)
                    case qs_3 =>
                      (try simp only [Act.put]); (try simp only [List.setIfInBounds_toArray])
                      refine wpAnyH_take (i := 3) (oi := ⟨some 60, _, _, _, _, _⟩) (v := (.pointer (some ⟨w.heap.size + 1, 3, none⟩))) rfl (by kernel_rfl) (by kernel_rfl) (by kernel_rfl) (fun _ _ _ h => h) (Or.inl ⟨by rfl, ?ys_4⟩) (by assumption) ?qs_4
                      case ys_4 => (intro w hSw; (try dsimp only at hSw); go_simp)
                      case qs_4 =>
                        (try simp only [Act.put]); (try simp only [List.setIfInBounds_toArray])
                        refine wpAnyH_take (i := 4) (oi := ⟨some 61, _, _, _, _, _⟩) (v := (.int .i64 ((c + 1 : Nat) : Int))) rfl (by kernel_rfl) (by kernel_rfl) (by kernel_rfl) (fun _ _ _ h => h) (Or.inl ⟨by rfl, ?ys_5⟩) (by assumption) ?qs_5
                        case ys_5 => (intro w hSw; (try dsimp only at hSw); go_simp)
                        case qs_5 =>
                          (try simp only [Act.put]); (try simp only [List.setIfInBounds_toArray])
                          refine wpAnyH_ready (rs := [5]) (by kernel_rfl) (by simp) ?_
                          refine AllReadyH.cons (o := ⟨none, _, _, _, _, _⟩) rfl (fun K hK => ?ss_6) ?ms_6
                          case ss_6 =>
                            refine step_storeRowD (by rfl) 25 _ _ (by rfl) w.heap.size #[.int .i64 0, .slice none 0 0] (by go_simp) (by go_simp) 25 #[.int .i64 0, .slice none 0 0] HBD.out infoModelD rfl (oneModelD _ _ _ _) ?_
                            refine hK.out _ _ ?ks_6 (fun hHeld => ?qs_6)
                            case ks_6 => ((try dsimp only); exact HGU.out _ HC2.out)
                            case qs_6 =>
                              clear hK K
                              (try simp only [Act.put]); (try simp only [List.setIfInBounds_toArray])
                              refine wpAnyH_done (by kernel_rfl) ?_ _
                              clear hHeld
                              show wpList _ _ _ _ _ _
                              have bx := HBD.out
                              go_wp2_with fail
                              (try simp only [Exit.noGoto_ret, Exit.inBlock, Exit.then])
                              refine bodyPost_ret (parseD_res _ hres (v3 := .int .i64 ((c + 1 : Nat) : Int)) (v4 := .int .i64 30) (setRow_heap _ _ _ _ _ _ bx) _ (by go_simp) (by go_simp) (by go_simp)) rfl ?_
                              exact parseD_no HF.out (below_setRowD (HB2.out.trans ((drewS_below _).mono HB2.out.size)) (Nat.le_refl _))
                          case ms_6 =>
                            exact AllReadyH.nil
      · have d0 : ¬ (fr : Int) < (s.size : Int) := by omega
        have c3 := HPU.out.cell3
        by_cases hcz : c = 0
        · have hgo : fr < s.size ∨ c = 0 := .inr hcz
          have hfz := hc0 hcz
          have e0 : ((c : Int) == 0) = true := by rw [beq_iff_eq]; omega
          clear HYS hfz hcz
          go_upto_region 6 with fail
          clear e0 c3 hc0
          go_upto_region 7 with fail
          go_loop [7] (fun a7 => ∃ n : Nat, a7 = .int .i64 n ∧ fr ≤ n ∧ n ≤ s.size ∧ Hid (fr + (cutA 10 (s.data.toList.drop fr)).length = n + (cutA 10 (s.data.toList.drop n)).length)) (fun a7 => s.size - (intOf a7).toNat)
          case atStart => exact ⟨fr, rfl, Nat.le_refl _, hfr, Lib.hid rfl⟩
          case round =>
            obtain ⟨n, rfl, hfn, hn, HE⟩ := hrel
            by_cases hlt : n < s.size
            · have e0 := drop_get' s n hlt
              by_cases h10 : s[n].toNat = 10
              · have d1 : ((s[n].toNat : Int) != 10) = false := by rw [bne_eq_false_iff_eq]; omega
                have HEN : Hid (fr + (cutA 10 (s.data.toList.drop fr)).length = n) := Lib.hid (by rw [HE.out, e0, cutA_stop (UInt8.toNat_inj.1 (by rw [h10]; rfl))]; rfl)
                clear h10 e0 HE
                have htz := (cut_two s 0 (Nat.zero_le _))
                have hT : (s.extract fr n).size ≤ 1048576 := by rw [← toList_eq, line_is s fr n HEN.out]; have := cutA_leD (s.data.toList.drop fr); rw [List.length_drop, toList_eq] at this; omega
                have HTK := Lib.hid (HPU.out.takes (by omega) (s.extract fr n) hT)
                clear htz hT
                cases htv : takesV st (s.extract fr n).data.toList with
                | none =>
                  have HF := Lib.hid (HNO.out c (HLF.out.no hgo HEN.out hn (.inl htv)))
                  rw [htv] at HTK
                  clear htv HLF HNO
                  go_upto_region 11 with (go_at_call 21; refine HTK.out.mono ?_; rintro e w2 ⟨rfl, hb2, hx2, hc2, hst⟩; have HB2 := Lib.hid hb2; have bx := hx2; have HST := Lib.hid hst; clear hb2 hx2 hst; (try simp only [Option.isSome_none, Option.isSome_some]))
                  have HBD : Hid (Blk w2.drew w.heap.size 25 #[.int .i64 0, .slice none 0 0]) := Lib.hid (bx.after (drewS_below _))
                  have HGU : Hid (∀ Y : World, Y.cell? ⟨w.heap.size + 1, 3, none⟩ = some (.int .i64 ((c + 1 : Nat) : Int)) → (Y.setRow w.heap.size #[.int .i64 0, .slice none 0 0]).cell? ⟨w.heap.size + 1, 3, none⟩ = some (.int .i64 ((c + 1 : Nat) : Int))) := Lib.hid fun Y hY => (World.cell?_of_block (a := ⟨w.heap.size + 1, 3, none⟩) (setRow_other Y w.heap.size (w.heap.size + 1) _ (by omega))).trans hY
                  have HC2 : Hid (w2.drew.cell? ⟨w.heap.size + 1, 3, none⟩ = some (.int .i64 ((c + 1 : Nat) : Int))) := Lib.hid hc2
                  clear hc2
                  refine wp_region_held_tail 6 (fun Y => Y.cell? ⟨w.heap.size + 1, 3, none⟩ = some (.int .i64 ((c + 1 : Nat) : Int))) (by kernel_rfl) (by kernel_rfl) ?hS11 (fun hHeld => ?q11)
                  case hS11 => exact HC2.out
                  case q11 =>
                    simp only [List.take_succ_cons, List.take_zero, List.drop_succ_cons, List.drop_zero]
                    refine wpAnyH_take (i := 0) (oi := ⟨some 57, _, _, _, _, _⟩) (v := (.agg #[.int .i64 0, .slice none 0 0])) rfl (by kernel_rfl) (by kernel_rfl) (by kernel_rfl) (fun _ _ _ h => h) (Or.inl ⟨by rfl, ?ys_1⟩) (by assumption) ?qs_1
                    case ys_1 => (intro w hSw; (try dsimp only at hSw); go_simp)
                    case qs_1 =>
                      (try simp only [Act.put]); (try simp only [List.setIfInBounds_toArray])
                      refine wpAnyH_take (i := 1) (oi := ⟨some 58, _, _, _, _, _⟩) (v := (.pointer (some ⟨w.heap.size + 1, 0, none⟩))) rfl (by kernel_rfl) (by kernel_rfl) (by kernel_rfl) (fun _ _ _ h => h) (Or.inl ⟨by rfl, ?ys_2⟩) (by assumption) ?qs_2
                      case ys_2 => (intro w hSw; (try dsimp only at hSw); go_simp)
                      case qs_2 =>
                        (try simp only [Act.put]); (try simp only [List.setIfInBounds_toArray])
                        refine wpAnyH_take (i := 2) (oi := ⟨some 59, _, _, _, _, _⟩) (v := (.pointer (some ⟨w.heap.size + 1, 0, none⟩))) rfl (by kernel_rfl) (by kernel_rfl) (by kernel_rfl) (fun _ _ _ h => h) (Or.inl ⟨by rfl, ?ys_3⟩) (by assumption) ?qs_3
                        case ys_3 => (intro w hSw; (try dsimp only at hSw); go_simp)
                        case qs_3 =>
                          (try simp only [Act.put]); (try simp only [List.setIfInBounds_toArray])
                          refine wpAnyH_take (i := 3) (oi := ⟨some 60, _, _, _, _, _⟩) (v := (.pointer (some ⟨w.heap.size + 1, 3, none⟩))) rfl (by kernel_rfl) (by kernel_rfl) (by kernel_rfl) (fun _ _ _ h => h) (Or.inl ⟨by rfl, ?ys_4⟩) (by assumption) ?qs_4
                          case ys_4 => (intro w hSw; (try dsimp only at hSw); go_simp)
                          case qs_4 =>
                            (try simp only [Act.put]); (try simp only [List.setIfInBounds_toArray])
                            refine wpAnyH_take (i := 4) (oi := ⟨some 61, _, _, _, _, _⟩) (v := (.int .i64 ((c + 1 : Nat) : Int))) rfl (by kernel_rfl) (by kernel_rfl) (by kernel_rfl) (fun _ _ _ h => h) (Or.inl ⟨by rfl, ?ys_5⟩) (by assumption) ?qs_5
                            case ys_5 => (intro w hSw; (try dsimp only at hSw); go_simp)
                            case qs_5 =>
                              (try simp only [Act.put]); (try simp only [List.setIfInBounds_toArray])
                              refine wpAnyH_ready (rs := [5]) (by kernel_rfl) (by simp) ?_
                              refine AllReadyH.cons (o := ⟨none, _, _, _, _, _⟩) rfl (fun K hK => ?ss_6) ?ms_6
                              case ss_6 =>
                                refine step_storeRowD (by rfl) 25 _ _ (by rfl) w.heap.size #[.int .i64 0, .slice none 0 0] (by go_simp) (by go_simp) 25 #[.int .i64 0, .slice none 0 0] HBD.out infoModelD rfl (oneModelD _ _ _ _) ?_
                                refine hK.out _ _ ?ks_6 (fun hHeld => ?qs_6)
                                case ks_6 => ((try dsimp only); exact HGU.out _ HC2.out)
                                case qs_6 =>
                                  clear hK K
                                  (try simp only [Act.put]); (try simp only [List.setIfInBounds_toArray])
                                  refine wpAnyH_done (by kernel_rfl) ?_ _
                                  clear hHeld
                                  show wpList _ _ _ _ _ _
                                  have bx := HBD.out
                                  go_wp2_with fail
                                  (try simp only [Exit.noGoto_ret, Exit.inBlock, Exit.then])
                                  refine bodyPost_ret (parseD_res _ hres (v3 := .int .i64 ((c + 1 : Nat) : Int)) (v4 := .int .i64 30) (setRow_heap _ _ _ _ _ _ bx) _ (by go_simp) (by go_simp) (by go_simp)) rfl ?_
                                  exact parseD_no HF.out (below_setRowD (HB2.out.trans ((drewS_below _).mono HB2.out.size)) (Nat.le_refl _))
                              case ms_6 =>
                                exact AllReadyH.nil
                | some st' =>
                  have HLF2 := Lib.hid (HLF.out.next hgo HEN.out hlt htv)
                  rw [htv] at HTK
                  have hnn : ((n : Int) == (s.size : Int)) = false := by rw [beq_eq_false_iff_ne]; omega
                  clear htv HLF hgo
                  go_wp2_with (go_at_call 21; refine HTK.out.mono ?_; rintro e w2 ⟨rfl, hb2, hx2, hc2, hst⟩; have HB2 := Lib.hid hb2; have bx := hx2; have HST := Lib.hid hst; clear hb2 hx2 hst; (try simp only [Option.isSome_none, Option.isSome_some]))
                  go_roundw
                  case rel => exact ⟨n + 1, c + 1, st', by go_num, by omega, by omega, fun h => by omega, Lib.hid (HST.out _ rfl), HLF2⟩
                  case measure => simp [intOf]; omega
              · have d1 : ((s[n].toNat : Int) != 10) = true := by rw [bne_iff_ne]; omega
                have HE2 : Hid (fr + (cutA 10 (s.data.toList.drop fr)).length = (n + 1) + (cutA 10 (s.data.toList.drop (n + 1))).length) := Lib.hid (by rw [HE.out, e0, cutA_go fun e => h10 (by rw [e]; rfl)]; omega)
                clear h10 e0 HE
                go_wp2_with fail
                go_round
                case rel => exact ⟨n + 1, by go_num, by omega, by omega, HE2⟩
                case measure => simp [intOf]; omega
            · have d1 : ¬ (n : Int) < (s.size : Int) := by omega
              have HEN : Hid (fr + (cutA 10 (s.data.toList.drop fr)).length = n) := Lib.hid (by rw [HE.out, drop_empty (by omega)]; rfl)
              clear HE
              have htz := (cut_two s 0 (Nat.zero_le _))
              have hT : (s.extract fr n).size ≤ 1048576 := by rw [← toList_eq, line_is s fr n HEN.out]; have := cutA_leD (s.data.toList.drop fr); rw [List.length_drop, toList_eq] at this; omega
              have HTK := Lib.hid (HPU.out.takes (by omega) (s.extract fr n) hT)
              clear htz hT
              cases htv : takesV st (s.extract fr n).data.toList with
              | none =>
                have HF := Lib.hid (HNO.out c (HLF.out.no hgo HEN.out hn (.inl htv)))
                rw [htv] at HTK
                clear htv HLF HNO
                go_upto_region 11 with (go_at_call 21; refine HTK.out.mono ?_; rintro e w2 ⟨rfl, hb2, hx2, hc2, hst⟩; have HB2 := Lib.hid hb2; have bx := hx2; have HST := Lib.hid hst; clear hb2 hx2 hst; (try simp only [Option.isSome_none, Option.isSome_some]))
                have HBD : Hid (Blk w2.drew w.heap.size 25 #[.int .i64 0, .slice none 0 0]) := Lib.hid (bx.after (drewS_below _))
                have HGU : Hid (∀ Y : World, Y.cell? ⟨w.heap.size + 1, 3, none⟩ = some (.int .i64 ((c + 1 : Nat) : Int)) → (Y.setRow w.heap.size #[.int .i64 0, .slice none 0 0]).cell? ⟨w.heap.size + 1, 3, none⟩ = some (.int .i64 ((c + 1 : Nat) : Int))) := Lib.hid fun Y hY => (World.cell?_of_block (a := ⟨w.heap.size + 1, 3, none⟩) (setRow_other Y w.heap.size (w.heap.size + 1) _ (by omega))).trans hY
                have HC2 : Hid (w2.drew.cell? ⟨w.heap.size + 1, 3, none⟩ = some (.int .i64 ((c + 1 : Nat) : Int))) := Lib.hid hc2
                clear hc2
                refine wp_region_held_tail 6 (fun Y => Y.cell? ⟨w.heap.size + 1, 3, none⟩ = some (.int .i64 ((c + 1 : Nat) : Int))) (by kernel_rfl) (by kernel_rfl) ?hS11 (fun hHeld => ?q11)
                case hS11 => exact HC2.out
                case q11 =>
                  simp only [List.take_succ_cons, List.take_zero, List.drop_succ_cons, List.drop_zero]
                  refine wpAnyH_take (i := 0) (oi := ⟨some 57, _, _, _, _, _⟩) (v := (.agg #[.int .i64 0, .slice none 0 0])) rfl (by kernel_rfl) (by kernel_rfl) (by kernel_rfl) (fun _ _ _ h => h) (Or.inl ⟨by rfl, ?ys_1⟩) (by assumption) ?qs_1
                  case ys_1 => (intro w hSw; (try dsimp only at hSw); go_simp)
                  case qs_1 =>
                    (try simp only [Act.put]); (try simp only [List.setIfInBounds_toArray])
                    refine wpAnyH_take (i := 1) (oi := ⟨some 58, _, _, _, _, _⟩) (v := (.pointer (some ⟨w.heap.size + 1, 0, none⟩))) rfl (by kernel_rfl) (by kernel_rfl) (by kernel_rfl) (fun _ _ _ h => h) (Or.inl ⟨by rfl, ?ys_2⟩) (by assumption) ?qs_2
                    case ys_2 => (intro w hSw; (try dsimp only at hSw); go_simp)
                    case qs_2 =>
                      (try simp only [Act.put]); (try simp only [List.setIfInBounds_toArray])
                      refine wpAnyH_take (i := 2) (oi := ⟨some 59, _, _, _, _, _⟩) (v := (.pointer (some ⟨w.heap.size + 1, 0, none⟩))) rfl (by kernel_rfl) (by kernel_rfl) (by kernel_rfl) (fun _ _ _ h => h) (Or.inl ⟨by rfl, ?ys_3⟩) (by assumption) ?qs_3
                      case ys_3 => (intro w hSw; (try dsimp only at hSw); go_simp)
                      case qs_3 =>
                        (try simp only [Act.put]); (try simp only [List.setIfInBounds_toArray])
                        refine wpAnyH_take (i := 3) (oi := ⟨some 60, _, _, _, _, _⟩) (v := (.pointer (some ⟨w.heap.size + 1, 3, none⟩))) rfl (by kernel_rfl) (by kernel_rfl) (by kernel_rfl) (fun _ _ _ h => h) (Or.inl ⟨by rfl, ?ys_4⟩) (by assumption) ?qs_4
                        case ys_4 => (intro w hSw; (try dsimp only at hSw); go_simp)
                        case qs_4 =>
                          (try simp only [Act.put]); (try simp only [List.setIfInBounds_toArray])
                          refine wpAnyH_take (i := 4) (oi := ⟨some 61, _, _, _, _, _⟩) (v := (.int .i64 ((c + 1 : Nat) : Int))) rfl (by kernel_rfl) (by kernel_rfl) (by kernel_rfl) (fun _ _ _ h => h) (Or.inl ⟨by rfl, ?ys_5⟩) (by assumption) ?qs_5
                          case ys_5 => (intro w hSw; (try dsimp only at hSw); go_simp)
                          case qs_5 =>
                            (try simp only [Act.put]); (try simp only [List.setIfInBounds_toArray])
                            refine wpAnyH_ready (rs := [5]) (by kernel_rfl) (by simp) ?_
                            refine AllReadyH.cons (o := ⟨none, _, _, _, _, _⟩) rfl (fun K hK => ?ss_6) ?ms_6
                            case ss_6 =>
                              refine step_storeRowD (by rfl) 25 _ _ (by rfl) w.heap.size #[.int .i64 0, .slice none 0 0] (by go_simp) (by go_simp) 25 #[.int .i64 0, .slice none 0 0] HBD.out infoModelD rfl (oneModelD _ _ _ _) ?_
                              refine hK.out _ _ ?ks_6 (fun hHeld => ?qs_6)
                              case ks_6 => ((try dsimp only); exact HGU.out _ HC2.out)
                              case qs_6 =>
                                clear hK K
                                (try simp only [Act.put]); (try simp only [List.setIfInBounds_toArray])
                                refine wpAnyH_done (by kernel_rfl) ?_ _
                                clear hHeld
                                show wpList _ _ _ _ _ _
                                have bx := HBD.out
                                go_wp2_with fail
                                (try simp only [Exit.noGoto_ret, Exit.inBlock, Exit.then])
                                refine bodyPost_ret (parseD_res _ hres (v3 := .int .i64 ((c + 1 : Nat) : Int)) (v4 := .int .i64 30) (setRow_heap _ _ _ _ _ _ bx) _ (by go_simp) (by go_simp) (by go_simp)) rfl ?_
                                exact parseD_no HF.out (below_setRowD (HB2.out.trans ((drewS_below _).mono HB2.out.size)) (Nat.le_refl _))
                            case ms_6 =>
                              exact AllReadyH.nil
              | some st' =>
                have HF := Lib.hid (HNO.out c (HLF.out.no hgo HEN.out hn (.inr hlt)))
                rw [htv] at HTK
                have hnn : ((n : Int) == (s.size : Int)) = true := by rw [beq_iff_eq]; omega
                clear htv HLF HNO
                go_upto_region 11 with (go_at_call 21; refine HTK.out.mono ?_; rintro e w2 ⟨rfl, hb2, hx2, hc2, hst⟩; have HB2 := Lib.hid hb2; have bx := hx2; have HST := Lib.hid hst; clear hb2 hx2 hst; (try simp only [Option.isSome_none, Option.isSome_some]))
                have HBD : Hid (Blk w2.drew w.heap.size 25 #[.int .i64 0, .slice none 0 0]) := Lib.hid (bx.after (drewS_below _))
                have HGU : Hid (∀ Y : World, Y.cell? ⟨w.heap.size + 1, 3, none⟩ = some (.int .i64 ((c + 1 : Nat) : Int)) → (Y.setRow w.heap.size #[.int .i64 0, .slice none 0 0]).cell? ⟨w.heap.size + 1, 3, none⟩ = some (.int .i64 ((c + 1 : Nat) : Int))) := Lib.hid fun Y hY => (World.cell?_of_block (a := ⟨w.heap.size + 1, 3, none⟩) (setRow_other Y w.heap.size (w.heap.size + 1) _ (by omega))).trans hY
                have HC2 : Hid (w2.drew.cell? ⟨w.heap.size + 1, 3, none⟩ = some (.int .i64 ((c + 1 : Nat) : Int))) := Lib.hid hc2
                clear hc2
                refine wp_region_held_tail 6 (fun Y => Y.cell? ⟨w.heap.size + 1, 3, none⟩ = some (.int .i64 ((c + 1 : Nat) : Int))) (by kernel_rfl) (by kernel_rfl) ?hS11 (fun hHeld => ?q11)
                case hS11 => exact HC2.out
                case q11 =>
                  simp only [List.take_succ_cons, List.take_zero, List.drop_succ_cons, List.drop_zero]
                  refine wpAnyH_take (i := 0) (oi := ⟨some 57, _, _, _, _, _⟩) (v := (.agg #[.int .i64 0, .slice none 0 0])) rfl (by kernel_rfl) (by kernel_rfl) (by kernel_rfl) (fun _ _ _ h => h) (Or.inl ⟨by rfl, ?ys_1⟩) (by assumption) ?qs_1
                  case ys_1 => (intro w hSw; (try dsimp only at hSw); go_simp)
                  case qs_1 =>
                    (try simp only [Act.put]); (try simp only [List.setIfInBounds_toArray])
                    refine wpAnyH_take (i := 1) (oi := ⟨some 58, _, _, _, _, _⟩) (v := (.pointer (some ⟨w.heap.size + 1, 0, none⟩))) rfl (by kernel_rfl) (by kernel_rfl) (by kernel_rfl) (fun _ _ _ h => h) (Or.inl ⟨by rfl, ?ys_2⟩) (by assumption) ?qs_2
                    case ys_2 => (intro w hSw; (try dsimp only at hSw); go_simp)
                    case qs_2 =>
                      (try simp only [Act.put]); (try simp only [List.setIfInBounds_toArray])
                      refine wpAnyH_take (i := 2) (oi := ⟨some 59, _, _, _, _, _⟩) (v := (.pointer (some ⟨w.heap.size + 1, 0, none⟩))) rfl (by kernel_rfl) (by kernel_rfl) (by kernel_rfl) (fun _ _ _ h => h) (Or.inl ⟨by rfl, ?ys_3⟩) (by assumption) ?qs_3
                      case ys_3 => (intro w hSw; (try dsimp only at hSw); go_simp)
                      case qs_3 =>
                        (try simp only [Act.put]); (try simp only [List.setIfInBounds_toArray])
                        refine wpAnyH_take (i := 3) (oi := ⟨some 60, _, _, _, _, _⟩) (v := (.pointer (some ⟨w.heap.size + 1, 3, none⟩))) rfl (by kernel_rfl) (by kernel_rfl) (by kernel_rfl) (fun _ _ _ h => h) (Or.inl ⟨by rfl, ?ys_4⟩) (by assumption) ?qs_4
                        case ys_4 => (intro w hSw; (try dsimp only at hSw); go_simp)
                        case qs_4 =>
                          (try simp only [Act.put]); (try simp only [List.setIfInBounds_toArray])
                          refine wpAnyH_take (i := 4) (oi := ⟨some 61, _, _, _, _, _⟩) (v := (.int .i64 ((c + 1 : Nat) : Int))) rfl (by kernel_rfl) (by kernel_rfl) (by kernel_rfl) (fun _ _ _ h => h) (Or.inl ⟨by rfl, ?ys_5⟩) (by assumption) ?qs_5
                          case ys_5 => (intro w hSw; (try dsimp only at hSw); go_simp)
                          case qs_5 =>
                            (try simp only [Act.put]); (try simp only [List.setIfInBounds_toArray])
                            refine wpAnyH_ready (rs := [5]) (by kernel_rfl) (by simp) ?_
                            refine AllReadyH.cons (o := ⟨none, _, _, _, _, _⟩) rfl (fun K hK => ?ss_6) ?ms_6
                            case ss_6 =>
                              refine step_storeRowD (by rfl) 25 _ _ (by rfl) w.heap.size #[.int .i64 0, .slice none 0 0] (by go_simp) (by go_simp) 25 #[.int .i64 0, .slice none 0 0] HBD.out infoModelD rfl (oneModelD _ _ _ _) ?_
                              refine hK.out _ _ ?ks_6 (fun hHeld => ?qs_6)
                              case ks_6 => ((try dsimp only); exact HGU.out _ HC2.out)
                              case qs_6 =>
                                clear hK K
                                (try simp only [Act.put]); (try simp only [List.setIfInBounds_toArray])
                                refine wpAnyH_done (by kernel_rfl) ?_ _
                                clear hHeld
                                show wpList _ _ _ _ _ _
                                have bx := HBD.out
                                go_wp2_with fail
                                (try simp only [Exit.noGoto_ret, Exit.inBlock, Exit.then])
                                refine bodyPost_ret (parseD_res _ hres (v3 := .int .i64 ((c + 1 : Nat) : Int)) (v4 := .int .i64 30) (setRow_heap _ _ _ _ _ _ bx) _ (by go_simp) (by go_simp) (by go_simp)) rfl ?_
                                exact parseD_no HF.out (below_setRowD (HB2.out.trans ((drewS_below _).mono HB2.out.size)) (Nat.le_refl _))
                            case ms_6 =>
                              exact AllReadyH.nil
        · have hgo : ¬ (fr < s.size ∨ c = 0) := by omega
          have e0 : ((c : Int) == 0) = false := by rw [beq_eq_false_iff_ne]; omega
          have HDN := Lib.hid (HYS.out st (HLF.out.done hgo))
          obtain ⟨v, vd, l, hU⟩ := HPU.out.rd
          have HU := Lib.hid hU
          have hst0 := HPU.out.c1 (by omega)
          have hok := hU.ok hst0
          have hln := hok.ln
          have bx := HPU.out.bx
          have HLOW := Lib.hid HPU.out.low
          have c0 : wr.cell? ⟨w.heap.size + 1, 0, none⟩ = some (.int .i64 st.next) := (hU.box.cell 0).trans rfl
          have HS0 := Lib.hid (SelU.start wr st.next l (sortV st.nds))
          obtain ⟨A, cp, rfl, hc1, hc2⟩ := hU.v_form
          have HPD : Hid (∀ kk, kk < st.nds.length → ∀ at_, Picked (idsOf st) (lastId (sortV st.nds) kk) st.nds.length at_ → ∃ (a : Nat) (nd : Nd), at_ = (a : Int) ∧ st.nds[a]? = some nd ∧ (sortV st.nds)[kk]? = some nd) := Lib.hid fun kk hkk at_ hP => picked_done hok.ds (fun x hx => (hok.id x hx).1) hkk hP
          have HIL : Hid ((idsOf st).length = st.nds.length) := Lib.hid (by unfold idsOf; rw [List.length_map])
          have HAT : Hid (∀ a nd, st.nds[a]? = some nd → ∃ L, l[a]? = some (nd, L)) := Lib.hid fun a nd h => hU.at_ h
          have hov : wr.ownsRow (w.heap.size + 2) 55 7 (.slice A st.nds.length cp) st.nds.length (allCells l) := by
            have := hU.np.own
            unfold OwnN at this
            rwa [hU.len] at this
          obtain ⟨i2, hi2, hz2, hs2, hb2⟩ := info_parts nodeInfo
          have HSL : Hid ((sortV st.nds).length = st.nds.length) := Lib.hid (sortV_len _)
          have HLL : Hid (l.length = st.nds.length) := Lib.hid hU.len
          clear hst0 hok hgo HLF HPU HNO HYS hc1 hc2
          have HXL : Hid (w.heap.size < wr.heap.size) := Lib.hid bx.lt
          by_cases hn0 : st.nds.length = 0
          · have c1 : ∀ o, (wr.alloc o).cell? ⟨w.heap.size + 1, 1, none⟩ = some (.slice A st.nds.length cp) := fun o => ((HU.out.box.alloc o).cell 1).trans rfl
            rw [hn0] at c1
            have hq0 : ∃ q, q = 0 ∧ st.nds.length = q := ⟨0, rfl, hn0⟩
            clear hov
            go_upto_region 16 with fail
            clear c0 c1
            obtain ⟨Wk, hWk⟩ : ∃ Wk, wr.alloc (.cells #[.int .i64 st.next, .slice none 0 0] 25) = Wk := ⟨_, rfl⟩
            rw [hWk] at HS0 ⊢
            have HS := HS0
            go_loopw [74] (fun a74 W' => Hid (a74 = .int .i64 0 ∧ Wk = W')) (fun _ _ => 0)
            case atStart => exact Lib.hid ⟨rfl, rfl⟩
            case round =>
              obtain ⟨rfl, rfl⟩ := hrel.out
              clear hrel
              have HN2 := Lib.hid (HS.out.nodes HU.out (B0 := w.heap.size + 1) (by rw [HSL.out]; omega) (by omega))
              have HB3 : Hid (Below w.heap.size w Wk) := Lib.hid (HLOW.out.trans (HS.out.bel.mono HLOW.out.size))
              have bx := bx.below HS.out.bel HXL.out
              have m0 : Wk.cell? ⟨wr.heap.size, 0, none⟩ = some (.int .i64 st.next) := (HS.out.bm.cell 0).trans rfl
              have m1 : Wk.cell? ⟨wr.heap.size, 1, none⟩ = some (.slice none 0 0) := (HS.out.bm.cell 1).trans rfl
              clear HS
              go_wp2_with ((with_reducible show wpList _ _ _ (Oper.mk _ (Op.store 25 _ _) _ _ _ _ :: _) _ _); refine wpList_store_row rfl _ _ _ rfl w.heap.size _ rfl rfl 25 #[.int .i64 0, .slice none 0 0] bx infoModelD rfl (oneModelD _ _ _ _) ?_)
              (try simp only [Exit.noGoto_ret, Exit.inBlock, Exit.then])
              refine bodyPost_ret (parseD_res _ hres (v3 := .int .i64 0) (v4 := .int .i64 0) (setRow_heap _ _ _ _ _ _ bx) _ (by go_simp) (by go_simp) (by go_simp)) rfl ?_
              rw [HDN.out]
              exact ⟨none, 0, 0, rfl, (HN2.out.rowLoD (Nat.lt_succ_self _)).mono (Nat.zero_le _) (by simp [World.setRow]), below_setRowD HB3.out (Nat.le_refl _)⟩
          · obtain ⟨g, rfl, hgB⟩ := own_addrB hov (by omega)
            have HCL : Hid (∀ Y, Below wr.heap.size wr Y → Y.cell? ⟨w.heap.size + 1, 1, none⟩ = some (.slice (some ⟨g, 0, none⟩) st.nds.length cp) ∧ ∀ (i : Nat) (x : Int), (idsOf st)[i]? = some x → Y.cell? ⟨g, i * 7, none⟩ = some (.int .i64 x)) := Lib.hid fun Y hY => by
              have hY2 := HU.out.after hY
              refine ⟨(hY2.box.cell 1).trans rfl, fun i x hx => ?_⟩
              unfold idsOf at hx
              rw [List.getElem?_map] at hx
              obtain ⟨nd, hnd, rfl⟩ := Option.map_eq_some_iff.1 hx
              obtain ⟨L, hL⟩ := HU.out.at_ hnd
              exact (hY2.np.cells HLL.out hL).c0
            have HNA : Hid (∀ Y, Below wr.heap.size wr Y → ∀ (a : Nat) (p : Nd × Leaf), l[a]? = some p → NodeAt Y g (a * 7) p.1 p.2) := Lib.hid fun Y hY a p hp => (HU.out.after hY).np.cells HLL.out hp
            have c1 : ∀ o, (wr.alloc o).cell? ⟨w.heap.size + 1, 1, none⟩ = some (.slice (some ⟨g, 0, none⟩) st.nds.length cp) := fun o => ((HU.out.box.alloc o).cell 1).trans rfl
            obtain ⟨q, hq⟩ : ∃ q, st.nds.length = q := ⟨_, rfl⟩
            have HQ := Lib.hid hq
            rw [hq] at c1 HCL HPD HIL hln hn0
            clear hov hU hq hgB
            go_upto_region 16 with fail
            clear c0 c1
            go_loopw [10, 11, 12, 74] (fun a10 a11 a12 a74 W' => ∃ (kk : Nat) (Am : Option Addr) (cm : Nat) (lm : List (Nd × Leaf)), a74 = .int .i64 kk ∧ a10 = .int .i64 (lastId (sortV st.nds) kk) ∧ kk ≤ q ∧ Hid (SelU wr st.next l (sortV st.nds) kk Am cm lm W')) (fun _ _ _ a74 _ => q - (intOf a74).toNat)
            case atStart => exact ⟨0, none, 0, [], rfl, rfl, Nat.zero_le _, HS0⟩
            case round =>
              rename World => Wk
              clear HS0
              obtain ⟨kk, Am, cm, lm, rfl, rfl, hkk, HS⟩ := hrel
              by_cases hkq : kk < q
              · go_upto_region 19 with fail
                go_loopw [11, 12] (fun a11 a12 W' => ∃ (i : Nat) (at_ : Int), a11 = .int .i64 at_ ∧ a12 = .int .i64 i ∧ i ≤ q ∧ Hid (Picked (idsOf st) (lastId (sortV st.nds) kk) i at_) ∧ Hid (SelU wr st.next l (sortV st.nds) kk Am cm lm W')) (fun _ a12 _ => q - (intOf a12).toNat)
                case atStart => exact ⟨0, -1, rfl, rfl, Nat.zero_le _, Lib.hid (Picked.start _ _), HS⟩
                case round =>
                  rename World => Wx
                  clear HS
                  obtain ⟨i, at_, rfl, rfl, hi, HPK, HS⟩ := hrel
                  have c1 : Wx.cell? ⟨w.heap.size + 1, 1, none⟩ = some (.slice (some ⟨g, 0, none⟩) q cp) := (HCL.out Wx HS.out.bel).1
                  by_cases hiq : i < q
                  · obtain ⟨x, hx⟩ : ∃ x, (idsOf st)[i]? = some x := ⟨_, List.getElem?_eq_getElem (by rw [HIL.out]; exact hiq)⟩
                    have cx := (HCL.out Wx HS.out.bel).2 i x hx
                    have HSD : Hid (∀ m, SelU wr st.next l (sortV st.nds) kk Am cm lm (Wx.drewN m)) := Lib.hid fun m => HS.out.after (below_drewN (Below.refl _ Wx) m)
                    have HX := Lib.hid hx
                    clear hx
                    by_cases hlx : lastId (sortV st.nds) kk < x
                    · obtain rfl | ⟨a, rfl⟩ := HPK.out.form
                      · have HP2 := Lib.hid (HPK.out.none_ HX.out hlx)
                        clear HPK HX HS
                        go_upto_region 21 with fail
                        go_quiet (fail)
                        go_wp2_with fail
                        go_roundw
                        case rel => exact ⟨i + 1, _, rfl, by go_num, by omega, HP2, Lib.hid (HSD.out _)⟩
                        case measure => simp [intOf]; omega
                      · obtain ⟨hai, y, hy⟩ := HPK.out.at_ok
                        have cy := (HCL.out Wx HS.out.bel).2 a y hy
                        have haq : a < q := by omega
                        have ha0 : ¬ (a : Int) < 0 := by omega
                        by_cases hxy : x < y
                        · have HP2 := Lib.hid (HPK.out.less hy HX.out hlx hxy)
                          clear HPK HX HS hy
                          go_upto_region 21 with fail
                          go_quiet (fail)
                          go_wp2_with fail
                          go_roundw
                          case rel => exact ⟨i + 1, _, rfl, by go_num, by omega, HP2, Lib.hid (HSD.out _)⟩
                          case measure => simp [intOf]; omega
                        · have HP2 := Lib.hid (HPK.out.more hy HX.out hxy)
                          clear HPK HX HS hy
                          go_upto_region 21 with fail
                          go_quiet (fail)
                          go_wp2_with fail
                          go_roundw
                          case rel => exact ⟨i + 1, _, rfl, by go_num, by omega, HP2, Lib.hid (HSD.out _)⟩
                          case measure => simp [intOf]; omega
                    · have HP2 := Lib.hid (HPK.out.skip HX.out (by omega))
                      clear HPK HX HS
                      go_upto_region 21 with fail
                      go_quiet (fail)
                      go_wp2_with fail
                      go_roundw
                      case rel => exact ⟨i + 1, _, rfl, by go_num, by omega, HP2, Lib.hid (HSD.out _)⟩
                      case measure => simp [intOf]; omega
                  · obtain rfl : i = q := by omega
                    obtain ⟨a, nd, rfl, hnd, hsn⟩ := HPD.out kk hkq _ HPK.out
                    have haq : a < i := by rw [← HQ.out]; exact (List.getElem?_eq_some_iff.1 hnd).1
                    obtain ⟨⟨⟨Pa, Pn, Pc⟩, ⟨Ka, Kn, Kc⟩, ⟨Ra, Rn, Rc⟩⟩, hL⟩ := HAT.out a nd hnd
                    have HLA := Lib.hid hL
                    have HSN := Lib.hid hsn
                    have HNC := Lib.hid (HNA.out Wx HS.out.bel a _ hL)
                    have cy := HNC.out.c0
                    simp only at cy
                    clear hL hnd hsn HPK
                    go_upto_region 24 with fail
                    clear cy c1
                    have HSd := Lib.hid (HS.out.after (drewS_below _))
                    have HKP : Hid (∀ Y, SelU wr st.next l (sortV st.nds) kk Am cm lm Y → Y.cell? ⟨wr.heap.size, 1, none⟩ = some (.slice Am kk cm) ∧ Y.cell? ⟨w.heap.size + 1, 1, none⟩ = some (.slice (some ⟨g, 0, none⟩) i cp) ∧ Y.cell? ⟨g, a * 7, none⟩ = some (.int .i64 nd.id) ∧ Y.cell? ⟨g, a * 7 + 1, none⟩ = some (.string nd.con) ∧ Y.cell? ⟨g, a * 7 + 2, none⟩ = some (.int .i64 nd.par) ∧ Y.cell? ⟨g, a * 7 + 3, none⟩ = some (.string nd.role) ∧ Y.cell? ⟨g, a * 7 + 4, none⟩ = some (.slice Pa Pn Pc) ∧ Y.cell? ⟨g, a * 7 + 5, none⟩ = some (.slice Ka Kn Kc) ∧ Y.cell? ⟨g, a * 7 + 6, none⟩ = some (.slice Ra Rn Rc)) := Lib.hid fun Y hY => by
                      have e := HNA.out Y hY.bel a _ HLA.out
                      exact ⟨(hY.bm.cell 1).trans rfl, (HCL.out Y hY.bel).1, e.c0, e.c1, e.c2, e.c3, e.c4, e.c5, e.c6⟩
                    refine wp_region_held_tail 11 (fun Y => Y.cell? ⟨wr.heap.size, 1, none⟩ = some (.slice Am kk cm) ∧ Y.cell? ⟨w.heap.size + 1, 1, none⟩ = some (.slice (some ⟨g, 0, none⟩) i cp) ∧ Y.cell? ⟨g, a * 7, none⟩ = some (.int .i64 nd.id) ∧ Y.cell? ⟨g, a * 7 + 1, none⟩ = some (.string nd.con) ∧ Y.cell? ⟨g, a * 7 + 2, none⟩ = some (.int .i64 nd.par) ∧ Y.cell? ⟨g, a * 7 + 3, none⟩ = some (.string nd.role) ∧ Y.cell? ⟨g, a * 7 + 4, none⟩ = some (.slice Pa Pn Pc) ∧ Y.cell? ⟨g, a * 7 + 5, none⟩ = some (.slice Ka Kn Kc) ∧ Y.cell? ⟨g, a * 7 + 6, none⟩ = some (.slice Ra Rn Rc)) (by kernel_rfl) (by kernel_rfl) ?hS24 (fun hHeld => ?q24)
                    case hS24 => exact HKP.out _ HSd.out
                    case q24 =>
                      simp only [List.take_succ_cons, List.take_zero, List.drop_succ_cons, List.drop_zero]
                      have HBO : Hid (∀ X Y, Below wr.heap.size wr X → X.ownsRow (wr.heap.size + 1) 55 7 (.slice Am kk cm) kk (allCells lm) → X.grownBy Y (Value.slice Am kk cm).ownBlock → Below wr.heap.size wr Y) := Lib.hid fun X Y hX ho hg => below_own hX hX.size hg fun x hx => by have := (World.ownsRow.lt ho x hx).1; omega
                      have HKY : Hid (∀ Y, Below wr.heap.size wr Y → Blk Y wr.heap.size 25 #[.int .i64 st.next, .slice Am kk cm] → Y.cell? ⟨wr.heap.size, 1, none⟩ = some (.slice Am kk cm) ∧ Y.cell? ⟨w.heap.size + 1, 1, none⟩ = some (.slice (some ⟨g, 0, none⟩) i cp) ∧ Y.cell? ⟨g, a * 7, none⟩ = some (.int .i64 nd.id) ∧ Y.cell? ⟨g, a * 7 + 1, none⟩ = some (.string nd.con) ∧ Y.cell? ⟨g, a * 7 + 2, none⟩ = some (.int .i64 nd.par) ∧ Y.cell? ⟨g, a * 7 + 3, none⟩ = some (.string nd.role) ∧ Y.cell? ⟨g, a * 7 + 4, none⟩ = some (.slice Pa Pn Pc) ∧ Y.cell? ⟨g, a * 7 + 5, none⟩ = some (.slice Ka Kn Kc) ∧ Y.cell? ⟨g, a * 7 + 6, none⟩ = some (.slice Ra Rn Rc)) := Lib.hid fun Y hY hB => by
                        have e := HNA.out Y hY a _ HLA.out
                        exact ⟨(hB.cell 1).trans rfl, (HCL.out Y hY).1, e.c0, e.c1, e.c2, e.c3, e.c4, e.c5, e.c6⟩
                      refine wpAnyH_take (i := 0) (v := (.pointer (some ⟨wr.heap.size, 1, none⟩))) rfl (by kernel_rfl) (by kernel_rfl) (by kernel_rfl) (fun _ _ _ h => h) (Or.inl ⟨by rfl, ?yu_1⟩) (by assumption) ?qu_1
                      case yu_1 => (intro w hSw; (try dsimp only at hSw); go_simp)
                      case qu_1 =>
                        (try simp only [Act.put]); (try simp only [List.setIfInBounds_toArray])
                        refine wpAnyH_take (i := 1) (v := (.slice Am kk cm)) rfl (by kernel_rfl) (by kernel_rfl) (by kernel_rfl) (fun _ _ _ h => h) (Or.inl ⟨by rfl, ?yu_2⟩) (by assumption) ?qu_2
                        case yu_2 => (intro w hSw; (try dsimp only at hSw); go_simp)
                        case qu_2 =>
                          (try simp only [Act.put]); (try simp only [List.setIfInBounds_toArray])
                          refine wpAnyH_take (i := 2) (v := (.pointer (some ⟨w.heap.size + 1, 0, none⟩))) rfl (by kernel_rfl) (by kernel_rfl) (by kernel_rfl) (fun _ _ _ h => h) (Or.inl ⟨by rfl, ?yu_3⟩) (by assumption) ?qu_3
                          case yu_3 => (intro w hSw; (try dsimp only at hSw); go_simp)
                          case qu_3 =>
                            (try simp only [Act.put]); (try simp only [List.setIfInBounds_toArray])
                            refine wpAnyH_take (i := 3) (v := (.pointer (some ⟨w.heap.size + 1, 0, none⟩))) rfl (by kernel_rfl) (by kernel_rfl) (by kernel_rfl) (fun _ _ _ h => h) (Or.inl ⟨by rfl, ?yu_4⟩) (by assumption) ?qu_4
                            case yu_4 => (intro w hSw; (try dsimp only at hSw); go_simp)
                            case qu_4 =>
                              (try simp only [Act.put]); (try simp only [List.setIfInBounds_toArray])
                              refine wpAnyH_take (i := 4) (v := (.pointer (some ⟨w.heap.size + 1, 1, none⟩))) rfl (by kernel_rfl) (by kernel_rfl) (by kernel_rfl) (fun _ _ _ h => h) (Or.inl ⟨by rfl, ?yu_5⟩) (by assumption) ?qu_5
                              case yu_5 => (intro w hSw; (try dsimp only at hSw); go_simp)
                              case qu_5 =>
                                (try simp only [Act.put]); (try simp only [List.setIfInBounds_toArray])
                                refine wpAnyH_take (i := 5) (v := (.slice (some ⟨g, 0, none⟩) i cp)) rfl (by kernel_rfl) (by kernel_rfl) (by kernel_rfl) (fun _ _ _ h => h) (Or.inl ⟨by rfl, ?yu_6⟩) (by assumption) ?qu_6
                                case yu_6 => (intro w hSw; (try dsimp only at hSw); go_simp)
                                case qu_6 =>
                                  (try simp only [Act.put]); (try simp only [List.setIfInBounds_toArray])
                                  refine wpAnyH_take (i := 6) (v := (.int .i64 (a : Int))) rfl (by kernel_rfl) (by kernel_rfl) (by kernel_rfl) (fun _ _ _ h => h) (Or.inl ⟨by rfl, ?yu_7⟩) (by assumption) ?qu_7
                                  case yu_7 => (intro w hSw; (try dsimp only at hSw); go_simp)
                                  case qu_7 =>
                                    (try simp only [Act.put]); (try simp only [List.setIfInBounds_toArray])
                                    refine wpAnyH_take (i := 7) (v := (.pointer (some ⟨g, a * 7, none⟩))) rfl (by kernel_rfl) (by kernel_rfl) (by kernel_rfl) (fun _ _ _ h => h) (Or.inl ⟨by rfl, ?yu_8⟩) (by assumption) ?qu_8
                                    case yu_8 => (intro w hSw; (try dsimp only at hSw); go_simp)
                                    case qu_8 =>
                                      (try simp only [Act.put]); (try simp only [List.setIfInBounds_toArray])
                                      refine wpAnyH_take (i := 8) (v := (.agg #[.int .i64 nd.id, .string nd.con, .int .i64 nd.par, .string nd.role, .slice Pa Pn Pc, .slice Ka Kn Kc, .slice Ra Rn Rc])) rfl (by kernel_rfl) (by kernel_rfl) (by kernel_rfl) (fun _ _ _ h => h) (Or.inl ⟨by rfl, ?yu_9⟩) (by assumption) ?qu_9
                                      case yu_9 => (intro w hSw; (try dsimp only at hSw); go_simp)
                                      case qu_9 =>
                                        (try simp only [Act.put]); (try simp only [List.setIfInBounds_toArray])
                                        refine wpAnyH_ready (rs := [9]) (by kernel_rfl) (by simp) ?_
                                        refine AllReadyH.cons rfl (fun K hK => ?su_10) ?mu_10
                                        case su_10 =>
                                          (refine step_mkS _ (by rfl) 55 #[.int .i64 nd.id, .string nd.con, .int .i64 nd.par, .string nd.role, .slice Pa Pn Pc, .slice Ka Kn Kc, .slice Ra Rn Rc] (by go_simp) ?_; intro gp Yp hxp hbp hsp; have HRp : Hid (Row Yp gp (gp + 1) 7 (some ⟨gp, 0, none⟩) 1 1 [.int .i64 nd.id, .string nd.con, .int .i64 nd.par, .string nd.role, .slice Pa Pn Pc, .slice Ka Kn Kc, .slice Ra Rn Rc]) := Lib.hid (row_blk hxp rfl (Nat.le_refl _) (by unfold maxLen; omega)); have HSd := Lib.hid (HSd.out.after hbp); clear hxp hbp hsp)
                                          refine hK.out _ _ ?ku_10 (fun hHeld => ?qu_10)
                                          case ku_10 => ((try dsimp only); first | exact HKZ.out | exact HKP.out _ HSd.out)
                                          case qu_10 =>
                                            clear hK K
                                            (try simp only [Act.put]); (try simp only [List.setIfInBounds_toArray])
                                            refine wpAnyH_ready (rs := [10]) (by kernel_rfl) (by simp) ?_
                                            refine AllReadyH.cons rfl (fun K hK => ?su_11) ?mu_11
                                            case su_11 =>
                                              ((refine step_appS (o := ⟨some 137, _, _, _, _, _⟩) _ (by rfl) (.tmp 128) (.tmp 136) _ (by rfl) (wr.heap.size + 1) 55 i2 _ 7 120 Tryz.underlying23 hi2 hz2 hs2 hb2 rfl (by omega) (.slice Am kk cm) kk (allCells lm) (by go_simp) HSd.out.own gp (gp + 1) (some ⟨gp, 0, none⟩) 1 1 [.int .i64 nd.id, .string nd.con, .int .i64 nd.par, .string nd.role, .slice Pa Pn Pc, .slice Ka Kn Kc, .slice Ra Rn Rc] (by go_simp) HRp.out (by simp [Value.oneCell']) (by unfold maxLen; omega) (by omega) (Nat.succ_le_of_lt HSd.out.bm.lt) ?_); intro Az cz Yz hownZ hgrZ hnewZ; have HSM := Lib.hid (HSd.out.more (p := (nd, ⟨⟨Pa, Pn, Pc⟩, ⟨Ka, Kn, Kc⟩, ⟨Ra, Rn, Rc⟩⟩)) (List.mem_of_getElem? HLA.out) HSN.out hownZ hgrZ); have HBZ := Lib.hid (HSd.out.bm.grown hgrZ (Ne.symm (own_blk_ne HSd.out.own HSd.out.bm (by decide)))); have HKZ := Lib.hid (HKY.out Yz (HBO.out _ _ HSd.out.bel HSd.out.own hgrZ) HBZ.out); clear hownZ hgrZ hnewZ)
                                              refine hK.out _ _ ?ku_11 (fun hHeld => ?qu_11)
                                              case ku_11 => ((try dsimp only); first | exact HKZ.out | exact HKP.out _ HSd.out)
                                              case qu_11 =>
                                                clear hK K
                                                (try simp only [Act.put]); (try simp only [List.setIfInBounds_toArray])
                                                refine wpAnyH_done (by kernel_rfl) ?_ _
                                                clear hHeld
                                                show wpList _ _ _ _ _ _
                                                have s1 : Yz.cell? ⟨wr.heap.size, 1, none⟩ = some (.slice Am kk cm) := (HBZ.out.cell 1).trans rfl
                                                have s2 := HBZ.out.frozen 1
                                                go_upto_region 25 with fail
                                                clear s1 s2 HBZ HKZ
                                                generalize Yz.setCell ⟨wr.heap.size, 1, none⟩ (.slice Az (kk + 1) cz) = W9 at HSM ⊢
                                                go_wp2_with fail
                                                go_roundw
                                                case rel => exact ⟨kk + 1, Az, cz, _, by go_num, by rw [lastId_next HSN.out], by omega, HSM⟩
                                                case measure => simp [intOf]; omega
                                            case mu_11 =>
                                              exact AllReadyH.nil
                                        case mu_10 =>
                                          exact AllReadyH.nil
              · obtain rfl : kk = q := by omega
                have HN2 := Lib.hid (HS.out.nodes HU.out (B0 := w.heap.size + 1) (by rw [HSL.out, HQ.out]; omega) (by omega))
                have HB3 : Hid (Below w.heap.size w Wk) := Lib.hid (HLOW.out.trans (HS.out.bel.mono HLOW.out.size))
                have bx := bx.below HS.out.bel HXL.out
                have m0 : Wk.cell? ⟨wr.heap.size, 0, none⟩ = some (.int .i64 st.next) := (HS.out.bm.cell 0).trans rfl
                have m1 : Wk.cell? ⟨wr.heap.size, 1, none⟩ = some (.slice Am kk cm) := (HS.out.bm.cell 1).trans rfl
                clear HS
                go_wp2_with ((with_reducible show wpList _ _ _ (Oper.mk _ (Op.store 25 _ _) _ _ _ _ :: _) _ _); refine wpList_store_row rfl _ _ _ rfl w.heap.size _ rfl rfl 25 #[.int .i64 0, .slice none 0 0] bx infoModelD rfl (oneModelD _ _ _ _) ?_)
                (try simp only [Exit.noGoto_ret, Exit.inBlock, Exit.then])
                refine bodyPost_ret (parseD_res _ hres (v3 := .int .i64 0) (v4 := .int .i64 0) (setRow_heap _ _ _ _ _ _ bx) _ (by go_simp) (by go_simp) (by go_simp)) rfl ?_
                rw [HDN.out]
                exact ⟨Am, kk, cm, rfl, (HN2.out.rowLoD (Nat.lt_succ_self _)).mono (Nat.zero_le _) (by simp [World.setRow]), below_setRowD HB3.out (Nat.le_refl _)⟩
end Go.Proofs.YtjjlofaejpnnnaaGreatDoor

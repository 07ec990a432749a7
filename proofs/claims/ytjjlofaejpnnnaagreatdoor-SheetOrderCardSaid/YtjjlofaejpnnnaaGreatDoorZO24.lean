/-
  THE LAW SheetOrder: the nodes' lines of a model's text tell its nodes in document order.
-/
import Derived.Test.YtjjlofaejpnnnaaGreatDoorZO23
namespace Go.Proofs.YtjjlofaejpnnnaaGreatDoor
open Go Go.RowKit Go.Sort
set_option linter.unusedVariables false
set_option maxRecDepth 20000 in
set_option maxHeartbeats 6400000 in
theorem sheetOrder_law (w : World) (s : ByteArray) (hE : Env w) : Calls Tryz.prog 6 #[.string s] w (Ret w (.bool true)) := by
  have HAW := Lib.hid (awake_any w hE)
  have HE := Lib.hid hE
  rcases parse_cases s.data.toList with ⟨pa, pe, hp, hne⟩ | ⟨st, hp, hfin, hlen⟩
  · have HPS : Hid (∀ Y, Below w.heap.size w Y → Calls Tryz.prog 8 #[.string s] Y (ParseP Y ((0, []), pa, pe))) := Lib.hid fun Y hY => by
      have := sheetParse_any Y s (hE.below hY)
      rwa [hp] at this
    have he1 : (pe != 0) = true := by rw [bne_iff_ne]; exact hne
    clear hE hp hne
    go_enter Tryz.func6, Tryz.ntmps6
    go_wp2_with (first | (go_at_call 11; refine HAW.out.mono ?_; rintro e w1 ⟨rfl, hb1⟩; have HB1 := Lib.hid hb1; clear hb1) | (go_at_call 8; refine (HPS.out _ HB1.out).mono ?_; rintro e w2 ⟨A, n, c, rfl, hni, hb2⟩; have HN := Lib.hid hni; have HB2 : Hid (Below w.heap.size w w2) := Lib.hid (HB1.out.trans (hb2.mono HB1.out.size)); clear hni hb2))
    go_ret
    exact ⟨rfl, by (repeat (first | exact HB2.out | refine below_more ?_ _))⟩
  · have HPS : Hid (∀ Y, Below w.heap.size w Y → Calls Tryz.prog 8 #[.string s] Y (ParseP Y ((st.next, sortV st.nds), 0, 0))) := Lib.hid fun Y hY => by
      have := sheetParse_any Y s (hE.below hY)
      rwa [hp] at this
    have hss : s.size ≤ 1048576 := by rw [toList_eq] at hlen; exact hlen
    have HF := Lib.hid hfin
    have hrd := read_fin hfin
    have hor := order_read hrd.2.1 hrd.2.2
    have HOV : Hid (orderR st.next (sortV st.nds) = idsOf st) := Lib.hid (by unfold orderR; rw [if_pos hor.1, hor.2])
    have HSL : Hid ((sortV st.nds).length = (idsOf st).length) := Lib.hid (by rw [sortV_len]; unfold idsOf; rw [List.length_map])
    have hln : (idsOf st).length ≤ 4096 := by unfold idsOf; rw [List.length_map]; exact hrd.2.1.ln
    have HST := Lib.hid (OrdS.start s)
    clear hE hp hfin hlen hrd hor
    go_enter Tryz.func6, Tryz.ntmps6
    go_upto_region 4 with (first | (go_at_call 11; refine HAW.out.mono ?_; rintro e w1 ⟨rfl, hb1⟩; have HB1 := Lib.hid hb1; clear hb1) | (go_at_call 8; refine (HPS.out _ HB1.out).mono ?_; rintro e w2 ⟨A, n, c, rfl, hni, hb2⟩; have HN := Lib.hid hni; have HB2 : Hid (Below w.heap.size w w2) := Lib.hid (HB1.out.trans (hb2.mono HB1.out.size)); clear hni hb2))
    have HN3 : Hid (NodesIn (w2.alloc (.cells #[.int .i64 st.next, .slice A n c] 25)) 0 w2.heap.size A n c (sortV st.nds)) := Lib.hid (HN.out.below ((Below.refl _ _).alloc (Nat.le_refl _) _))
    have HBX : Hid (Blk (w2.alloc (.cells #[.int .i64 st.next, .slice A n c] 25)) w2.heap.size 25 #[.int .i64 st.next, .slice A n c]) := Lib.hid (Blk.new _ _ _)
    have HB3 : Hid (Below w.heap.size w (w2.alloc (.cells #[.int .i64 st.next, .slice A n c] 25))) := Lib.hid (below_more HB2.out _)
    have HNL : Hid (n = (idsOf st).length) := Lib.hid (by rw [← HSL.out]; exact HN.out.1.symm)
    generalize w2.alloc (.cells #[.int .i64 st.next, .slice A n c] 25) = W3 at HN3 HBX HB3 ⊢
    have x0 : W3.cell? ⟨w2.heap.size, 0, none⟩ = some (.int .i64 st.next) := (HBX.out.cell 0).trans rfl
    have x1 : W3.cell? ⟨w2.heap.size, 1, none⟩ = some (.slice A n c) := (HBX.out.cell 1).trans rfl
    have HOR := Lib.hid (order_any W3 w2.heap.size st.next A n c (sortV st.nds) HN3.out (Nat.le_of_lt HBX.out.lt))
    rw [HOV.out] at HOR
    by_cases h2k : 2000 < n
    · have g2 : (2000 : Int) < (n : Int) := by omega
      clear h2k
      go_wp2_with fail
      go_ret
      exact ⟨rfl, HB3.out⟩
    · have g2 : ¬ (2000 : Int) < (n : Int) := by omega
      clear h2k
      go_upto_region 7 with (go_at_call 16; refine HOR.out.mono ?_; rintro e w4 ⟨v4, rfl, ho4, hb4⟩; have HO4 := Lib.hid ho4; have HB4 := Lib.hid hb4; clear ho4 hb4)
      obtain ⟨Ao, co, rfl⟩ := own_formS HO4.out
      clear HOR HN3 HBX x0 x1
      have HW0 : Hid (Below w.heap.size w w4) := Lib.hid (HB3.out.trans (HB4.out.mono HB3.out.size))
      generalize hm : (idsOf st).length = m at HNL hln HO4 ⊢
      have HM := Lib.hid hm
      clear hm
      go_upto_region 9 with fail
      go_loopw [7, 8, 9, 10, 11] (fun a7 a8 a9 a10 a11 wr => ∃ (at_ fr c i : Nat) (sc : RS), a7 = .int .i64 at_ ∧ a8 = .int .i64 fr ∧ a9 = .int .i64 c ∧ a10 = .int .i64 i ∧ fr ≤ i ∧ i ≤ s.size ∧ c ≤ fr ∧ at_ ≤ fr ∧ Hid (OrdS s fr c at_ sc) ∧ Hid (fr + (cutA 10 (s.data.toList.drop fr)).length = i + (cutA 10 (s.data.toList.drop i)).length) ∧ Hid (Below w4.heap.size w4 wr)) (fun _ _ _ a10 _ _ => s.size - (intOf a10).toNat)
      case atStart => exact ⟨0, 0, 0, 0, _, rfl, rfl, rfl, rfl, Nat.le_refl _, Nat.zero_le _, Nat.le_refl _, Nat.le_refl _, HST, Lib.hid rfl, Lib.hid (Below.refl _ _)⟩
      case round =>
        rename World => wr
        clear HST
        obtain ⟨at_, fr, c, i, sc, rfl, rfl, rfl, rfl, hfi, his, hcf, haf, HS, HE2, HBW⟩ := hrel
        by_cases hlt : i < s.size
        · have e0 := drop_get' s i hlt
          by_cases h10 : s[i].toNat = 10
          · have d1 : ((s[i].toNat : Int) != 10) = false := by rw [bne_eq_false_iff_eq]; omega
            have HEN : Hid (fr + (cutA 10 (s.data.toList.drop fr)).length = i) := Lib.hid (by rw [HE2.out, e0, cutA_stopS (UInt8.toNat_inj.1 (by rw [h10]; rfl))]; rfl)
            have hT : (s.extract fr i).size ≤ 1048576 := by rw [← toList_eq, line_is s fr i HEN.out]; have := cutA_leD (s.data.toList.drop fr); rw [List.length_drop, toList_eq] at this; omega
            have HTO : Hid (Calls Tryz.prog 17 #[.string (s.extract fr i)] wr (TelP (s.extract fr i) wr)) := Lib.hid (told_any _ wr hT (HE.out.below (HW0.out.trans (HBW.out.mono HW0.out.size))))
            have hline := HS.out.line HF.out HEN.out hlt hfi
            clear h10 e0 HE2 hT
            unfold TelP at HTO
            generalize toldN (s.extract fr i).data.toList = tn at HTO hline
            rcases hline with ⟨hc0, sc', hO⟩ | ⟨hc1, ht0, sc', hO⟩ | ⟨hc1, ht1, hal, hat, sc', hO⟩
            · have HO := Lib.hid hO
              have g1 : ¬ (0 : Int) < (c : Int) := by omega
              clear hO hc0
              go_wp2_with (go_at_call 17; refine HTO.out.mono ?_; rintro e w5 ⟨rfl, hb5⟩; have HB5 := Lib.hid (HBW.out.trans (hb5.mono HBW.out.size)); clear hb5)
              go_roundw
              case rel => exact ⟨at_, i + 1, c + 1, i + 1, sc', rfl, by go_num, by go_num, by go_num, Nat.le_refl _, by omega, by omega, by omega, HO, Lib.hid rfl, HB5⟩
              case measure => simp [intOf]; omega
            · have HO := Lib.hid hO
              have g1 : (0 : Int) < (c : Int) := by omega
              have g3 : ¬ (0 : Int) < tn := by omega
              clear hO hc1 ht0
              go_wp2_with (go_at_call 17; refine HTO.out.mono ?_; rintro e w5 ⟨rfl, hb5⟩; have HB5 := Lib.hid (HBW.out.trans (hb5.mono HBW.out.size)); clear hb5)
              go_roundw
              case rel => exact ⟨at_, i + 1, c + 1, i + 1, sc', rfl, by go_num, by go_num, by go_num, Nat.le_refl _, by omega, by omega, by omega, HO, Lib.hid rfl, HB5⟩
              case measure => simp [intOf]; omega
            · have HO := Lib.hid hO
              have g1 : (0 : Int) < (c : Int) := by omega
              have g3 : (0 : Int) < tn := by omega
              rw [HM.out] at hal
              obtain ⟨go, rfl, _⟩ := own_addrB HO4.out (by omega)
              have HCE : Hid (∀ Y, Below w4.heap.size w4 Y → Y.cell? ⟨go, at_, none⟩ = some (.int .i64 tn)) := Lib.hid fun Y hY => by
                have h1 := World.ownsRow.cellAt (own_after HO4.out hY) at_ (by omega)
                rw [h1]
                unfold intCells
                rw [List.getElem?_map, hat]; rfl
              have g4 : ¬ (m : Int) ≤ (at_ : Int) := by omega
              clear hO hc1 ht1 hat
              go_upto_region 14 with (go_at_call 17; refine HTO.out.mono ?_; rintro e w5 ⟨rfl, hb5⟩; have HB5 := Lib.hid (HBW.out.trans (hb5.mono HBW.out.size)); clear hb5)
              have cx := HCE.out _ HB5.out
              go_wp2_with fail
              go_roundw
              case rel => exact ⟨at_ + 1, i + 1, c + 1, i + 1, sc', by go_num, by go_num, by go_num, by go_num, Nat.le_refl _, by omega, by omega, by omega, HO, Lib.hid rfl, HB5⟩
              case measure => simp [intOf]; omega
          · have d1 : ((s[i].toNat : Int) != 10) = true := by rw [bne_iff_ne]; omega
            have HE3 : Hid (fr + (cutA 10 (s.data.toList.drop fr)).length = (i + 1) + (cutA 10 (s.data.toList.drop (i + 1))).length) := Lib.hid (by rw [HE2.out, e0, cutA_goS fun e => h10 (by rw [e]; rfl)]; omega)
            clear h10 e0 HE2
            go_wp2_with fail
            go_roundw
            case rel => exact ⟨at_, fr, c, i + 1, sc, rfl, rfl, rfl, by go_num, by omega, by omega, hcf, haf, HS, HE3, HBW⟩
            case measure => simp [intOf]; omega
        · obtain rfl : s.size = i := by omega
          have hend := HS.out.end_ HF.out (by rw [HE2.out, drop_empty (Nat.le_refl _)]; rfl)
          rw [HM.out] at hend
          have g5 : ((at_ : Int) == (m : Int)) = true := by rw [beq_iff_eq]; omega
          clear hend HE2 HS
          go_wp2_with fail
          go_ret
          exact ⟨rfl, HW0.out.trans (HBW.out.mono HW0.out.size)⟩
end Go.Proofs.YtjjlofaejpnnnaaGreatDoor

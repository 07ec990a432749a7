/-
  WALKS over the document's sheet: takes: a line of a property or of a reference.
-/
import Derived.Test.YtjjlofaejpnnnaaGreatDoorZR21
namespace Go.Proofs.YtjjlofaejpnnnaaGreatDoor
open Go Go.RowKit Go.Sort
set_option linter.unusedVariables false
set_option maxRecDepth 20000 in
set_option maxHeartbeats 12800000 in
theorem takesD_ref (w : World) (B0 B gu c k : Nat) (v vd : Value) (l : List (Nd × Leaf)) (st : RS) (h : UIn B gu c k v vd l st w) (h0 : st.next ≠ 0) (hc : 1 ≤ c) (hcb : c ≤ 4194304) (hB0 : B0 ≤ gu) (s : ByteArray) (hs : s.size ≤ 1048576) (d : Nat) (hd : blanksV s.data.toList = d) (hlt : d < s.size) (hch : s[d].toNat = 62) (hk : k + 1 ≤ 4194304) :
    Calls Tryz.prog 21 #[.pointer (some ⟨gu, 0, none⟩), .string s] w (LineU B0 B gu (c + 1) (k + 1) (takesV st s.data.toList) w) := by
  have hok := h.ok h0
  have hdl := hok.dl
  have hln := hok.ln
  have hcc : s[d].toNat = 46 ∨ s[d].toNat = 62 := by omega
  have c3 : w.cell? ⟨gu, 3, none⟩ = some (.int .i64 c) := (h.box.cell 3).trans rfl
  have f3 := h.box.frozen 3
  have e1 : (((c : Int) + 1) == 1) = false := by rw [beq_eq_false_iff_ne]; omega
  have ec : ((c + 1 : Nat) : Int) = (c : Int) + 1 := by omega
  have HU := Lib.hid h.count
  have HB : Hid (Below B0 w (w.setCell ⟨gu, 3, none⟩ (.int .i64 ((c + 1 : Nat) : Int)))) := Lib.hid ((Below.refl B0 w).setCell (p := ⟨gu, 3, none⟩) hB0 _)
  have HBL : Hid (∀ (n : Nat) (hn : n < s.size), n < d → s[n].toNat = 32) := Lib.hid fun n hn hnd => blanks_before s (by omega) hn
  have b32 := blanks_at hd hlt
  have d32 : ((s[d].toNat : Int) == 32) = false := by rw [beq_eq_false_iff_ne]; omega
  have dsz : ((d : Int) == (s.size : Int)) = false := by rw [beq_eq_false_iff_ne]; omega
  have x46 : ((s[d].toNat : Int) == 46) = false := by rw [beq_eq_false_iff_ne]; omega
  have x62 : ((s[d].toNat : Int) == 62) = true := by rw [beq_iff_eq]; omega
  have HNO : Hid (takesV st s.data.toList = none → LineU B0 B gu (c + 1) (k + 1) (takesV st s.data.toList) w (.returned (.bool false)) (w.setCell ⟨gu, 3, none⟩ (.int .i64 ((c + 1 : Nat) : Int)))) := Lib.hid fun hr => lineU_no hr HB.out (by rw [HU.out.box.cell]; rfl)
  have HN1 : Hid (st.nds = [] → takesV st s.data.toList = none) := Lib.hid fun hx => sub_no1 h0 hd hlt hcc hx
  have HN2 : Hid (¬ (d = st.deep.getLastD 0 ∧ wordB (wordAt s (d + 1)) = true) → takesV st s.data.toList = none) := Lib.hid fun hx => sub_no2 h0 hd hlt hcc hx
  have HN3 : Hid (s.size ≤ d + 1 + (wordAt s (d + 1)).size → takesV st s.data.toList = none) := Lib.hid fun hx => sub_no3 h0 hd hlt hcc hx
  have HN4 : Hid (∀ hx : d + 1 + (wordAt s (d + 1)).size < s.size, s[d + 1 + (wordAt s (d + 1)).size].toNat ≠ 61 → takesV st s.data.toList = none) := Lib.hid fun hx hy => sub_no4 h0 hd hlt hcc hx hy
  have HYS : Hid (∀ nd, st.nds.getLast? = some nd → d = st.deep.getLastD 0 → wordB (wordAt s (d + 1)) = true → ∀ hx : d + 1 + (wordAt s (d + 1)).size < s.size, s[d + 1 + (wordAt s (d + 1)).size].toNat = 61 → takesV st s.data.toList = refersV st nd (wordAt s (d + 1)).data.toList (s.extract (d + 1 + (wordAt s (d + 1)).size + 1) s.size).data.toList) := Lib.hid fun nd hl hdp hw hx hy => by
    rw [sub_yes h0 hd hlt hcc hl hdp hw hx hy, if_pos hch]
  have hawl := at_le (s := s) (d + 1) (by omega)
  obtain ⟨d1, hd1⟩ : ∃ d1, d + 1 = d1 := ⟨_, rfl⟩
  have hw1 : (d1 : Int) = (d : Int) + 1 := by omega
  have HWD0 : ∀ Y, Calls Tryz.prog 51 #[.string s, .int .i64 ((d : Int) + 1)] Y (WordQ s d1 Y) := fun Y => by rw [← hw1]; exact wordD_any s d1 Y (by omega) (by omega)
  unfold WordQ at HWD0
  rw [hd1] at HN2 HN3 HN4 HYS hawl
  obtain ⟨W, hW⟩ : ∃ W, wordAt s d1 = W := ⟨_, rfl⟩
  rw [hW] at HN2 HN3 HN4 HYS hawl HWD0
  obtain ⟨p, hp⟩ : ∃ p, d1 + W.size = p := ⟨_, rfl⟩
  have hp1 : d1 ≤ p := by omega
  have hw2 : (d : Int) + 1 + (W.size : Int) = (p : Int) := by omega
  have hws : W.size ≤ 1048576 := by omega
  rw [hp] at HN3 hawl HN4 HYS
  have hw3 : ((p + 1 : Nat) : Int) = (p : Int) + 1 := by omega
  have HWD := Lib.hid HWD0
  have HW2 : Hid (∀ Y, Calls Tryz.prog 52 #[.string W] Y (Says Y (wordB W))) := Lib.hid fun Y => refWord_any W Y (by unfold maxLen; omega)
  obtain ⟨A, cp, rfl, hc1, hc2⟩ := h.v_form
  obtain ⟨Ad, cd, rfl, hd3, hd2⟩ := h.d_form
  obtain ⟨W1, hW1⟩ : ∃ W1, w.setCell ⟨gu, 3, none⟩ (.int .i64 ((c : Int) + 1)) = W1 := ⟨_, rfl⟩
  rw [ec] at HU HB HNO
  rw [hW1] at HU HB HNO
  have c1 : W1.cell? ⟨gu, 1, none⟩ = some (.slice A st.nds.length cp) := (HU.out.box.cell 1).trans rfl
  have c2 : W1.cell? ⟨gu, 2, none⟩ = some (.slice Ad st.deep.length cd) := (HU.out.box.cell 2).trans rfl
  have HDX : Hid (0 < st.nds.length → ∃ gd x, Ad = some ⟨gd, 0, none⟩ ∧ st.deep.getLastD 0 = x ∧ W1.cell? ⟨gd, st.nds.length - 1, none⟩ = some (.int .i64 (x : Nat))) := Lib.hid fun hn => by
    have ho : W1.ownsRow B 3 1 (.slice Ad st.deep.length cd) st.deep.length (intCells (deepI st.deep)) := by
      have := HU.out.np.way
      rwa [show (deepI st.deep).length = st.deep.length from List.length_map _] at this
    obtain ⟨gd, rfl, hgd⟩ := own_addrB ho (by omega)
    obtain ⟨x, hx⟩ : ∃ x, st.deep[st.nds.length - 1]? = some x := ⟨_, List.getElem?_eq_getElem (by omega)⟩
    refine ⟨gd, x, rfl, ?_, ?_⟩
    · rw [List.getLastD_eq_getLast?, List.getLast?_eq_getElem?, hdl, hx]; rfl
    · have := World.ownsRow.cellAt ho (st.nds.length - 1) (by omega)
      rw [this]
      exact deepI_get hx
  rw [hdl] at c2
  clear h hok hcc b32 hch hd hW hd1 hp hc1 hc2 hd3 hd2 hdl HWD0
  go_enter Tryz.func21, Tryz.ntmps21
  go_upto_region 2 with fail
  (try rw [hW1])
  have c3 : W1.cell? ⟨gu, 3, none⟩ = some (.int .i64 ((c : Int) + 1)) := (HU.out.box.cell 3).trans rfl
  clear hW1 ec
  go_wp2_with fail
  go_loop [7] (fun a7 => ∃ n : Nat, a7 = .int .i64 n ∧ n ≤ d) (fun a7 => d - (intOf a7).toNat)
  case atStart => exact ⟨0, rfl, Nat.zero_le _⟩
  case round =>
    obtain ⟨n, rfl, hn⟩ := hrel
    by_cases hnd : n < d
    · have hns : n < s.size := by omega
      have y1 : ((s[n].toNat : Int) == 32) = true := by rw [beq_iff_eq]; have := HBL.out n hns hnd; omega
      clear x46 x62 d32 dsz
      go_wp2_with fail
      go_round
      case rel => exact ⟨n + 1, by go_num, by omega⟩
      case measure => simp [intOf]; omega
    · obtain rfl : n = d := by omega
      clear hnd hn HBL
      by_cases hn0 : st.nds.length = 0
      · have HN := Lib.hid (HNO.out (HN1.out (List.eq_nil_of_length_eq_zero hn0)))
        rw [hn0] at c1
        clear HNO HN1 HN2 HN3 HN4 HYS HDX c2 hn0
        go_wp2_with fail
        go_ret
        exact HN.out
      · obtain ⟨gd, x, rfl, hx, cx⟩ := HDX.out (by omega)
        have HLE : Hid (∃ nd, st.nds.getLast? = some nd) := Lib.hid (by
          cases hq : st.nds.getLast? with
          | none => exact absurd (by rw [List.getLast?_eq_none_iff.1 hq]; rfl) hn0
          | some nd => exact ⟨nd, rfl⟩)
        rw [hx] at HN2 HYS
        have hwn : IntKind.i64.wrap ((st.nds.length : Int) - 1) = ((st.nds.length - 1 : Nat) : Int) := by rw [IntWalk.i64_in _ (by omega)]; omega
        have e5 : ¬ ((st.nds.length - 1 : Nat) : Int) < 0 := by omega
        have hin : st.nds.length - 1 < st.nds.length := by omega
        generalize st.nds.length - 1 = m at cx hwn e5 hin
        generalize st.nds.length = q at c1 c2 hwn hin hln
        clear HDX HN1 hx hn0
        by_cases hdx : n = x
        · have e6 : ((n : Int) != (x : Int)) = false := by rw [bne_eq_false_iff_eq]; omega
          cases hwb : wordB W with
          | false =>
            have HN := Lib.hid (HNO.out (HN2.out fun hy => by rw [hwb] at hy; exact absurd hy.2 (by decide)))
            have HW3 : Hid (∀ Y, Calls Tryz.prog 52 #[.string W] Y (Says Y false)) := Lib.hid fun Y => by have := HW2.out Y; rwa [hwb] at this
            clear HNO HN2 HN3 HN4 HYS hdx hwb HW2
            unfold Says at HW3
            go_upto_region 20 with (go_at_call 51; refine (HWD.out _).mono ?_; rintro e w4 ⟨rfl, rfl⟩)
            (try rw [hw2])
            go_wp2_with (go_at_call 52; refine (HW3.out _).mono ?_; rintro e w4 ⟨rfl, rfl⟩)
            go_ret
            exact HN.out
          | true =>
            have HW3 : Hid (∀ Y, Calls Tryz.prog 52 #[.string W] Y (Says Y true)) := Lib.hid fun Y => by have := HW2.out Y; rwa [hwb] at this
            unfold Says at HW3
            clear HW2
            by_cases hps : s.size ≤ p
            · have e7 : ((p : Int) == (s.size : Int)) = true := by rw [beq_iff_eq]; omega
              have HN := Lib.hid (HNO.out (HN3.out hps))
              clear HNO HN2 HN3 HN4 HYS hdx hwb hps
              go_upto_region 20 with (go_at_call 51; refine (HWD.out _).mono ?_; rintro e w4 ⟨rfl, rfl⟩)
              (try rw [hw2])
              go_wp2_with (go_at_call 52; refine (HW3.out _).mono ?_; rintro e w4 ⟨rfl, rfl⟩)
              go_ret
              exact HN.out
            · have hpl : p < s.size := by omega
              have e7 : ((p : Int) == (s.size : Int)) = false := by rw [beq_eq_false_iff_ne]; omega
              clear hps HN3
              by_cases h61 : s[p].toNat = 61
              · have e8 : ((s[p].toNat : Int) != 61) = false := by rw [bne_eq_false_iff_eq]; omega
                obtain ⟨nd, hnd⟩ := HLE.out
                have HY := Lib.hid (HYS.out nd hnd hdx hwb hpl h61)
                have hpq : p + 1 ≤ s.size := by omega
                have HCL : Hid (Calls Tryz.prog 53 #[.pointer (some ⟨gu, 0, none⟩), .string W, .string (s.extract (p + 1) s.size)] W1 (LineU B0 B gu (c + 1) (k + 1) (takesV st s.data.toList) W1)) := Lib.hid (by rw [HY.out]; exact refersD_any W1 B0 B gu (c + 1) k _ _ l st HU.out h0 hB0 nd hnd W _ (by rw [(cut_two s (p + 1) hpq).2.2]; omega) hws hk)
                clear HNO HN2 HN4 HYS hdx hwb h61 HLE hnd HY
                go_upto_region 20 with (go_at_call 51; refine (HWD.out _).mono ?_; rintro e w4 ⟨rfl, rfl⟩)
                (try rw [hw2])
                go_wp2_with (first | (go_at_call 52; refine (HW3.out _).mono ?_; rintro e w4 ⟨rfl, rfl⟩) | (go_at_call 53; refine HCL.out.mono ?_; rintro e w5 ⟨rfl, hb5, hc5, hst⟩; have HL5 : Hid (LineU B0 B gu (c + 1) (k + 1) (takesV st s.data.toList) w (.returned (.bool (takesV st s.data.toList).isSome)) w5) := Lib.hid ⟨rfl, HB.out.trans hb5, hc5, hst⟩; clear hb5 hc5 hst))
                go_ret
                exact HL5.out
              · have e8 : ((s[p].toNat : Int) != 61) = true := by rw [bne_iff_ne]; omega
                have HN := Lib.hid (HNO.out (HN4.out hpl h61))
                clear HNO HN2 HN4 HYS hdx hwb h61
                go_upto_region 20 with (go_at_call 51; refine (HWD.out _).mono ?_; rintro e w4 ⟨rfl, rfl⟩)
                (try rw [hw2])
                go_wp2_with (go_at_call 52; refine (HW3.out _).mono ?_; rintro e w4 ⟨rfl, rfl⟩)
                go_ret
                exact HN.out
        · have e6 : ((n : Int) != (x : Int)) = true := by rw [bne_iff_ne]; omega
          have HN := Lib.hid (HNO.out (HN2.out fun hy => hdx hy.1))
          clear HNO HN2 HN3 HN4 HYS hdx
          go_wp2_with fail
          go_ret
          exact HN.out
set_option maxRecDepth 20000 in
set_option maxHeartbeats 12800000 in
theorem takesD_prop (w : World) (B0 B gu c k : Nat) (v vd : Value) (l : List (Nd × Leaf)) (st : RS) (h : UIn B gu c k v vd l st w) (h0 : st.next ≠ 0) (hc : 1 ≤ c) (hcb : c ≤ 4194304) (hB0 : B0 ≤ gu) (s : ByteArray) (hs : s.size ≤ 1048576) (d : Nat) (hd : blanksV s.data.toList = d) (hlt : d < s.size) (hch : s[d].toNat = 46) (hk : k + 1 ≤ 4194304) :
    Calls Tryz.prog 21 #[.pointer (some ⟨gu, 0, none⟩), .string s] w (LineU B0 B gu (c + 1) (k + 1) (takesV st s.data.toList) w) := by
  have hok := h.ok h0
  have hdl := hok.dl
  have hln := hok.ln
  have hcc : s[d].toNat = 46 ∨ s[d].toNat = 62 := by omega
  have c3 : w.cell? ⟨gu, 3, none⟩ = some (.int .i64 c) := (h.box.cell 3).trans rfl
  have f3 := h.box.frozen 3
  have e1 : (((c : Int) + 1) == 1) = false := by rw [beq_eq_false_iff_ne]; omega
  have ec : ((c + 1 : Nat) : Int) = (c : Int) + 1 := by omega
  have HU := Lib.hid h.count
  have HB : Hid (Below B0 w (w.setCell ⟨gu, 3, none⟩ (.int .i64 ((c + 1 : Nat) : Int)))) := Lib.hid ((Below.refl B0 w).setCell (p := ⟨gu, 3, none⟩) hB0 _)
  have HBL : Hid (∀ (n : Nat) (hn : n < s.size), n < d → s[n].toNat = 32) := Lib.hid fun n hn hnd => blanks_before s (by omega) hn
  have b32 := blanks_at hd hlt
  have d32 : ((s[d].toNat : Int) == 32) = false := by rw [beq_eq_false_iff_ne]; omega
  have dsz : ((d : Int) == (s.size : Int)) = false := by rw [beq_eq_false_iff_ne]; omega
  have x46 : ((s[d].toNat : Int) == 46) = true := by rw [beq_iff_eq]; omega
  have x62 : ((s[d].toNat : Int) == 62) = false := by rw [beq_eq_false_iff_ne]; omega
  have HNO : Hid (takesV st s.data.toList = none → LineU B0 B gu (c + 1) (k + 1) (takesV st s.data.toList) w (.returned (.bool false)) (w.setCell ⟨gu, 3, none⟩ (.int .i64 ((c + 1 : Nat) : Int)))) := Lib.hid fun hr => lineU_no hr HB.out (by rw [HU.out.box.cell]; rfl)
  have HN1 : Hid (st.nds = [] → takesV st s.data.toList = none) := Lib.hid fun hx => sub_no1 h0 hd hlt hcc hx
  have HN2 : Hid (¬ (d = st.deep.getLastD 0 ∧ wordB (wordAt s (d + 1)) = true) → takesV st s.data.toList = none) := Lib.hid fun hx => sub_no2 h0 hd hlt hcc hx
  have HN3 : Hid (s.size ≤ d + 1 + (wordAt s (d + 1)).size → takesV st s.data.toList = none) := Lib.hid fun hx => sub_no3 h0 hd hlt hcc hx
  have HN4 : Hid (∀ hx : d + 1 + (wordAt s (d + 1)).size < s.size, s[d + 1 + (wordAt s (d + 1)).size].toNat ≠ 61 → takesV st s.data.toList = none) := Lib.hid fun hx hy => sub_no4 h0 hd hlt hcc hx hy
  have HYS : Hid (∀ nd, st.nds.getLast? = some nd → d = st.deep.getLastD 0 → wordB (wordAt s (d + 1)) = true → ∀ hx : d + 1 + (wordAt s (d + 1)).size < s.size, s[d + 1 + (wordAt s (d + 1)).size].toNat = 61 → takesV st s.data.toList = hasV st nd (wordAt s (d + 1)).data.toList (s.extract (d + 1 + (wordAt s (d + 1)).size + 1) s.size).data.toList) := Lib.hid fun nd hl hdp hw hx hy => by
    rw [sub_yes h0 hd hlt hcc hl hdp hw hx hy, if_neg (by omega)]
  have hawl := at_le (s := s) (d + 1) (by omega)
  obtain ⟨d1, hd1⟩ : ∃ d1, d + 1 = d1 := ⟨_, rfl⟩
  have hw1 : (d1 : Int) = (d : Int) + 1 := by omega
  have HWD0 : ∀ Y, Calls Tryz.prog 51 #[.string s, .int .i64 ((d : Int) + 1)] Y (WordQ s d1 Y) := fun Y => by rw [← hw1]; exact wordD_any s d1 Y (by omega) (by omega)
  unfold WordQ at HWD0
  rw [hd1] at HN2 HN3 HN4 HYS hawl
  obtain ⟨W, hW⟩ : ∃ W, wordAt s d1 = W := ⟨_, rfl⟩
  rw [hW] at HN2 HN3 HN4 HYS hawl HWD0
  obtain ⟨p, hp⟩ : ∃ p, d1 + W.size = p := ⟨_, rfl⟩
  have hp1 : d1 ≤ p := by omega
  have hw2 : (d : Int) + 1 + (W.size : Int) = (p : Int) := by omega
  have hws : W.size ≤ 1048576 := by omega
  rw [hp] at HN3 hawl HN4 HYS
  have hw3 : ((p + 1 : Nat) : Int) = (p : Int) + 1 := by omega
  have HWD := Lib.hid HWD0
  have HW2 : Hid (∀ Y, Calls Tryz.prog 52 #[.string W] Y (Says Y (wordB W))) := Lib.hid fun Y => refWord_any W Y (by unfold maxLen; omega)
  obtain ⟨A, cp, rfl, hc1, hc2⟩ := h.v_form
  obtain ⟨Ad, cd, rfl, hd3, hd2⟩ := h.d_form
  obtain ⟨W1, hW1⟩ : ∃ W1, w.setCell ⟨gu, 3, none⟩ (.int .i64 ((c : Int) + 1)) = W1 := ⟨_, rfl⟩
  rw [ec] at HU HB HNO
  rw [hW1] at HU HB HNO
  have c1 : W1.cell? ⟨gu, 1, none⟩ = some (.slice A st.nds.length cp) := (HU.out.box.cell 1).trans rfl
  have c2 : W1.cell? ⟨gu, 2, none⟩ = some (.slice Ad st.deep.length cd) := (HU.out.box.cell 2).trans rfl
  have HDX : Hid (0 < st.nds.length → ∃ gd x, Ad = some ⟨gd, 0, none⟩ ∧ st.deep.getLastD 0 = x ∧ W1.cell? ⟨gd, st.nds.length - 1, none⟩ = some (.int .i64 (x : Nat))) := Lib.hid fun hn => by
    have ho : W1.ownsRow B 3 1 (.slice Ad st.deep.length cd) st.deep.length (intCells (deepI st.deep)) := by
      have := HU.out.np.way
      rwa [show (deepI st.deep).length = st.deep.length from List.length_map _] at this
    obtain ⟨gd, rfl, hgd⟩ := own_addrB ho (by omega)
    obtain ⟨x, hx⟩ : ∃ x, st.deep[st.nds.length - 1]? = some x := ⟨_, List.getElem?_eq_getElem (by omega)⟩
    refine ⟨gd, x, rfl, ?_, ?_⟩
    · rw [List.getLastD_eq_getLast?, List.getLast?_eq_getElem?, hdl, hx]; rfl
    · have := World.ownsRow.cellAt ho (st.nds.length - 1) (by omega)
      rw [this]
      exact deepI_get hx
  rw [hdl] at c2
  clear h hok hcc b32 hch hd hW hd1 hp hc1 hc2 hd3 hd2 hdl HWD0
  go_enter Tryz.func21, Tryz.ntmps21
  go_upto_region 2 with fail
  (try rw [hW1])
  have c3 : W1.cell? ⟨gu, 3, none⟩ = some (.int .i64 ((c : Int) + 1)) := (HU.out.box.cell 3).trans rfl
  clear hW1 ec
  go_wp2_with fail
  go_loop [7] (fun a7 => ∃ n : Nat, a7 = .int .i64 n ∧ n ≤ d) (fun a7 => d - (intOf a7).toNat)
  case atStart => exact ⟨0, rfl, Nat.zero_le _⟩
  case round =>
    obtain ⟨n, rfl, hn⟩ := hrel
    by_cases hnd : n < d
    · have hns : n < s.size := by omega
      have y1 : ((s[n].toNat : Int) == 32) = true := by rw [beq_iff_eq]; have := HBL.out n hns hnd; omega
      clear x46 x62 d32 dsz
      go_wp2_with fail
      go_round
      case rel => exact ⟨n + 1, by go_num, by omega⟩
      case measure => simp [intOf]; omega
    · obtain rfl : n = d := by omega
      clear hnd hn HBL
      by_cases hn0 : st.nds.length = 0
      · have HN := Lib.hid (HNO.out (HN1.out (List.eq_nil_of_length_eq_zero hn0)))
        rw [hn0] at c1
        clear HNO HN1 HN2 HN3 HN4 HYS HDX c2 hn0
        go_wp2_with fail
        go_ret
        exact HN.out
      · obtain ⟨gd, x, rfl, hx, cx⟩ := HDX.out (by omega)
        have HLE : Hid (∃ nd, st.nds.getLast? = some nd) := Lib.hid (by
          cases hq : st.nds.getLast? with
          | none => exact absurd (by rw [List.getLast?_eq_none_iff.1 hq]; rfl) hn0
          | some nd => exact ⟨nd, rfl⟩)
        rw [hx] at HN2 HYS
        have hwn : IntKind.i64.wrap ((st.nds.length : Int) - 1) = ((st.nds.length - 1 : Nat) : Int) := by rw [IntWalk.i64_in _ (by omega)]; omega
        have e5 : ¬ ((st.nds.length - 1 : Nat) : Int) < 0 := by omega
        have hin : st.nds.length - 1 < st.nds.length := by omega
        generalize st.nds.length - 1 = m at cx hwn e5 hin
        generalize st.nds.length = q at c1 c2 hwn hin hln
        clear HDX HN1 hx hn0
        by_cases hdx : n = x
        · have e6 : ((n : Int) != (x : Int)) = false := by rw [bne_eq_false_iff_eq]; omega
          cases hwb : wordB W with
          | false =>
            have HN := Lib.hid (HNO.out (HN2.out fun hy => by rw [hwb] at hy; exact absurd hy.2 (by decide)))
            have HW3 : Hid (∀ Y, Calls Tryz.prog 52 #[.string W] Y (Says Y false)) := Lib.hid fun Y => by have := HW2.out Y; rwa [hwb] at this
            clear HNO HN2 HN3 HN4 HYS hdx hwb HW2
            unfold Says at HW3
            go_upto_region 20 with (go_at_call 51; refine (HWD.out _).mono ?_; rintro e w4 ⟨rfl, rfl⟩)
            (try rw [hw2])
            go_wp2_with (go_at_call 52; refine (HW3.out _).mono ?_; rintro e w4 ⟨rfl, rfl⟩)
            go_ret
            exact HN.out
          | true =>
            have HW3 : Hid (∀ Y, Calls Tryz.prog 52 #[.string W] Y (Says Y true)) := Lib.hid fun Y => by have := HW2.out Y; rwa [hwb] at this
            unfold Says at HW3
            clear HW2
            by_cases hps : s.size ≤ p
            · have e7 : ((p : Int) == (s.size : Int)) = true := by rw [beq_iff_eq]; omega
              have HN := Lib.hid (HNO.out (HN3.out hps))
              clear HNO HN2 HN3 HN4 HYS hdx hwb hps
              go_upto_region 20 with (go_at_call 51; refine (HWD.out _).mono ?_; rintro e w4 ⟨rfl, rfl⟩)
              (try rw [hw2])
              go_wp2_with (go_at_call 52; refine (HW3.out _).mono ?_; rintro e w4 ⟨rfl, rfl⟩)
              go_ret
              exact HN.out
            · have hpl : p < s.size := by omega
              have e7 : ((p : Int) == (s.size : Int)) = false := by rw [beq_eq_false_iff_ne]; omega
              clear hps HN3
              by_cases h61 : s[p].toNat = 61
              · have e8 : ((s[p].toNat : Int) != 61) = false := by rw [bne_eq_false_iff_eq]; omega
                obtain ⟨nd, hnd⟩ := HLE.out
                have HY := Lib.hid (HYS.out nd hnd hdx hwb hpl h61)
                have hpq : p + 1 ≤ s.size := by omega
                have HCL : Hid (Calls Tryz.prog 54 #[.pointer (some ⟨gu, 0, none⟩), .string W, .string s, .int .i64 ((p : Int) + 1)] W1 (LineU B0 B gu (c + 1) (k + 1) (takesV st s.data.toList) W1)) := Lib.hid (by rw [HY.out, ← hw3]; exact hasD_any W1 B0 B gu (c + 1) k _ _ l st HU.out h0 hB0 nd hnd W s (p + 1) hpq hs hws hk)
                clear HNO HN2 HN4 HYS hdx hwb h61 HLE hnd HY
                go_upto_region 20 with (go_at_call 51; refine (HWD.out _).mono ?_; rintro e w4 ⟨rfl, rfl⟩)
                (try rw [hw2])
                go_wp2_with (first | (go_at_call 52; refine (HW3.out _).mono ?_; rintro e w4 ⟨rfl, rfl⟩) | (go_at_call 54; refine HCL.out.mono ?_; rintro e w5 ⟨rfl, hb5, hc5, hst⟩; have HL5 : Hid (LineU B0 B gu (c + 1) (k + 1) (takesV st s.data.toList) w (.returned (.bool (takesV st s.data.toList).isSome)) w5) := Lib.hid ⟨rfl, HB.out.trans hb5, hc5, hst⟩; clear hb5 hc5 hst))
                go_ret
                exact HL5.out
              · have e8 : ((s[p].toNat : Int) != 61) = true := by rw [bne_iff_ne]; omega
                have HN := Lib.hid (HNO.out (HN4.out hpl h61))
                clear HNO HN2 HN4 HYS hdx hwb h61
                go_upto_region 20 with (go_at_call 51; refine (HWD.out _).mono ?_; rintro e w4 ⟨rfl, rfl⟩)
                (try rw [hw2])
                go_wp2_with (go_at_call 52; refine (HW3.out _).mono ?_; rintro e w4 ⟨rfl, rfl⟩)
                go_ret
                exact HN.out
        · have e6 : ((n : Int) != (x : Int)) = true := by rw [bne_iff_ne]; omega
          have HN := Lib.hid (HNO.out (HN2.out fun hy => hdx hy.1))
          clear HNO HN2 HN3 HN4 HYS hdx
          go_wp2_with fail
          go_ret
          exact HN.out
end Go.Proofs.YtjjlofaejpnnnaaGreatDoor

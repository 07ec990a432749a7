/-
  WALKS over the document's sheet: stands: a root is taken.
-/
import Derived.Test.YtjjlofaejpnnnaaGreatDoorZR18
namespace Go.Proofs.YtjjlofaejpnnnaaGreatDoor
open Go Go.RowKit Go.Sort
set_option linter.unusedVariables false
set_option maxRecDepth 20000 in
set_option maxHeartbeats 12800000 in
theorem standsD_yes0 (w : World) (B0 B gu c k : Nat) (v vd : Value) (l : List (Nd × Leaf)) (st : RS) (h : UIn B gu c k v vd l st w) (h0 : st.next ≠ 0) (hB0 : B0 ≤ gu) (n : Nd) (d : Nat) (hd : d ≤ 1048576) (hid : 1 ≤ n.id ∧ n.id < st.next)
    (hnn : n.par = 0 ∧ n.props = [] ∧ n.kids = [] ∧ n.refs = []) (hz : SzN n) (hno : ¬ noStand st n.id d) (hd0 : d = 0) (hn0 : 0 < st.nds.length) (hk : k + 1 ≤ 4194304) :
    Calls Tryz.prog 55 #[.pointer (some ⟨gu, 0, none⟩), .agg (ndBox n), .int .i64 d] w (LineU B0 B gu c (k + 1) (standsV st n d) w) := by
  have hok := h.ok h0
  have hdl := hok.dl
  have HV : Hid (standsV st n d = some (stoodV st n d)) := Lib.hid (by rw [standsV_is hok.dl hok.dk, if_neg hno])
  have hm := h.mid hB0 n
  have HMB : Hid (∀ Y, Below (w.alloc (.cells #[.int .i64 n.id, .string n.con, .int .i64 n.par, .string n.role, .slice none 0 0, .slice none 0 0, .slice none 0 0] 55)).heap.size (w.alloc (.cells #[.int .i64 n.id, .string n.con, .int .i64 n.par, .string n.role, .slice none 0 0, .slice none 0 0, .slice none 0 0] 55)) Y → UMid B0 B gu c w.heap.size st.next v vd l (deepI st.deep) (ndBox n) w Y) := Lib.hid fun Y hY => hm.after hY
  have HFIN : Hid (∀ (vz vq : Value) (W : World), UEnd B0 B gu c st.next vz vq (l ++ [(n, ⟨⟨none, 0, 0⟩, ⟨none, 0, 0⟩, ⟨none, 0, 0⟩⟩)]) (deepI st.deep ++ [(d : Int) + 1]) w W → LineU B0 B gu c (k + 1) (standsV st n d) w (.returned (.bool true)) W) := Lib.hid fun vz vq W hE => by
    subst hd0
    exact lineU_yes HV.out hE.bel (h.stood0 h0 hnn.2 hid hno hk hE)
  have HNS : Hid (n.id ∉ idsOf st ∧ ¬ n.id ≤ rootV st) := Lib.hid ⟨fun h1 => hno (by unfold noStand; exact .inr (.inr (.inr (.inl h1)))), fun h1 => hno (by unfold noStand; exact .inr (.inr (.inr (.inr ⟨hd0, h1⟩))))⟩
  have hr : ¬ (4096 ≤ st.nds.length ∨ 64 ≤ d ∨ st.deep.getLastD 0 < d) := fun h1 => hno (by
    unfold noStand
    rcases h1 with h1 | h1 | h1
    · exact .inl h1
    · exact .inr (.inl h1)
    · exact .inr (.inr (.inl h1)))
  have HNN := Lib.hid hnn.2
  have HSZ := Lib.hid hz
  have hlu := h.lu
  have HLN : Hid (l.length = st.nds.length) := Lib.hid h.len
  obtain ⟨i1, hi1, hz1, hs1, hb1⟩ := info_parts intInfo
  obtain ⟨i2, hi2, hz2, hs2, hb2⟩ := info_parts nodeInfo
  have hn1 := hok.n1
  have hn2 := hok.n2
  obtain ⟨A, cp, rfl, hc1, hc2⟩ := h.v_form
  obtain ⟨Ad, cd, rfl, hd1, hd2⟩ := h.d_form
  have ho : w.ownsRow B 3 1 (.slice Ad st.deep.length cd) st.deep.length (intCells (deepI st.deep)) := by
    have := h.np.way
    rwa [show (deepI st.deep).length = st.deep.length from List.length_map _] at this
  obtain ⟨gd, rfl, hgd⟩ := own_addrB ho (by omega)
  have hov : w.ownsRow B 55 7 (.slice A st.nds.length cp) st.nds.length (allCells l) := by
    have := h.np.own
    unfold OwnN at this
    rwa [h.len] at this
  obtain ⟨g, rfl, hg⟩ := own_addrB hov (by omega)
  have HCl : Hid (∀ Y, Below (w.alloc (.cells #[.int .i64 n.id, .string n.con, .int .i64 n.par, .string n.role, .slice none 0 0, .slice none 0 0, .slice none 0 0] 55)).heap.size (w.alloc (.cells #[.int .i64 n.id, .string n.con, .int .i64 n.par, .string n.role, .slice none 0 0, .slice none 0 0, .slice none 0 0] 55)) Y → Y.cell? ⟨gu, 1, none⟩ = some (.slice (some ⟨g, 0, none⟩) st.nds.length cp) ∧ Y.cell? ⟨gu, 2, none⟩ = some (.slice (some ⟨gd, 0, none⟩) st.deep.length cd) ∧ Y.cell? ⟨w.heap.size, 0, none⟩ = some (.int .i64 n.id) ∧ ∀ (i x : Nat) (nd : Nd), st.nds[i]? = some nd → st.deep[i]? = some x → Y.cell? ⟨g, i * 7, none⟩ = some (.int .i64 nd.id) ∧ Y.cell? ⟨gd, i, none⟩ = some (.int .i64 x)) := Lib.hid fun Y hY => by
    have hm2 := hm.after hY
    refine ⟨(hm2.bx.cell 1).trans rfl, (hm2.bx.cell 2).trans rfl, (hm2.bn.cell 0).trans rfl, fun i x nd hi hx => ?_⟩
    obtain ⟨L, hL⟩ := h.at_ hi
    have hxl := (List.getElem?_eq_some_iff.1 hx).1
    refine ⟨(hm2.np.cells h.len hL).c0, ?_⟩
    have hoY : Y.ownsRow B 3 1 (.slice (some ⟨gd, 0, none⟩) st.deep.length cd) st.deep.length (intCells (deepI st.deep)) := by
      have := hm2.np.way
      rwa [show (deepI st.deep).length = st.deep.length from List.length_map _] at this
    rw [World.ownsRow.cellAt hoY i (by omega)]
    exact deepI_get hx
  have hln := hok.ln
  have e0 : ¬ (0 : Int) < (d : Int) := by omega
  have e4 : ((st.nds.length : Int) == 4096) = false := by rw [beq_eq_false_iff_ne]; omega
  have e64 : ¬ (64 : Int) ≤ (d : Int) := by omega
  obtain ⟨y, hy⟩ : ∃ y, st.deep[st.nds.length - 1]? = some y := ⟨_, List.getElem?_eq_getElem (by omega)⟩
  obtain ⟨ndl, hndl⟩ : ∃ nd, st.nds[st.nds.length - 1]? = some nd := ⟨_, List.getElem?_eq_getElem (by omega)⟩
  have e6 : ¬ (y : Int) < (d : Int) := by
    have e : st.deep.getLastD 0 = y := by rw [List.getLastD_eq_getLast?, List.getLast?_eq_getElem?, hdl, hy]; rfl
    omega
  have c3 : (w.alloc (.cells #[.int .i64 n.id, .string n.con, .int .i64 n.par, .string n.role, .slice none 0 0, .slice none 0 0, .slice none 0 0] 55)).cell? ⟨gd, st.nds.length - 1, none⟩ = some (.int .i64 y) := ((HCl.out _ (Below.refl _ _)).2.2.2 _ _ _ hndl hy).2
  have c1 : (w.alloc (.cells #[.int .i64 n.id, .string n.con, .int .i64 n.par, .string n.role, .slice none 0 0, .slice none 0 0, .slice none 0 0] 55)).cell? ⟨gu, 1, none⟩ = some (.slice (some ⟨g, 0, none⟩) st.nds.length cp) := (HCl.out _ (Below.refl _ _)).1
  have c2 : (w.alloc (.cells #[.int .i64 n.id, .string n.con, .int .i64 n.par, .string n.role, .slice none 0 0, .slice none 0 0, .slice none 0 0] 55)).cell? ⟨gu, 2, none⟩ = some (.slice (some ⟨gd, 0, none⟩) st.deep.length cd) := (HCl.out _ (Below.refl _ _)).2.1
  have hwn : IntKind.i64.wrap ((st.nds.length : Int) - 1) = ((st.nds.length - 1 : Nat) : Int) := by rw [IntWalk.i64_in _ (by omega)]; omega
  have e5 : ¬ ((st.nds.length - 1 : Nat) : Int) < 0 := by omega
  have hin : st.nds.length - 1 < st.nds.length := by omega
  have HDL := Lib.hid hdl
  obtain ⟨q, hq⟩ : ∃ q, st.nds.length = q := ⟨_, rfl⟩
  have HQ := Lib.hid hq
  rw [hdl] at c2 HCl HMB
  rw [hq] at c1 c2 c3 HCl e4 hwn e5 hin hn0 HMB HLN
  have HON : Hid (∀ (X : World) {vd : Value} {ws : List Int}, NP B (.slice (some ⟨g, 0, none⟩) q cp) vd l ws X → X.ownsRow B 55 7 (.slice (some ⟨g, 0, none⟩) q cp) q (allCells l)) := Lib.hid fun X vd ws hX => by have := hX.own; unfold OwnN at this; rw [HLN.out] at this; exact this
  have HOM : Hid (∀ (X : World) (u : Value), X.ownsRow B 55 7 u (q + 1) (allCells l ++ [.int .i64 n.id, .string n.con, .int .i64 n.par, .string n.role, .slice none 0 0, .slice none 0 0, .slice none 0 0]) → OwnN X B u (l ++ [(n, ⟨⟨none, 0, 0⟩, ⟨none, 0, 0⟩, ⟨none, 0, 0⟩⟩)])) := Lib.hid fun X u hu => by unfold OwnN; rw [allCells_snocS, List.length_append, HLN.out]; exact hu
  have HDI : Hid ((deepI st.deep).length = q) := Lib.hid (by unfold deepI; rw [List.length_map, HDL.out]; exact hq)
  have HOD : Hid (∀ (X : World) {v : Value} {l : List (Nd × Leaf)}, NP B v (.slice (some ⟨gd, 0, none⟩) q cd) l (deepI st.deep) X → X.ownsRow B 3 1 (.slice (some ⟨gd, 0, none⟩) q cd) q (intCells (deepI st.deep))) := Lib.hid fun X v l hX => by have := hX.way; rwa [HDI.out] at this
  have HWO : Hid (∀ (X : World) (u : Value), X.ownsRow B 3 1 u (q + 1) (intCells (deepI st.deep) ++ [.int .i64 ((d : Int) + 1)]) → X.ownsRow B 3 1 u (deepI st.deep ++ [(d : Int) + 1]).length (intCells (deepI st.deep ++ [(d : Int) + 1]))) := Lib.hid fun X u hu => by
    rw [List.length_append, HDI.out]
    simpa [intCells] using hu
  have hq4 : q ≤ 4096 := by omega
  clear hd0 hok hm hno hr hnn hz hc1 hc2 hd1 hd2 ho hov h hdl hy hndl hq hgd hg HV hln
  unfold ndBox
  go_enter Tryz.func55, Tryz.ntmps55
  go_wp2_with fail
  go_loopw [8, 9, 10] (fun a8 a9 a10 wr => ∃ (i : Nat) (up root : Int), a8 = .int .i64 up ∧ a9 = .int .i64 root ∧ a10 = .int .i64 i ∧ i ≤ q ∧ Hid (Went st n.id d i up root) ∧ Hid (Below (w.alloc (.cells #[.int .i64 n.id, .string n.con, .int .i64 n.par, .string n.role, .slice none 0 0, .slice none 0 0, .slice none 0 0] 55)).heap.size (w.alloc (.cells #[.int .i64 n.id, .string n.con, .int .i64 n.par, .string n.role, .slice none 0 0, .slice none 0 0, .slice none 0 0] 55)) wr)) (fun _ _ a10 _ => q - (intOf a10).toNat)
  case atStart => exact ⟨0, -1, 0, rfl, rfl, rfl, Nat.zero_le _, Lib.hid (Went.start st n.id d), Lib.hid (Below.refl _ _)⟩
  case round =>
    obtain ⟨i, up, root, rfl, rfl, rfl, hi, HW, HB⟩ := hrel
    clear c1 c2 c3
    by_cases hlt : i < q
    · have ei : (i : Int) ≤ ((q - 1 : Nat) : Int) := by omega
      obtain ⟨nd, hnd⟩ : ∃ nd, st.nds[i]? = some nd := ⟨_, List.getElem?_eq_getElem (by rw [HQ.out]; exact hlt)⟩
      obtain ⟨x, hx⟩ : ∃ x, st.deep[i]? = some x := ⟨_, List.getElem?_eq_getElem (by rw [HDL.out, HQ.out]; exact hlt)⟩
      obtain ⟨c1, c2, cb, hall⟩ := HCl.out _ HB.out
      obtain ⟨cn, cx⟩ := hall i x nd hnd hx
      have HND := Lib.hid hnd
      have HX := Lib.hid hx
      clear hall hnd hx
      cases hid2 : (nd.id == n.id) with
      | true =>
        exfalso
        have h1 := ids_get HND.out
        rw [beq_iff_eq] at hid2
        exact HNS.out.1 (List.mem_of_getElem? (by rw [← hid2]; exact h1))
      | false =>
        have hne : nd.id ≠ n.id := by rw [beq_eq_false_iff_ne] at hid2; exact hid2
        have HS := Lib.hid (HW.out.next HDL.out HND.out HX.out hne)
        have HB2 : Hid (∀ m, Below (w.alloc (.cells #[.int .i64 n.id, .string n.con, .int .i64 n.par, .string n.role, .slice none 0 0, .slice none 0 0, .slice none 0 0] 55)).heap.size (w.alloc (.cells #[.int .i64 n.id, .string n.con, .int .i64 n.par, .string n.role, .slice none 0 0, .slice none 0 0, .slice none 0 0] 55)) (wr.drewN m)) := Lib.hid fun m => HB.out.trans ((below_drewN (Below.refl _ wr) m).mono HB.out.size)
        clear hne
        by_cases hxd : x = d
        · have e7 : ((x : Int) == (d : Int)) = true := by rw [beq_iff_eq]; omega
          rw [if_pos hxd] at HS
          by_cases hx1 : x = 1
          · have e8 : ((x : Int) == 1) = true := by rw [beq_iff_eq]; omega
            rw [if_pos hx1] at HS
            clear hxd hx1
            go_upto_region 8 with fail
            go_quiet (fail)
            go_wp2_with fail
            go_round
            case rel => exact ⟨i + 1, _, _, rfl, rfl, by go_num, by omega, HS, Lib.hid (HB2.out _)⟩
            case measure => first | (simp [intOf]; omega) | simp [intOf]
          · have e8 : ((x : Int) == 1) = false := by rw [beq_eq_false_iff_ne]; omega
            rw [if_neg hx1] at HS
            clear hxd hx1
            go_upto_region 8 with fail
            go_quiet (fail)
            go_wp2_with fail
            go_round
            case rel => exact ⟨i + 1, _, _, rfl, rfl, by go_num, by omega, HS, Lib.hid (HB2.out _)⟩
            case measure => first | (simp [intOf]; omega) | simp [intOf]
        · have e7 : ((x : Int) == (d : Int)) = false := by rw [beq_eq_false_iff_ne]; omega
          rw [if_neg hxd] at HS
          by_cases hx1 : x = 1
          · have e8 : ((x : Int) == 1) = true := by rw [beq_iff_eq]; omega
            rw [if_pos hx1] at HS
            clear hxd hx1
            go_upto_region 8 with fail
            go_quiet (fail)
            go_wp2_with fail
            go_round
            case rel => exact ⟨i + 1, _, _, rfl, rfl, by go_num, by omega, HS, Lib.hid (HB2.out _)⟩
            case measure => first | (simp [intOf]; omega) | simp [intOf]
          · have e8 : ((x : Int) == 1) = false := by rw [beq_eq_false_iff_ne]; omega
            rw [if_neg hx1] at HS
            clear hxd hx1
            go_upto_region 8 with fail
            go_quiet (fail)
            go_wp2_with fail
            go_round
            case rel => exact ⟨i + 1, _, _, rfl, rfl, by go_num, by omega, HS, Lib.hid (HB2.out _)⟩
            case measure => first | (simp [intOf]; omega) | simp [intOf]
    · have hiq : q = i := by omega
      subst hiq
      have ei : ¬ (q : Int) ≤ ((q - 1 : Nat) : Int) := by omega
      have hend := (show Went st n.id d st.nds.length up root from by rw [HQ.out]; exact HW.out).done HDL.out
      obtain ⟨hup, hroot, hnin⟩ := hend
      have ed : ((d : Int) == 0) = true := by rw [beq_iff_eq]; omega
      have er : ¬ n.id ≤ root := by have h5 := HNS.out.2; rw [hroot]; omega
      obtain ⟨c1, c2, cb, _⟩ := HCl.out _ HB.out
      have HM := Lib.hid (HMB.out _ HB.out)
      clear hup hroot hnin HW HCl HB HMB
      go_upto_region 19 with fail
      clear c1 c2 cb er
      have HM9 := Lib.hid (HM.out.after (drewS_below _))
      refine wp_region_held_tail 8 (fun Y => Y.cell? ⟨gu, 1, none⟩ = some (.slice (some ⟨g, 0, none⟩) q cp) ∧ Y.cell? ⟨w.heap.size, 0, none⟩ = some (.int .i64 n.id) ∧ Y.cell? ⟨w.heap.size, 1, none⟩ = some (.string n.con) ∧ Y.cell? ⟨w.heap.size, 2, none⟩ = some (.int .i64 n.par) ∧ Y.cell? ⟨w.heap.size, 3, none⟩ = some (.string n.role) ∧ Y.cell? ⟨w.heap.size, 4, none⟩ = some (.slice none 0 0) ∧ Y.cell? ⟨w.heap.size, 5, none⟩ = some (.slice none 0 0) ∧ Y.cell? ⟨w.heap.size, 6, none⟩ = some (.slice none 0 0)) (by kernel_rfl) (by kernel_rfl) ?hS9 (fun hHeld => ?q9)
      case hS9 => exact ⟨(HM9.out.bx.cell 1).trans rfl, nd_cells HM9.out.bn⟩
      case q9 =>
        simp only [List.take_succ_cons, List.take_zero, List.drop_succ_cons, List.drop_zero]
        refine wpAnyH_take (i := 0) (v := (.pointer (some ⟨gu, 0, none⟩))) rfl (by kernel_rfl) (by kernel_rfl) (by kernel_rfl) (fun _ _ _ h => h) (Or.inl ⟨by rfl, ?yu_1⟩) (by assumption) ?qu_1
        case yu_1 => (intro w hSw; (try dsimp only at hSw); go_simp)
        case qu_1 =>
          (try simp only [Act.put]); (try simp only [List.setIfInBounds_toArray])
          refine wpAnyH_take (i := 1) (v := (.pointer (some ⟨gu, 0, none⟩))) rfl (by kernel_rfl) (by kernel_rfl) (by kernel_rfl) (fun _ _ _ h => h) (Or.inl ⟨by rfl, ?yu_2⟩) (by assumption) ?qu_2
          case yu_2 => (intro w hSw; (try dsimp only at hSw); go_simp)
          case qu_2 =>
            (try simp only [Act.put]); (try simp only [List.setIfInBounds_toArray])
            refine wpAnyH_take (i := 2) (v := (.pointer (some ⟨gu, 0, none⟩))) rfl (by kernel_rfl) (by kernel_rfl) (by kernel_rfl) (fun _ _ _ h => h) (Or.inl ⟨by rfl, ?yu_3⟩) (by assumption) ?qu_3
            case yu_3 => (intro w hSw; (try dsimp only at hSw); go_simp)
            case qu_3 =>
              (try simp only [Act.put]); (try simp only [List.setIfInBounds_toArray])
              refine wpAnyH_take (i := 3) (v := (.pointer (some ⟨gu, 1, none⟩))) rfl (by kernel_rfl) (by kernel_rfl) (by kernel_rfl) (fun _ _ _ h => h) (Or.inl ⟨by rfl, ?yu_4⟩) (by assumption) ?qu_4
              case yu_4 => (intro w hSw; (try dsimp only at hSw); go_simp)
              case qu_4 =>
                (try simp only [Act.put]); (try simp only [List.setIfInBounds_toArray])
                refine wpAnyH_take (i := 4) (v := (.slice (some ⟨g, 0, none⟩) q cp)) rfl (by kernel_rfl) (by kernel_rfl) (by kernel_rfl) (fun _ _ _ h => h) (Or.inl ⟨by rfl, ?yu_5⟩) (by assumption) ?qu_5
                case yu_5 => (intro w hSw; (try dsimp only at hSw); go_simp)
                case qu_5 =>
                  (try simp only [Act.put]); (try simp only [List.setIfInBounds_toArray])
                  refine wpAnyH_take (i := 5) (v := (.agg #[.int .i64 n.id, .string n.con, .int .i64 n.par, .string n.role, .slice none 0 0, .slice none 0 0, .slice none 0 0])) rfl (by kernel_rfl) (by kernel_rfl) (by kernel_rfl) (fun _ _ _ h => h) (Or.inl ⟨by rfl, ?yu_6⟩) (by assumption) ?qu_6
                  case yu_6 => (intro w hSw; (try dsimp only at hSw); go_simp)
                  case qu_6 =>
                    (try simp only [Act.put]); (try simp only [List.setIfInBounds_toArray])
                    refine wpAnyH_ready (rs := [6]) (by kernel_rfl) (by simp) ?_
                    refine AllReadyH.cons rfl (fun K hK => ?su_7) ?mu_7
                    case su_7 =>
                      (refine step_mkS _ (by rfl) 55 #[.int .i64 n.id, .string n.con, .int .i64 n.par, .string n.role, .slice none 0 0, .slice none 0 0, .slice none 0 0] (by go_simp) ?_; intro gp Yp hxp hbp hsp; have HRp : Hid (Row Yp gp (gp + 1) 7 (some ⟨gp, 0, none⟩) 1 1 [.int .i64 n.id, .string n.con, .int .i64 n.par, .string n.role, .slice none 0 0, .slice none 0 0, .slice none 0 0]) := Lib.hid (row_blk hxp rfl (Nat.le_refl _) (by unfold maxLen; omega)); have HM9 := Lib.hid (HM9.out.after hbp); clear hxp hbp hsp)
                      refine hK.out _ _ ?ku_7 (fun hHeld => ?qu_7)
                      case ku_7 => ((try dsimp only); first | exact ⟨(HBX.out.cell 1).trans rfl, nd_cells HNX.out⟩ | exact ⟨(HM9.out.bx.cell 1).trans rfl, nd_cells HM9.out.bn⟩)
                      case qu_7 =>
                        clear hK K
                        (try simp only [Act.put]); (try simp only [List.setIfInBounds_toArray])
                        refine wpAnyH_ready (rs := [7]) (by kernel_rfl) (by simp) ?_
                        refine AllReadyH.cons rfl (fun K hK => ?su_8) ?mu_8
                        case su_8 =>
                          ((refine step_appS (o := ⟨some 133, _, _, _, _, _⟩) _ (by rfl) (.tmp 130) (.tmp 132) _ (by rfl) B 55 i2 _ 7 120 Tryz.underlying23 hi2 hz2 hs2 hb2 rfl (by omega) (.slice (some ⟨g, 0, none⟩) q cp) q (allCells l) (by go_simp) (HON.out _ HM9.out.np) gp (gp + 1) (some ⟨gp, 0, none⟩) 1 1 [.int .i64 n.id, .string n.con, .int .i64 n.par, .string n.role, .slice none 0 0, .slice none 0 0, .slice none 0 0] (by go_simp) HRp.out (by simp [Value.oneCell']) (by unfold maxLen; omega) (by omega) HM9.out.np.hB ?_); intro Az cz Yz hownZ hgrZ hnewZ; have HME := Lib.hid (HM9.out.node HNN.out.1 HNN.out.2.1 HNN.out.2.2 HSZ.out (v' := .slice Az (q + 1) cz) (HOM.out _ _ hownZ) hgrZ); have HBX := Lib.hid (HM9.out.bx.grown hgrZ (Ne.symm (own_blk_ne HM9.out.np.own HM9.out.bx (by decide)))); have HNX := Lib.hid (HM9.out.bn.grown hgrZ (Ne.symm HM9.out.gv)); clear hownZ hgrZ hnewZ)
                          refine hK.out _ _ ?ku_8 (fun hHeld => ?qu_8)
                          case ku_8 => ((try dsimp only); first | exact ⟨(HBX.out.cell 1).trans rfl, nd_cells HNX.out⟩ | exact ⟨(HM9.out.bx.cell 1).trans rfl, nd_cells HM9.out.bn⟩)
                          case qu_8 =>
                            clear hK K
                            (try simp only [Act.put]); (try simp only [List.setIfInBounds_toArray])
                            refine wpAnyH_done (by kernel_rfl) ?_ _
                            clear hHeld
                            show wpList _ _ _ _ _ _
                            have s1 : Yz.cell? ⟨gu, 1, none⟩ = some (.slice (some ⟨g, 0, none⟩) q cp) := (HBX.out.cell 1).trans rfl
                            have s2 := HBX.out.frozen 1
                            go_upto_region 20 with fail
                            clear s1 s2 HBX HNX
                            generalize Yz.setCell ⟨gu, 1, none⟩ (.slice Az (q + 1) cz) = W9 at HME ⊢
                            have x2 : W9.cell? ⟨gu, 2, none⟩ = some (.slice (some ⟨gd, 0, none⟩) q cd) := (HME.out.bx.cell 2).trans rfl
                            have HMD := Lib.hid (HME.out.after (W' := (W9.alloc (.cells #[.int .i64 ((d : Int) + 1)] 3))) (Nat.le_trans hB0 (Nat.le_of_lt HME.out.bx.lt)) ((Below.refl _ _).alloc (Nat.le_refl _) _))
                            have HRq : Hid (Row (W9.alloc (.cells #[.int .i64 ((d : Int) + 1)] 3)) W9.heap.size (W9.heap.size + 1) 1 (some ⟨W9.heap.size, 0, none⟩) 1 1 [.int .i64 ((d : Int) + 1)]) := Lib.hid (row_blk (Blk.new _ _ _) rfl (Nat.le_refl _) (by unfold maxLen; omega))
                            go_wp2_with (at_builtin; with_reducible show wpList _ _ _ (⟨some 144, _, _, _, _, _⟩ :: _) _ _; go_must (refine wpList_appS (o := ⟨some 144, _, _, _, _, _⟩) _ rfl (.tmp 140) (.tmp 143) _ rfl B 3 i1 _ 1 8 Tryz.underlying40 hi1 hz1 hs1 hb1 rfl (by omega) (.slice (some ⟨gd, 0, none⟩) q cd) q (intCells (deepI st.deep)) (by go_simp) (HOD.out _ HMD.out.np) W9.heap.size (W9.heap.size + 1) (some ⟨W9.heap.size, 0, none⟩) 1 1 [.int .i64 ((d : Int) + 1)] (by go_simp) HRq.out (by simp [Value.oneCell']) (by unfold maxLen; omega) (by omega) HMD.out.np.hB ?_); go_must (intro Aq cq w2 hownN hgrN hnewN; have HEE := Lib.hid (HMD.out.deepA (vd' := .slice Aq (q + 1) cq) (ws' := deepI st.deep ++ [(d : Int) + 1]) hB0 hlu (HWO.out _ _ hownN) hgrN hnewN); have HBY := Lib.hid (HMD.out.bx.grown hgrN (Ne.symm (own_blk_ne HMD.out.np.way HMD.out.bx (by decide)))); have y2 : w2.cell? ⟨gu, 2, none⟩ = some (.slice (some ⟨gd, 0, none⟩) q cd) := (HBY.out.cell 2).trans rfl; have f2 := HBY.out.frozen 2; clear hownN hgrN hnewN))
                            go_ret
                            exact HFIN.out _ _ _ HEE.out
                        case mu_8 =>
                          exact AllReadyH.nil
                    case mu_7 =>
                      exact AllReadyH.nil
set_option maxRecDepth 20000 in
set_option maxHeartbeats 12800000 in
theorem standsD_yesN (w : World) (B0 B gu c k : Nat) (v vd : Value) (l : List (Nd × Leaf)) (st : RS) (h : UIn B gu c k v vd l st w) (h0 : st.next ≠ 0) (hB0 : B0 ≤ gu) (n : Nd) (d : Nat) (hd : d ≤ 1048576) (hid : 1 ≤ n.id ∧ n.id < st.next)
    (hnn : n.par = 0 ∧ n.props = [] ∧ n.kids = [] ∧ n.refs = []) (hz : SzN n) (hno : ¬ noStand st n.id d) (hd0 : d = 0) (hn0 : st.nds.length = 0) (hk : k + 1 ≤ 4194304) :
    Calls Tryz.prog 55 #[.pointer (some ⟨gu, 0, none⟩), .agg (ndBox n), .int .i64 d] w (LineU B0 B gu c (k + 1) (standsV st n d) w) := by
  have hok := h.ok h0
  have hdl := hok.dl
  have HV : Hid (standsV st n d = some (stoodV st n d)) := Lib.hid (by rw [standsV_is hok.dl hok.dk, if_neg hno])
  have hm := h.mid hB0 n
  have HMB : Hid (∀ Y, Below (w.alloc (.cells #[.int .i64 n.id, .string n.con, .int .i64 n.par, .string n.role, .slice none 0 0, .slice none 0 0, .slice none 0 0] 55)).heap.size (w.alloc (.cells #[.int .i64 n.id, .string n.con, .int .i64 n.par, .string n.role, .slice none 0 0, .slice none 0 0, .slice none 0 0] 55)) Y → UMid B0 B gu c w.heap.size st.next v vd l (deepI st.deep) (ndBox n) w Y) := Lib.hid fun Y hY => hm.after hY
  have HFIN : Hid (∀ (vz vq : Value) (W : World), UEnd B0 B gu c st.next vz vq (l ++ [(n, ⟨⟨none, 0, 0⟩, ⟨none, 0, 0⟩, ⟨none, 0, 0⟩⟩)]) (deepI st.deep ++ [(d : Int) + 1]) w W → LineU B0 B gu c (k + 1) (standsV st n d) w (.returned (.bool true)) W) := Lib.hid fun vz vq W hE => by
    subst hd0
    exact lineU_yes HV.out hE.bel (h.stood0 h0 hnn.2 hid hno hk hE)
  have HNS : Hid (n.id ∉ idsOf st ∧ ¬ n.id ≤ rootV st) := Lib.hid ⟨fun h1 => hno (by unfold noStand; exact .inr (.inr (.inr (.inl h1)))), fun h1 => hno (by unfold noStand; exact .inr (.inr (.inr (.inr ⟨hd0, h1⟩))))⟩
  have hr : ¬ (4096 ≤ st.nds.length ∨ 64 ≤ d ∨ st.deep.getLastD 0 < d) := fun h1 => hno (by
    unfold noStand
    rcases h1 with h1 | h1 | h1
    · exact .inl h1
    · exact .inr (.inl h1)
    · exact .inr (.inr (.inl h1)))
  have HNN := Lib.hid hnn.2
  have HSZ := Lib.hid hz
  have hlu := h.lu
  have HLN : Hid (l.length = st.nds.length) := Lib.hid h.len
  obtain ⟨i1, hi1, hz1, hs1, hb1⟩ := info_parts intInfo
  obtain ⟨i2, hi2, hz2, hs2, hb2⟩ := info_parts nodeInfo
  have hln := hok.ln
  have hdl := hok.dl
  have hr2 : ¬ 64 ≤ d := by omega
  obtain ⟨A, cp, rfl, hc1, hc2⟩ := h.v_form
  obtain ⟨Ad, cd, rfl, hd1, hd2⟩ := h.d_form
  have HCl : Hid (∀ Y, Below (w.alloc (.cells #[.int .i64 n.id, .string n.con, .int .i64 n.par, .string n.role, .slice none 0 0, .slice none 0 0, .slice none 0 0] 55)).heap.size (w.alloc (.cells #[.int .i64 n.id, .string n.con, .int .i64 n.par, .string n.role, .slice none 0 0, .slice none 0 0, .slice none 0 0] 55)) Y → Y.cell? ⟨gu, 1, none⟩ = some (.slice A st.nds.length cp) ∧ Y.cell? ⟨gu, 2, none⟩ = some (.slice Ad st.deep.length cd) ∧ Y.cell? ⟨w.heap.size, 0, none⟩ = some (.int .i64 n.id)) := Lib.hid fun Y hY => by
    have hm2 := hm.after hY
    exact ⟨(hm2.bx.cell 1).trans rfl, (hm2.bx.cell 2).trans rfl, (hm2.bn.cell 0).trans rfl⟩
  have e4 : ((st.nds.length : Int) == 4096) = false := by rw [beq_eq_false_iff_ne]; omega
  have e64 : ¬ (64 : Int) ≤ (d : Int) := by omega
  have e0 : ¬ (0 : Int) < (d : Int) := by omega
  have c1 : (w.alloc (.cells #[.int .i64 n.id, .string n.con, .int .i64 n.par, .string n.role, .slice none 0 0, .slice none 0 0, .slice none 0 0] 55)).cell? ⟨gu, 1, none⟩ = some (.slice A st.nds.length cp) := (HCl.out _ (Below.refl _ _)).1
  have c2 : (w.alloc (.cells #[.int .i64 n.id, .string n.con, .int .i64 n.par, .string n.role, .slice none 0 0, .slice none 0 0, .slice none 0 0] 55)).cell? ⟨gu, 2, none⟩ = some (.slice Ad st.deep.length cd) := (HCl.out _ (Below.refl _ _)).2.1
  have hwn : IntKind.i64.wrap ((st.nds.length : Int) - 1) = -1 := by rw [IntWalk.i64_in _ (by omega)]; omega
  have HDL := Lib.hid hdl
  obtain ⟨q, hq⟩ : ∃ q, st.nds.length = q := ⟨_, rfl⟩
  have HQ := Lib.hid hq
  rw [hdl] at c2 HCl HMB
  rw [hq] at c1 c2 HCl e4 hwn hn0 HMB HLN
  have HON : Hid (∀ (X : World) {vd : Value} {ws : List Int}, NP B (.slice A q cp) vd l ws X → X.ownsRow B 55 7 (.slice A q cp) q (allCells l)) := Lib.hid fun X vd ws hX => by have := hX.own; unfold OwnN at this; rw [HLN.out] at this; exact this
  have HOM : Hid (∀ (X : World) (u : Value), X.ownsRow B 55 7 u (q + 1) (allCells l ++ [.int .i64 n.id, .string n.con, .int .i64 n.par, .string n.role, .slice none 0 0, .slice none 0 0, .slice none 0 0]) → OwnN X B u (l ++ [(n, ⟨⟨none, 0, 0⟩, ⟨none, 0, 0⟩, ⟨none, 0, 0⟩⟩)])) := Lib.hid fun X u hu => by unfold OwnN; rw [allCells_snocS, List.length_append, HLN.out]; exact hu
  have HDI : Hid ((deepI st.deep).length = q) := Lib.hid (by unfold deepI; rw [List.length_map, HDL.out]; exact hq)
  have HOD : Hid (∀ (X : World) {v : Value} {l : List (Nd × Leaf)}, NP B v (.slice Ad q cd) l (deepI st.deep) X → X.ownsRow B 3 1 (.slice Ad q cd) q (intCells (deepI st.deep))) := Lib.hid fun X v l hX => by have := hX.way; rwa [HDI.out] at this
  have HWO : Hid (∀ (X : World) (u : Value), X.ownsRow B 3 1 u (q + 1) (intCells (deepI st.deep) ++ [.int .i64 ((d : Int) + 1)]) → X.ownsRow B 3 1 u (deepI st.deep ++ [(d : Int) + 1]).length (intCells (deepI st.deep ++ [(d : Int) + 1]))) := Lib.hid fun X u hu => by
    rw [List.length_append, HDI.out]
    simpa [intCells] using hu
  have hq4 : q ≤ 4096 := by omega
  have HQ0 := Lib.hid hn0
  clear hd0 hok hm hno hr hnn hz hc1 hc2 hd1 hd2 h hdl hq HV hln hn0 hr2
  unfold ndBox
  go_enter Tryz.func55, Tryz.ntmps55
  go_wp2_with fail
  go_loopw [8, 9, 10] (fun a8 a9 a10 wr => a8 = .int .i64 (-1) ∧ a9 = .int .i64 0 ∧ a10 = .int .i64 0 ∧ Hid (Below (w.alloc (.cells #[.int .i64 n.id, .string n.con, .int .i64 n.par, .string n.role, .slice none 0 0, .slice none 0 0, .slice none 0 0] 55)).heap.size (w.alloc (.cells #[.int .i64 n.id, .string n.con, .int .i64 n.par, .string n.role, .slice none 0 0, .slice none 0 0, .slice none 0 0] 55)) wr)) (fun _ _ _ _ => 0)
  case atStart => exact ⟨rfl, rfl, rfl, Lib.hid (Below.refl _ _)⟩
  case round =>
    obtain ⟨rfl, rfl, rfl, HB⟩ := hrel
    clear c1 c2
    have ed : ((d : Int) == 0) = true := by rw [beq_iff_eq]; omega
    have er : ¬ n.id ≤ 0 := by omega
    obtain ⟨c1, c2, cb⟩ := HCl.out _ HB.out
    have HM := Lib.hid (HMB.out _ HB.out)
    clear HCl HB HMB
    go_upto_region 19 with fail
    clear c1 c2 cb er
    have HM9 := Lib.hid (HM.out.after (drewS_below _))
    refine wp_region_held_tail 8 (fun Y => Y.cell? ⟨gu, 1, none⟩ = some (.slice A q cp) ∧ Y.cell? ⟨w.heap.size, 0, none⟩ = some (.int .i64 n.id) ∧ Y.cell? ⟨w.heap.size, 1, none⟩ = some (.string n.con) ∧ Y.cell? ⟨w.heap.size, 2, none⟩ = some (.int .i64 n.par) ∧ Y.cell? ⟨w.heap.size, 3, none⟩ = some (.string n.role) ∧ Y.cell? ⟨w.heap.size, 4, none⟩ = some (.slice none 0 0) ∧ Y.cell? ⟨w.heap.size, 5, none⟩ = some (.slice none 0 0) ∧ Y.cell? ⟨w.heap.size, 6, none⟩ = some (.slice none 0 0)) (by kernel_rfl) (by kernel_rfl) ?hS9 (fun hHeld => ?q9)
    case hS9 => exact ⟨(HM9.out.bx.cell 1).trans rfl, nd_cells HM9.out.bn⟩
    case q9 =>
      simp only [List.take_succ_cons, List.take_zero, List.drop_succ_cons, List.drop_zero]
      refine wpAnyH_take (i := 0) (v := (.pointer (some ⟨gu, 0, none⟩))) rfl (by kernel_rfl) (by kernel_rfl) (by kernel_rfl) (fun _ _ _ h => h) (Or.inl ⟨by rfl, ?yu_1⟩) (by assumption) ?qu_1
      case yu_1 => (intro w hSw; (try dsimp only at hSw); go_simp)
      case qu_1 =>
        (try simp only [Act.put]); (try simp only [List.setIfInBounds_toArray])
        refine wpAnyH_take (i := 1) (v := (.pointer (some ⟨gu, 0, none⟩))) rfl (by kernel_rfl) (by kernel_rfl) (by kernel_rfl) (fun _ _ _ h => h) (Or.inl ⟨by rfl, ?yu_2⟩) (by assumption) ?qu_2
        case yu_2 => (intro w hSw; (try dsimp only at hSw); go_simp)
        case qu_2 =>
          (try simp only [Act.put]); (try simp only [List.setIfInBounds_toArray])
          refine wpAnyH_take (i := 2) (v := (.pointer (some ⟨gu, 0, none⟩))) rfl (by kernel_rfl) (by kernel_rfl) (by kernel_rfl) (fun _ _ _ h => h) (Or.inl ⟨by rfl, ?yu_3⟩) (by assumption) ?qu_3
          case yu_3 => (intro w hSw; (try dsimp only at hSw); go_simp)
          case qu_3 =>
            (try simp only [Act.put]); (try simp only [List.setIfInBounds_toArray])
            refine wpAnyH_take (i := 3) (v := (.pointer (some ⟨gu, 1, none⟩))) rfl (by kernel_rfl) (by kernel_rfl) (by kernel_rfl) (fun _ _ _ h => h) (Or.inl ⟨by rfl, ?yu_4⟩) (by assumption) ?qu_4
            case yu_4 => (intro w hSw; (try dsimp only at hSw); go_simp)
            case qu_4 =>
              (try simp only [Act.put]); (try simp only [List.setIfInBounds_toArray])
              refine wpAnyH_take (i := 4) (v := (.slice A q cp)) rfl (by kernel_rfl) (by kernel_rfl) (by kernel_rfl) (fun _ _ _ h => h) (Or.inl ⟨by rfl, ?yu_5⟩) (by assumption) ?qu_5
              case yu_5 => (intro w hSw; (try dsimp only at hSw); go_simp)
              case qu_5 =>
                (try simp only [Act.put]); (try simp only [List.setIfInBounds_toArray])
                refine wpAnyH_take (i := 5) (v := (.agg #[.int .i64 n.id, .string n.con, .int .i64 n.par, .string n.role, .slice none 0 0, .slice none 0 0, .slice none 0 0])) rfl (by kernel_rfl) (by kernel_rfl) (by kernel_rfl) (fun _ _ _ h => h) (Or.inl ⟨by rfl, ?yu_6⟩) (by assumption) ?qu_6
                case yu_6 => (intro w hSw; (try dsimp only at hSw); go_simp)
                case qu_6 =>
                  (try simp only [Act.put]); (try simp only [List.setIfInBounds_toArray])
                  refine wpAnyH_ready (rs := [6]) (by kernel_rfl) (by simp) ?_
                  refine AllReadyH.cons rfl (fun K hK => ?su_7) ?mu_7
                  case su_7 =>
                    (refine step_mkS _ (by rfl) 55 #[.int .i64 n.id, .string n.con, .int .i64 n.par, .string n.role, .slice none 0 0, .slice none 0 0, .slice none 0 0] (by go_simp) ?_; intro gp Yp hxp hbp hsp; have HRp : Hid (Row Yp gp (gp + 1) 7 (some ⟨gp, 0, none⟩) 1 1 [.int .i64 n.id, .string n.con, .int .i64 n.par, .string n.role, .slice none 0 0, .slice none 0 0, .slice none 0 0]) := Lib.hid (row_blk hxp rfl (Nat.le_refl _) (by unfold maxLen; omega)); have HM9 := Lib.hid (HM9.out.after hbp); clear hxp hbp hsp)
                    refine hK.out _ _ ?ku_7 (fun hHeld => ?qu_7)
                    case ku_7 => ((try dsimp only); first | exact ⟨(HBX.out.cell 1).trans rfl, nd_cells HNX.out⟩ | exact ⟨(HM9.out.bx.cell 1).trans rfl, nd_cells HM9.out.bn⟩)
                    case qu_7 =>
                      clear hK K
                      (try simp only [Act.put]); (try simp only [List.setIfInBounds_toArray])
                      refine wpAnyH_ready (rs := [7]) (by kernel_rfl) (by simp) ?_
                      refine AllReadyH.cons rfl (fun K hK => ?su_8) ?mu_8
                      case su_8 =>
                        ((refine step_appS (o := ⟨some 133, _, _, _, _, _⟩) _ (by rfl) (.tmp 130) (.tmp 132) _ (by rfl) B 55 i2 _ 7 120 Tryz.underlying23 hi2 hz2 hs2 hb2 rfl (by omega) (.slice A q cp) q (allCells l) (by go_simp) (HON.out _ HM9.out.np) gp (gp + 1) (some ⟨gp, 0, none⟩) 1 1 [.int .i64 n.id, .string n.con, .int .i64 n.par, .string n.role, .slice none 0 0, .slice none 0 0, .slice none 0 0] (by go_simp) HRp.out (by simp [Value.oneCell']) (by unfold maxLen; omega) (by omega) HM9.out.np.hB ?_); intro Az cz Yz hownZ hgrZ hnewZ; have HME := Lib.hid (HM9.out.node HNN.out.1 HNN.out.2.1 HNN.out.2.2 HSZ.out (v' := .slice Az (q + 1) cz) (HOM.out _ _ hownZ) hgrZ); have HBX := Lib.hid (HM9.out.bx.grown hgrZ (Ne.symm (own_blk_ne HM9.out.np.own HM9.out.bx (by decide)))); have HNX := Lib.hid (HM9.out.bn.grown hgrZ (Ne.symm HM9.out.gv)); clear hownZ hgrZ hnewZ)
                        refine hK.out _ _ ?ku_8 (fun hHeld => ?qu_8)
                        case ku_8 => ((try dsimp only); first | exact ⟨(HBX.out.cell 1).trans rfl, nd_cells HNX.out⟩ | exact ⟨(HM9.out.bx.cell 1).trans rfl, nd_cells HM9.out.bn⟩)
                        case qu_8 =>
                          clear hK K
                          (try simp only [Act.put]); (try simp only [List.setIfInBounds_toArray])
                          refine wpAnyH_done (by kernel_rfl) ?_ _
                          clear hHeld
                          show wpList _ _ _ _ _ _
                          have s1 : Yz.cell? ⟨gu, 1, none⟩ = some (.slice A q cp) := (HBX.out.cell 1).trans rfl
                          have s2 := HBX.out.frozen 1
                          go_upto_region 20 with fail
                          clear s1 s2 HBX HNX
                          generalize Yz.setCell ⟨gu, 1, none⟩ (.slice Az (q + 1) cz) = W9 at HME ⊢
                          have x2 : W9.cell? ⟨gu, 2, none⟩ = some (.slice Ad q cd) := (HME.out.bx.cell 2).trans rfl
                          have HMD := Lib.hid (HME.out.after (W' := (W9.alloc (.cells #[.int .i64 ((d : Int) + 1)] 3))) (Nat.le_trans hB0 (Nat.le_of_lt HME.out.bx.lt)) ((Below.refl _ _).alloc (Nat.le_refl _) _))
                          have HRq : Hid (Row (W9.alloc (.cells #[.int .i64 ((d : Int) + 1)] 3)) W9.heap.size (W9.heap.size + 1) 1 (some ⟨W9.heap.size, 0, none⟩) 1 1 [.int .i64 ((d : Int) + 1)]) := Lib.hid (row_blk (Blk.new _ _ _) rfl (Nat.le_refl _) (by unfold maxLen; omega))
                          go_wp2_with (at_builtin; with_reducible show wpList _ _ _ (⟨some 144, _, _, _, _, _⟩ :: _) _ _; go_must (refine wpList_appS (o := ⟨some 144, _, _, _, _, _⟩) _ rfl (.tmp 140) (.tmp 143) _ rfl B 3 i1 _ 1 8 Tryz.underlying40 hi1 hz1 hs1 hb1 rfl (by omega) (.slice Ad q cd) q (intCells (deepI st.deep)) (by go_simp) (HOD.out _ HMD.out.np) W9.heap.size (W9.heap.size + 1) (some ⟨W9.heap.size, 0, none⟩) 1 1 [.int .i64 ((d : Int) + 1)] (by go_simp) HRq.out (by simp [Value.oneCell']) (by unfold maxLen; omega) (by omega) HMD.out.np.hB ?_); go_must (intro Aq cq w2 hownN hgrN hnewN; have HEE := Lib.hid (HMD.out.deepA (vd' := .slice Aq (q + 1) cq) (ws' := deepI st.deep ++ [(d : Int) + 1]) hB0 hlu (HWO.out _ _ hownN) hgrN hnewN); have HBY := Lib.hid (HMD.out.bx.grown hgrN (Ne.symm (own_blk_ne HMD.out.np.way HMD.out.bx (by decide)))); have y2 : w2.cell? ⟨gu, 2, none⟩ = some (.slice Ad q cd) := (HBY.out.cell 2).trans rfl; have f2 := HBY.out.frozen 2; clear hownN hgrN hnewN))
                          go_ret
                          exact HFIN.out _ _ _ HEE.out
                      case mu_8 =>
                        exact AllReadyH.nil
                  case mu_7 =>
                    exact AllReadyH.nil
end Go.Proofs.YtjjlofaejpnnnaaGreatDoor

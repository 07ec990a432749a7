/-
  WALKS over the document's sheet: stands: a node is taken below another.
-/
import Derived.Test.YtjjlofaejpnnnaaGreatDoorZR19
namespace Go.Proofs.YtjjlofaejpnnnaaGreatDoor
open Go Go.RowKit Go.Sort
set_option linter.unusedVariables false
set_option maxRecDepth 20000 in
set_option maxHeartbeats 12800000 in
theorem standsD_yesP (w : World) (B0 B gu c k : Nat) (v vd : Value) (l : List (Nd × Leaf)) (st : RS) (h : UIn B gu c k v vd l st w) (h0 : st.next ≠ 0) (hB0 : B0 ≤ gu) (n : Nd) (d : Nat) (hd : d ≤ 1048576) (hid : 1 ≤ n.id ∧ n.id < st.next)
    (hnn : n.par = 0 ∧ n.props = [] ∧ n.kids = [] ∧ n.refs = []) (hz : SzN n) (hno : ¬ noStand st n.id d) (hd0 : 0 < d) (hn0 : 0 < st.nds.length) (hk : k + 1 ≤ 4194304) :
    Calls Tryz.prog 55 #[.pointer (some ⟨gu, 0, none⟩), .agg (ndBox n), .int .i64 d] w (LineU B0 B gu c (k + 1) (standsV st n d) w) := by
  have hok := h.ok h0
  have hdl := hok.dl
  have HV : Hid (standsV st n d = some (stoodV st n d)) := Lib.hid (by rw [standsV_is hok.dl hok.dk, if_neg hno])
  have hm := h.mid hB0 n
  have HMB : Hid (∀ Y, Below (w.alloc (.cells #[.int .i64 n.id, .string n.con, .int .i64 n.par, .string n.role, .slice none 0 0, .slice none 0 0, .slice none 0 0] 55)).heap.size (w.alloc (.cells #[.int .i64 n.id, .string n.con, .int .i64 n.par, .string n.role, .slice none 0 0, .slice none 0 0, .slice none 0 0] 55)) Y → UMid B0 B gu c w.heap.size st.next v vd l (deepI st.deep) (ndBox n) w Y) := Lib.hid fun Y hY => hm.after hY
  have hok0 : d ≤ st.deep.getLastD 0 := by unfold noStand at hno; omega
  obtain ⟨j, nd, hs⟩ := stood_at hok.dl hok.dk n hd0 hok0
  obtain ⟨⟨P, ⟨Ka, Kn, Kc⟩, R⟩, hL⟩ := h.at_ hs.at_
  have HUP : Hid (lastUp st.deep d = (j : Int)) := Lib.hid (by unfold lastUp; rw [hs.up])
  have HII := Lib.hid hL
  have HFIN : Hid (∀ (Ak : Option Addr) (ck : Nat) (vz vq : Value) (W : World), UEnd B0 B gu c st.next vz vq ((l.set j ({ nd with kids := nd.kids ++ [n.id] }, ⟨P, ⟨Ak, Kn + 1, ck⟩, R⟩)) ++ [({ n with par := nd.id }, ⟨⟨none, 0, 0⟩, ⟨none, 0, 0⟩, ⟨none, 0, 0⟩⟩)]) (deepI st.deep ++ [(d : Int) + 1]) w W → LineU B0 B gu c (k + 1) (standsV st n d) w (.returned (.bool true)) W) := Lib.hid fun Ak ck vz vq W hE => by
    have e : (d : Int) + 1 = ((d + 1 : Nat) : Int) := by omega
    rw [e] at hE
    exact lineU_yes HV.out hE.bel (h.stoodP h0 hnn.2 hid hno hk hs hE)
  have hjl : j < st.nds.length := (List.getElem?_eq_some_iff.1 hs.at_).1
  have HKN : Hid (Kn = nd.kids.length ∧ nd.kids.length ≤ k) := Lib.hid ⟨(h.np.leaf _ (List.mem_of_getElem? hL)).kn, (h.ln nd (List.mem_of_getElem? hs.at_)).2.1⟩
  have hknb : Kn ≤ 4194304 := by have := HKN.out; omega
  have HNS : Hid (n.id ∉ idsOf st) := Lib.hid (fun h1 => hno (by unfold noStand; exact .inr (.inr (.inr (.inl h1)))))
  have hr : ¬ (4096 ≤ st.nds.length ∨ 64 ≤ d ∨ st.deep.getLastD 0 < d) := fun h1 => hno (by
    unfold noStand
    rcases h1 with h1 | h1 | h1
    · exact .inl h1
    · exact .inr (.inl h1)
    · exact .inr (.inr (.inl h1)))
  have HNN := Lib.hid hnn.2
  have HSZ : Hid (SzN { n with par := nd.id }) := Lib.hid ⟨hz.con, hz.role, hz.props, hz.refs⟩
  have hlu := h.lu
  have HLN : Hid (l.length = st.nds.length) := Lib.hid h.len
  obtain ⟨i1, hi1, hz1, hs1, hb1⟩ := info_parts intInfo
  obtain ⟨i2, hi2, hz2, hs2, hb2⟩ := info_parts nodeInfo
  have hn1 := hok.n1
  have hn2 := hok.n2
  obtain ⟨A, cp, rfl, hc1, hc2⟩ := h.v_form
  obtain ⟨Ad, cd, rfl, hd1, hd2⟩ := h.d_form
  have ho : w.ownsRow B 3 1 (.slice Ad st.deep.length cd) st.deep.length (intCells (deepI st.deep)) := by
    have := h.np.way
    rwa [show (deepI st.deep).length = st.deep.length from List.length_map _] at this
  obtain ⟨gd, rfl, hgd⟩ := own_addrB ho (by omega)
  have hov : w.ownsRow B 55 7 (.slice A st.nds.length cp) st.nds.length (allCells l) := by
    have := h.np.own
    unfold OwnN at this
    rwa [h.len] at this
  obtain ⟨g, rfl, hg⟩ := own_addrB hov (by omega)
  have HCl : Hid (∀ Y, Below (w.alloc (.cells #[.int .i64 n.id, .string n.con, .int .i64 n.par, .string n.role, .slice none 0 0, .slice none 0 0, .slice none 0 0] 55)).heap.size (w.alloc (.cells #[.int .i64 n.id, .string n.con, .int .i64 n.par, .string n.role, .slice none 0 0, .slice none 0 0, .slice none 0 0] 55)) Y → Y.cell? ⟨gu, 1, none⟩ = some (.slice (some ⟨g, 0, none⟩) st.nds.length cp) ∧ Y.cell? ⟨gu, 2, none⟩ = some (.slice (some ⟨gd, 0, none⟩) st.deep.length cd) ∧ Y.cell? ⟨w.heap.size, 0, none⟩ = some (.int .i64 n.id) ∧ ∀ (i x : Nat) (nd : Nd), st.nds[i]? = some nd → st.deep[i]? = some x → Y.cell? ⟨g, i * 7, none⟩ = some (.int .i64 nd.id) ∧ Y.cell? ⟨gd, i, none⟩ = some (.int .i64 x)) := Lib.hid fun Y hY => by
    have hm2 := hm.after hY
    refine ⟨(hm2.bx.cell 1).trans rfl, (hm2.bx.cell 2).trans rfl, (hm2.bn.cell 0).trans rfl, fun i x nd hi hx => ?_⟩
    obtain ⟨L, hL⟩ := h.at_ hi
    have hxl := (List.getElem?_eq_some_iff.1 hx).1
    refine ⟨(hm2.np.cells h.len hL).c0, ?_⟩
    have hoY : Y.ownsRow B 3 1 (.slice (some ⟨gd, 0, none⟩) st.deep.length cd) st.deep.length (intCells (deepI st.deep)) := by
      have := hm2.np.way
      rwa [show (deepI st.deep).length = st.deep.length from List.length_map _] at this
    rw [World.ownsRow.cellAt hoY i (by omega)]
    exact deepI_get hx
  have hln := hok.ln
  have e0 : (0 : Int) < (d : Int) := by omega
  have e4 : ((st.nds.length : Int) == 4096) = false := by rw [beq_eq_false_iff_ne]; omega
  have e64 : ¬ (64 : Int) ≤ (d : Int) := by omega
  obtain ⟨y, hy⟩ : ∃ y, st.deep[st.nds.length - 1]? = some y := ⟨_, List.getElem?_eq_getElem (by omega)⟩
  obtain ⟨ndl, hndl⟩ : ∃ nd, st.nds[st.nds.length - 1]? = some nd := ⟨_, List.getElem?_eq_getElem (by omega)⟩
  have e6 : ¬ (y : Int) < (d : Int) := by
    have e : st.deep.getLastD 0 = y := by rw [List.getLastD_eq_getLast?, List.getLast?_eq_getElem?, hdl, hy]; rfl
    omega
  have c3 : (w.alloc (.cells #[.int .i64 n.id, .string n.con, .int .i64 n.par, .string n.role, .slice none 0 0, .slice none 0 0, .slice none 0 0] 55)).cell? ⟨gd, st.nds.length - 1, none⟩ = some (.int .i64 y) := ((HCl.out _ (Below.refl _ _)).2.2.2 _ _ _ hndl hy).2
  have c1 : (w.alloc (.cells #[.int .i64 n.id, .string n.con, .int .i64 n.par, .string n.role, .slice none 0 0, .slice none 0 0, .slice none 0 0] 55)).cell? ⟨gu, 1, none⟩ = some (.slice (some ⟨g, 0, none⟩) st.nds.length cp) := (HCl.out _ (Below.refl _ _)).1
  have c2 : (w.alloc (.cells #[.int .i64 n.id, .string n.con, .int .i64 n.par, .string n.role, .slice none 0 0, .slice none 0 0, .slice none 0 0] 55)).cell? ⟨gu, 2, none⟩ = some (.slice (some ⟨gd, 0, none⟩) st.deep.length cd) := (HCl.out _ (Below.refl _ _)).2.1
  have hwn : IntKind.i64.wrap ((st.nds.length : Int) - 1) = ((st.nds.length - 1 : Nat) : Int) := by rw [IntWalk.i64_in _ (by omega)]; omega
  have e5 : ¬ ((st.nds.length - 1 : Nat) : Int) < 0 := by omega
  have hin : st.nds.length - 1 < st.nds.length := by omega
  have HDL := Lib.hid hdl
  obtain ⟨q, hq⟩ : ∃ q, st.nds.length = q := ⟨_, rfl⟩
  have HQ := Lib.hid hq
  rw [hdl] at c2 HCl HMB
  rw [hq] at c1 c2 c3 HCl e4 hwn e5 hin hn0 HMB HLN hjl
  have HON : Hid (∀ (Ak : Option Addr) (ck : Nat) (X : World) {vd : Value} {ws : List Int}, NP B (.slice (some ⟨g, 0, none⟩) q cp) vd (l.set j ({ nd with kids := nd.kids ++ [n.id] }, ⟨P, ⟨Ak, Kn + 1, ck⟩, R⟩)) ws X → X.ownsRow B 55 7 (.slice (some ⟨g, 0, none⟩) q cp) q (allCells (l.set j ({ nd with kids := nd.kids ++ [n.id] }, ⟨P, ⟨Ak, Kn + 1, ck⟩, R⟩)))) := Lib.hid fun Ak ck X vd ws hX => by have := hX.own; unfold OwnN at this; rw [List.length_set, HLN.out] at this; exact this
  have HOM : Hid (∀ (Ak : Option Addr) (ck : Nat) (X : World) (u : Value), X.ownsRow B 55 7 u (q + 1) (allCells (l.set j ({ nd with kids := nd.kids ++ [n.id] }, ⟨P, ⟨Ak, Kn + 1, ck⟩, R⟩)) ++ [.int .i64 n.id, .string n.con, .int .i64 nd.id, .string n.role, .slice none 0 0, .slice none 0 0, .slice none 0 0]) → OwnN X B u ((l.set j ({ nd with kids := nd.kids ++ [n.id] }, ⟨P, ⟨Ak, Kn + 1, ck⟩, R⟩)) ++ [({ n with par := nd.id }, ⟨⟨none, 0, 0⟩, ⟨none, 0, 0⟩, ⟨none, 0, 0⟩⟩)])) := Lib.hid fun Ak ck X u hu => by unfold OwnN; rw [allCells_snocS, List.length_append, List.length_set, HLN.out]; exact hu
  have HGK : Hid (∀ (X : World) {vd : Value} {ws : List Int}, NP B (.slice (some ⟨g, 0, none⟩) q cp) vd l ws X → X.ownsRow B 3 1 (.slice Ka Kn Kc) Kn (intCells nd.kids)) := Lib.hid fun X vd ws hX => (hX.leaf _ (List.mem_of_getElem? HII.out)).k
  have HCI : Hid (∀ (X : World) {vd : Value} {ws : List Int}, NP B (.slice (some ⟨g, 0, none⟩) q cp) vd l ws X → NodeAt X g (j * 7) nd ⟨P, ⟨Ka, Kn, Kc⟩, R⟩) := Lib.hid fun X vd ws hX => hX.cells HLN.out HII.out
  have HDI : Hid ((deepI st.deep).length = q) := Lib.hid (by unfold deepI; rw [List.length_map, HDL.out]; exact hq)
  have HOD : Hid (∀ (X : World) {v : Value} {l : List (Nd × Leaf)}, NP B v (.slice (some ⟨gd, 0, none⟩) q cd) l (deepI st.deep) X → X.ownsRow B 3 1 (.slice (some ⟨gd, 0, none⟩) q cd) q (intCells (deepI st.deep))) := Lib.hid fun X v l hX => by have := hX.way; rwa [HDI.out] at this
  have HWO : Hid (∀ (X : World) (u : Value), X.ownsRow B 3 1 u (q + 1) (intCells (deepI st.deep) ++ [.int .i64 ((d : Int) + 1)]) → X.ownsRow B 3 1 u (deepI st.deep ++ [(d : Int) + 1]).length (intCells (deepI st.deep ++ [(d : Int) + 1]))) := Lib.hid fun X u hu => by
    rw [List.length_append, HDI.out]
    simpa [intCells] using hu
  have hq4 : q ≤ 4096 := by omega
  clear hd0 hok hm hno hr hnn hz hs hL hok0 hc1 hc2 hd1 hd2 ho hov h hdl hy hndl hq hgd hg HV hln
  unfold ndBox
  go_enter Tryz.func55, Tryz.ntmps55
  go_wp2_with fail
  go_loopw [8, 9, 10] (fun a8 a9 a10 wr => ∃ (i : Nat) (up root : Int), a8 = .int .i64 up ∧ a9 = .int .i64 root ∧ a10 = .int .i64 i ∧ i ≤ q ∧ Hid (Went st n.id d i up root) ∧ Hid (Below (w.alloc (.cells #[.int .i64 n.id, .string n.con, .int .i64 n.par, .string n.role, .slice none 0 0, .slice none 0 0, .slice none 0 0] 55)).heap.size (w.alloc (.cells #[.int .i64 n.id, .string n.con, .int .i64 n.par, .string n.role, .slice none 0 0, .slice none 0 0, .slice none 0 0] 55)) wr)) (fun _ _ a10 _ => q - (intOf a10).toNat)
  case atStart => exact ⟨0, -1, 0, rfl, rfl, rfl, Nat.zero_le _, Lib.hid (Went.start st n.id d), Lib.hid (Below.refl _ _)⟩
  case round =>
    obtain ⟨i, up, root, rfl, rfl, rfl, hi, HW, HB⟩ := hrel
    clear c1 c2 c3
    by_cases hlt : i < q
    · have ei : (i : Int) ≤ ((q - 1 : Nat) : Int) := by omega
      obtain ⟨nd, hnd⟩ : ∃ nd, st.nds[i]? = some nd := ⟨_, List.getElem?_eq_getElem (by rw [HQ.out]; exact hlt)⟩
      obtain ⟨x, hx⟩ : ∃ x, st.deep[i]? = some x := ⟨_, List.getElem?_eq_getElem (by rw [HDL.out, HQ.out]; exact hlt)⟩
      obtain ⟨c1, c2, cb, hall⟩ := HCl.out _ HB.out
      obtain ⟨cn, cx⟩ := hall i x nd hnd hx
      have HND := Lib.hid hnd
      have HX := Lib.hid hx
      clear hall hnd hx
      cases hid2 : (nd.id == n.id) with
      | true =>
        exfalso
        have h1 := ids_get HND.out
        rw [beq_iff_eq] at hid2
        exact HNS.out (List.mem_of_getElem? (by rw [← hid2]; exact h1))
      | false =>
        have hne : nd.id ≠ n.id := by rw [beq_eq_false_iff_ne] at hid2; exact hid2
        have HS := Lib.hid (HW.out.next HDL.out HND.out HX.out hne)
        have HB2 : Hid (∀ m, Below (w.alloc (.cells #[.int .i64 n.id, .string n.con, .int .i64 n.par, .string n.role, .slice none 0 0, .slice none 0 0, .slice none 0 0] 55)).heap.size (w.alloc (.cells #[.int .i64 n.id, .string n.con, .int .i64 n.par, .string n.role, .slice none 0 0, .slice none 0 0, .slice none 0 0] 55)) (wr.drewN m)) := Lib.hid fun m => HB.out.trans ((below_drewN (Below.refl _ wr) m).mono HB.out.size)
        clear hne
        by_cases hxd : x = d
        · have e7 : ((x : Int) == (d : Int)) = true := by rw [beq_iff_eq]; omega
          rw [if_pos hxd] at HS
          by_cases hx1 : x = 1
          · have e8 : ((x : Int) == 1) = true := by rw [beq_iff_eq]; omega
            rw [if_pos hx1] at HS
            clear hxd hx1
            go_upto_region 8 with fail
            go_quiet (fail)
            go_wp2_with fail
            go_round
            case rel => exact ⟨i + 1, _, _, rfl, rfl, by go_num, by omega, HS, Lib.hid (HB2.out _)⟩
            case measure => first | (simp [intOf]; omega) | simp [intOf]
          · have e8 : ((x : Int) == 1) = false := by rw [beq_eq_false_iff_ne]; omega
            rw [if_neg hx1] at HS
            clear hxd hx1
            go_upto_region 8 with fail
            go_quiet (fail)
            go_wp2_with fail
            go_round
            case rel => exact ⟨i + 1, _, _, rfl, rfl, by go_num, by omega, HS, Lib.hid (HB2.out _)⟩
            case measure => first | (simp [intOf]; omega) | simp [intOf]
        · have e7 : ((x : Int) == (d : Int)) = false := by rw [beq_eq_false_iff_ne]; omega
          rw [if_neg hxd] at HS
          by_cases hx1 : x = 1
          · have e8 : ((x : Int) == 1) = true := by rw [beq_iff_eq]; omega
            rw [if_pos hx1] at HS
            clear hxd hx1
            go_upto_region 8 with fail
            go_quiet (fail)
            go_wp2_with fail
            go_round
            case rel => exact ⟨i + 1, _, _, rfl, rfl, by go_num, by omega, HS, Lib.hid (HB2.out _)⟩
            case measure => first | (simp [intOf]; omega) | simp [intOf]
          · have e8 : ((x : Int) == 1) = false := by rw [beq_eq_false_iff_ne]; omega
            rw [if_neg hx1] at HS
            clear hxd hx1
            go_upto_region 8 with fail
            go_quiet (fail)
            go_wp2_with fail
            go_round
            case rel => exact ⟨i + 1, _, _, rfl, rfl, by go_num, by omega, HS, Lib.hid (HB2.out _)⟩
            case measure => first | (simp [intOf]; omega) | simp [intOf]
    · have hiq : q = i := by omega
      subst hiq
      have ei : ¬ (q : Int) ≤ ((q - 1 : Nat) : Int) := by omega
      have hend := (show Went st n.id d st.nds.length up root from by rw [HQ.out]; exact HW.out).done HDL.out
      obtain ⟨hup, hroot, hnin⟩ := hend
      have hup2 : up = (j : Int) := by rw [hup]; exact HUP.out
      subst hup2
      have ed : ((d : Int) == 0) = false := by rw [beq_eq_false_iff_ne]; omega
      obtain ⟨c1, c2, cb, _⟩ := HCl.out _ HB.out
      have HM1 := Lib.hid (HMB.out _ HB.out)
      have x0 := (HCI.out _ HM1.out.np).c0
      have f2 := HM1.out.bn.frozen 2
      have y2 : wr.cell? ⟨w.heap.size, 2, none⟩ = some (.int .i64 n.par) := (HM1.out.bn.cell 2).trans rfl
      clear hup hroot hnin HW HCl HB HMB
      go_upto_region 18 with fail
      have HMP := Lib.hid (HM1.out.par nd.id)
      generalize wr.setCell ⟨w.heap.size, 2, none⟩ (.int .i64 nd.id) = W1 at HMP ⊢
      clear x0 f2 y2 c1 c2 cb HM1
      have HM2 := Lib.hid (HMP.out.after (drewS_below _))
      refine wp_region_held_tail 17 (fun Y => Y.cell? ⟨gu, 1, none⟩ = some (.slice (some ⟨g, 0, none⟩) q cp) ∧ Y.cell? ⟨g, j * 7 + 5, none⟩ = some (.slice Ka Kn Kc) ∧ Y.cell? ⟨w.heap.size, 0, none⟩ = some (.int .i64 n.id)) (by kernel_rfl) (by kernel_rfl) ?hS8 (fun hHeld => ?q8)
      case hS8 => exact ⟨(HM2.out.bx.cell 1).trans rfl, (HCI.out _ HM2.out.np).c5, (HM2.out.bn.cell 0).trans rfl⟩
      case q8 =>
        simp only [List.take_succ_cons, List.take_zero, List.drop_succ_cons, List.drop_zero]
        refine wpAnyH_take (i := 0) (v := (.pointer (some ⟨gu, 0, none⟩))) rfl (by kernel_rfl) (by kernel_rfl) (by kernel_rfl) (fun _ _ _ h => h) (Or.inl ⟨by rfl, ?yv_1⟩) (by assumption) ?qv_1
        case yv_1 => (intro w hSw; (try dsimp only at hSw); go_simp)
        case qv_1 =>
          (try simp only [Act.put]); (try simp only [List.setIfInBounds_toArray])
          refine wpAnyH_take (i := 1) (v := (.pointer (some ⟨gu, 0, none⟩))) rfl (by kernel_rfl) (by kernel_rfl) (by kernel_rfl) (fun _ _ _ h => h) (Or.inl ⟨by rfl, ?yv_2⟩) (by assumption) ?qv_2
          case yv_2 => (intro w hSw; (try dsimp only at hSw); go_simp)
          case qv_2 =>
            (try simp only [Act.put]); (try simp only [List.setIfInBounds_toArray])
            refine wpAnyH_take (i := 2) (v := (.pointer (some ⟨gu, 1, none⟩))) rfl (by kernel_rfl) (by kernel_rfl) (by kernel_rfl) (fun _ _ _ h => h) (Or.inl ⟨by rfl, ?yv_3⟩) (by assumption) ?qv_3
            case yv_3 => (intro w hSw; (try dsimp only at hSw); go_simp)
            case qv_3 =>
              (try simp only [Act.put]); (try simp only [List.setIfInBounds_toArray])
              refine wpAnyH_take (i := 3) (v := (.slice (some ⟨g, 0, none⟩) q cp)) rfl (by kernel_rfl) (by kernel_rfl) (by kernel_rfl) (fun _ _ _ h => h) (Or.inl ⟨by rfl, ?yv_4⟩) (by assumption) ?qv_4
              case yv_4 => (intro w hSw; (try dsimp only at hSw); go_simp)
              case qv_4 =>
                (try simp only [Act.put]); (try simp only [List.setIfInBounds_toArray])
                refine wpAnyH_take (i := 4) (v := (.int .i64 (j : Int))) rfl (by kernel_rfl) (by kernel_rfl) (by kernel_rfl) (fun _ _ _ h => h) (Or.inl ⟨by rfl, ?yv_5⟩) (by assumption) ?qv_5
                case yv_5 => (intro w hSw; (try dsimp only at hSw); go_simp)
                case qv_5 =>
                  (try simp only [Act.put]); (try simp only [List.setIfInBounds_toArray])
                  refine wpAnyH_take (i := 5) (v := (.pointer (some ⟨gu, 0, none⟩))) rfl (by kernel_rfl) (by kernel_rfl) (by kernel_rfl) (fun _ _ _ h => h) (Or.inl ⟨by rfl, ?yv_6⟩) (by assumption) ?qv_6
                  case yv_6 => (intro w hSw; (try dsimp only at hSw); go_simp)
                  case qv_6 =>
                    (try simp only [Act.put]); (try simp only [List.setIfInBounds_toArray])
                    refine wpAnyH_take (i := 6) (v := (.pointer (some ⟨gu, 0, none⟩))) rfl (by kernel_rfl) (by kernel_rfl) (by kernel_rfl) (fun _ _ _ h => h) (Or.inl ⟨by rfl, ?yv_7⟩) (by assumption) ?qv_7
                    case yv_7 => (intro w hSw; (try dsimp only at hSw); go_simp)
                    case qv_7 =>
                      (try simp only [Act.put]); (try simp only [List.setIfInBounds_toArray])
                      refine wpAnyH_take (i := 7) (v := (.pointer (some ⟨gu, 1, none⟩))) rfl (by kernel_rfl) (by kernel_rfl) (by kernel_rfl) (fun _ _ _ h => h) (Or.inl ⟨by rfl, ?yv_8⟩) (by assumption) ?qv_8
                      case yv_8 => (intro w hSw; (try dsimp only at hSw); go_simp)
                      case qv_8 =>
                        (try simp only [Act.put]); (try simp only [List.setIfInBounds_toArray])
                        refine wpAnyH_take (i := 8) (v := (.slice (some ⟨g, 0, none⟩) q cp)) rfl (by kernel_rfl) (by kernel_rfl) (by kernel_rfl) (fun _ _ _ h => h) (Or.inl ⟨by rfl, ?yv_9⟩) (by assumption) ?qv_9
                        case yv_9 => (intro w hSw; (try dsimp only at hSw); go_simp)
                        case qv_9 =>
                          (try simp only [Act.put]); (try simp only [List.setIfInBounds_toArray])
                          refine wpAnyH_take (i := 9) (v := (.int .i64 (j : Int))) rfl (by kernel_rfl) (by kernel_rfl) (by kernel_rfl) (fun _ _ _ h => h) (Or.inl ⟨by rfl, ?yv_10⟩) (by assumption) ?qv_10
                          case yv_10 => (intro w hSw; (try dsimp only at hSw); go_simp)
                          case qv_10 =>
                            (try simp only [Act.put]); (try simp only [List.setIfInBounds_toArray])
                            refine wpAnyH_take (i := 10) (v := (.pointer (some ⟨g, j * 7, none⟩))) rfl (by kernel_rfl) (by kernel_rfl) (by kernel_rfl) (fun _ _ _ h => h) (Or.inl ⟨by rfl, ?yv_11⟩) (by assumption) ?qv_11
                            case yv_11 => (intro w hSw; (try dsimp only at hSw); go_simp)
                            case qv_11 =>
                              (try simp only [Act.put]); (try simp only [List.setIfInBounds_toArray])
                              refine wpAnyH_take (i := 11) (v := (.pointer (some ⟨g, j * 7 + 5, none⟩))) rfl (by kernel_rfl) (by kernel_rfl) (by kernel_rfl) (fun _ _ _ h => h) (Or.inl ⟨by rfl, ?yv_12⟩) (by assumption) ?qv_12
                              case yv_12 => (intro w hSw; (try dsimp only at hSw); go_simp)
                              case qv_12 =>
                                (try simp only [Act.put]); (try simp only [List.setIfInBounds_toArray])
                                refine wpAnyH_take (i := 12) (v := (.slice Ka Kn Kc)) rfl (by kernel_rfl) (by kernel_rfl) (by kernel_rfl) (fun _ _ _ h => h) (Or.inl ⟨by rfl, ?yv_13⟩) (by assumption) ?qv_13
                                case yv_13 => (intro w hSw; (try dsimp only at hSw); go_simp)
                                case qv_13 =>
                                  (try simp only [Act.put]); (try simp only [List.setIfInBounds_toArray])
                                  refine wpAnyH_take (i := 13) (v := (.pointer (some ⟨w.heap.size, 0, none⟩))) rfl (by kernel_rfl) (by kernel_rfl) (by kernel_rfl) (fun _ _ _ h => h) (Or.inl ⟨by rfl, ?yv_14⟩) (by assumption) ?qv_14
                                  case yv_14 => (intro w hSw; (try dsimp only at hSw); go_simp)
                                  case qv_14 =>
                                    (try simp only [Act.put]); (try simp only [List.setIfInBounds_toArray])
                                    refine wpAnyH_take (i := 14) (v := (.int .i64 n.id)) rfl (by kernel_rfl) (by kernel_rfl) (by kernel_rfl) (fun _ _ _ h => h) (Or.inl ⟨by rfl, ?yv_15⟩) (by assumption) ?qv_15
                                    case yv_15 => (intro w hSw; (try dsimp only at hSw); go_simp)
                                    case qv_15 =>
                                      (try simp only [Act.put]); (try simp only [List.setIfInBounds_toArray])
                                      refine wpAnyH_ready (rs := [15]) (by kernel_rfl) (by simp) ?_
                                      refine AllReadyH.cons rfl (fun K hK => ?sv_16) ?mv_16
                                      case sv_16 =>
                                        (refine step_mkS _ (by rfl) 3 #[.int .i64 n.id] (by go_simp) ?_; intro gq Yq hxq hbq hsq; have HRq : Hid (Row Yq gq (gq + 1) 1 (some ⟨gq, 0, none⟩) 1 1 [.int .i64 n.id]) := Lib.hid (row_blk hxq rfl (Nat.le_refl _) (by unfold maxLen; omega)); have HM2 := Lib.hid (HM2.out.after hbq); clear hxq hbq hsq)
                                        refine hK.out _ _ ?kv_16 (fun hHeld => ?qv_16)
                                        case kv_16 => ((try dsimp only); first | exact ⟨(HBX.out.cell 1).trans rfl, HC5.out, (HNX.out.cell 0).trans rfl⟩ | exact ⟨(HM2.out.bx.cell 1).trans rfl, (HCI.out _ HM2.out.np).c5, (HM2.out.bn.cell 0).trans rfl⟩)
                                        case qv_16 =>
                                          clear hK K
                                          (try simp only [Act.put]); (try simp only [List.setIfInBounds_toArray])
                                          refine wpAnyH_ready (rs := [16]) (by kernel_rfl) (by simp) ?_
                                          refine AllReadyH.cons rfl (fun K hK => ?sv_17) ?mv_17
                                          case sv_17 =>
                                            ((refine step_appS (o := ⟨some 123, _, _, _, _, _⟩) _ (by rfl) (.tmp 119) (.tmp 122) _ (by rfl) B 3 i1 _ 1 8 Tryz.underlying40 hi1 hz1 hs1 hb1 rfl (by omega) (.slice Ka Kn Kc) Kn (intCells nd.kids) (by go_simp) (HGK.out _ HM2.out.np) gq (gq + 1) (some ⟨gq, 0, none⟩) 1 1 [.int .i64 n.id] (by go_simp) HRq.out (by simp [Value.oneCell']) (by unfold maxLen; omega) (by omega) HM2.out.np.hB ?_); intro Ak ck Yk hownK hgrK hnewK; have HM3 := Lib.hid (HM2.out.kid HLN.out HII.out hownK hgrK hnewK); have HON2 := Lib.hid (World.ownsRow.kept HM2.out.np.own hgrK (own_own_ne HM2.out.np.own (HGK.out _ HM2.out.np) (by decide))); have HC5 := Lib.hid (nodes_cells HLN.out HON2.out HII.out).c5; have HF5 := Lib.hid (nodes_frozen HLN.out HON2.out (j * 7 + 5)); have HNX := Lib.hid (HM2.out.bn.grown hgrK (Ne.symm (own_blk_ne (HGK.out _ HM2.out.np) HM2.out.bn (by decide)))); have HBX := Lib.hid (HM2.out.bx.grown hgrK (Ne.symm (own_blk_ne (HGK.out _ HM2.out.np) HM2.out.bx (by decide)))); clear hownK hgrK hnewK)
                                            refine hK.out _ _ ?kv_17 (fun hHeld => ?qv_17)
                                            case kv_17 => ((try dsimp only); first | exact ⟨(HBX.out.cell 1).trans rfl, HC5.out, (HNX.out.cell 0).trans rfl⟩ | exact ⟨(HM2.out.bx.cell 1).trans rfl, (HCI.out _ HM2.out.np).c5, (HM2.out.bn.cell 0).trans rfl⟩)
                                            case qv_17 =>
                                              clear hK K
                                              (try simp only [Act.put]); (try simp only [List.setIfInBounds_toArray])
                                              refine wpAnyH_done (by kernel_rfl) ?_ _
                                              clear hHeld
                                              show wpList _ _ _ _ _ _
                                              have s1 := HC5.out
                                              have s2 := HF5.out
                                              go_upto_region 19 with fail
                                              clear s1 s2 HC5 HF5 HNX HON2 HBX
                                              generalize Yk.setCell ⟨g, j * 7 + 5, none⟩ (.slice Ak (Kn + 1) ck) = W4 at HM3 ⊢
                                              have HM := Lib.hid HM3.out
                                              clear HM2 HM3
                                              have HM9 := Lib.hid (HM.out.after (drewS_below _))
                                              refine wp_region_held_tail 8 (fun Y => Y.cell? ⟨gu, 1, none⟩ = some (.slice (some ⟨g, 0, none⟩) q cp) ∧ Y.cell? ⟨w.heap.size, 0, none⟩ = some (.int .i64 n.id) ∧ Y.cell? ⟨w.heap.size, 1, none⟩ = some (.string n.con) ∧ Y.cell? ⟨w.heap.size, 2, none⟩ = some (.int .i64 nd.id) ∧ Y.cell? ⟨w.heap.size, 3, none⟩ = some (.string n.role) ∧ Y.cell? ⟨w.heap.size, 4, none⟩ = some (.slice none 0 0) ∧ Y.cell? ⟨w.heap.size, 5, none⟩ = some (.slice none 0 0) ∧ Y.cell? ⟨w.heap.size, 6, none⟩ = some (.slice none 0 0)) (by kernel_rfl) (by kernel_rfl) ?hS9 (fun hHeld => ?q9)
                                              case hS9 => exact ⟨(HM9.out.bx.cell 1).trans rfl, nd_cells HM9.out.bn⟩
                                              case q9 =>
                                                simp only [List.take_succ_cons, List.take_zero, List.drop_succ_cons, List.drop_zero]
                                                refine wpAnyH_take (i := 0) (v := (.pointer (some ⟨gu, 0, none⟩))) rfl (by kernel_rfl) (by kernel_rfl) (by kernel_rfl) (fun _ _ _ h => h) (Or.inl ⟨by rfl, ?yu_1⟩) (by assumption) ?qu_1
                                                case yu_1 => (intro w hSw; (try dsimp only at hSw); go_simp)
                                                case qu_1 =>
                                                  (try simp only [Act.put]); (try simp only [List.setIfInBounds_toArray])
                                                  refine wpAnyH_take (i := 1) (v := (.pointer (some ⟨gu, 0, none⟩))) rfl (by kernel_rfl) (by kernel_rfl) (by kernel_rfl) (fun _ _ _ h => h) (Or.inl ⟨by rfl, ?yu_2⟩) (by assumption) ?qu_2
                                                  case yu_2 => (intro w hSw; (try dsimp only at hSw); go_simp)
                                                  case qu_2 =>
                                                    (try simp only [Act.put]); (try simp only [List.setIfInBounds_toArray])
                                                    refine wpAnyH_take (i := 2) (v := (.pointer (some ⟨gu, 0, none⟩))) rfl (by kernel_rfl) (by kernel_rfl) (by kernel_rfl) (fun _ _ _ h => h) (Or.inl ⟨by rfl, ?yu_3⟩) (by assumption) ?qu_3
                                                    case yu_3 => (intro w hSw; (try dsimp only at hSw); go_simp)
                                                    case qu_3 =>
                                                      (try simp only [Act.put]); (try simp only [List.setIfInBounds_toArray])
                                                      refine wpAnyH_take (i := 3) (v := (.pointer (some ⟨gu, 1, none⟩))) rfl (by kernel_rfl) (by kernel_rfl) (by kernel_rfl) (fun _ _ _ h => h) (Or.inl ⟨by rfl, ?yu_4⟩) (by assumption) ?qu_4
                                                      case yu_4 => (intro w hSw; (try dsimp only at hSw); go_simp)
                                                      case qu_4 =>
                                                        (try simp only [Act.put]); (try simp only [List.setIfInBounds_toArray])
                                                        refine wpAnyH_take (i := 4) (v := (.slice (some ⟨g, 0, none⟩) q cp)) rfl (by kernel_rfl) (by kernel_rfl) (by kernel_rfl) (fun _ _ _ h => h) (Or.inl ⟨by rfl, ?yu_5⟩) (by assumption) ?qu_5
                                                        case yu_5 => (intro w hSw; (try dsimp only at hSw); go_simp)
                                                        case qu_5 =>
                                                          (try simp only [Act.put]); (try simp only [List.setIfInBounds_toArray])
                                                          refine wpAnyH_take (i := 5) (v := (.agg #[.int .i64 n.id, .string n.con, .int .i64 nd.id, .string n.role, .slice none 0 0, .slice none 0 0, .slice none 0 0])) rfl (by kernel_rfl) (by kernel_rfl) (by kernel_rfl) (fun _ _ _ h => h) (Or.inl ⟨by rfl, ?yu_6⟩) (by assumption) ?qu_6
                                                          case yu_6 => (intro w hSw; (try dsimp only at hSw); go_simp)
                                                          case qu_6 =>
                                                            (try simp only [Act.put]); (try simp only [List.setIfInBounds_toArray])
                                                            refine wpAnyH_ready (rs := [6]) (by kernel_rfl) (by simp) ?_
                                                            refine AllReadyH.cons rfl (fun K hK => ?su_7) ?mu_7
                                                            case su_7 =>
                                                              (refine step_mkS _ (by rfl) 55 #[.int .i64 n.id, .string n.con, .int .i64 nd.id, .string n.role, .slice none 0 0, .slice none 0 0, .slice none 0 0] (by go_simp) ?_; intro gp Yp hxp hbp hsp; have HRp : Hid (Row Yp gp (gp + 1) 7 (some ⟨gp, 0, none⟩) 1 1 [.int .i64 n.id, .string n.con, .int .i64 nd.id, .string n.role, .slice none 0 0, .slice none 0 0, .slice none 0 0]) := Lib.hid (row_blk hxp rfl (Nat.le_refl _) (by unfold maxLen; omega)); have HM9 := Lib.hid (HM9.out.after hbp); clear hxp hbp hsp)
                                                              refine hK.out _ _ ?ku_7 (fun hHeld => ?qu_7)
                                                              case ku_7 => ((try dsimp only); first | exact ⟨(HBX.out.cell 1).trans rfl, nd_cells HNX.out⟩ | exact ⟨(HM9.out.bx.cell 1).trans rfl, nd_cells HM9.out.bn⟩)
                                                              case qu_7 =>
                                                                clear hK K
                                                                (try simp only [Act.put]); (try simp only [List.setIfInBounds_toArray])
                                                                refine wpAnyH_ready (rs := [7]) (by kernel_rfl) (by simp) ?_
                                                                refine AllReadyH.cons rfl (fun K hK => ?su_8) ?mu_8
                                                                case su_8 =>
                                                                  ((refine step_appS (o := ⟨some 133, _, _, _, _, _⟩) _ (by rfl) (.tmp 130) (.tmp 132) _ (by rfl) B 55 i2 _ 7 120 Tryz.underlying23 hi2 hz2 hs2 hb2 rfl (by omega) (.slice (some ⟨g, 0, none⟩) q cp) q (allCells (l.set j ({ nd with kids := nd.kids ++ [n.id] }, ⟨P, ⟨Ak, Kn + 1, ck⟩, R⟩))) (by go_simp) (HON.out Ak ck _ HM9.out.np) gp (gp + 1) (some ⟨gp, 0, none⟩) 1 1 [.int .i64 n.id, .string n.con, .int .i64 nd.id, .string n.role, .slice none 0 0, .slice none 0 0, .slice none 0 0] (by go_simp) HRp.out (by simp [Value.oneCell']) (by unfold maxLen; omega) (by omega) HM9.out.np.hB ?_); intro Az cz Yz hownZ hgrZ hnewZ; have HME := Lib.hid (HM9.out.node HNN.out.1 HNN.out.2.1 HNN.out.2.2 HSZ.out (v' := .slice Az (q + 1) cz) (HOM.out Ak ck _ _ hownZ) hgrZ); have HBX := Lib.hid (HM9.out.bx.grown hgrZ (Ne.symm (own_blk_ne HM9.out.np.own HM9.out.bx (by decide)))); have HNX := Lib.hid (HM9.out.bn.grown hgrZ (Ne.symm HM9.out.gv)); clear hownZ hgrZ hnewZ)
                                                                  refine hK.out _ _ ?ku_8 (fun hHeld => ?qu_8)
                                                                  case ku_8 => ((try dsimp only); first | exact ⟨(HBX.out.cell 1).trans rfl, nd_cells HNX.out⟩ | exact ⟨(HM9.out.bx.cell 1).trans rfl, nd_cells HM9.out.bn⟩)
                                                                  case qu_8 =>
                                                                    clear hK K
                                                                    (try simp only [Act.put]); (try simp only [List.setIfInBounds_toArray])
                                                                    refine wpAnyH_done (by kernel_rfl) ?_ _
                                                                    clear hHeld
                                                                    show wpList _ _ _ _ _ _
                                                                    have s1 : Yz.cell? ⟨gu, 1, none⟩ = some (.slice (some ⟨g, 0, none⟩) q cp) := (HBX.out.cell 1).trans rfl
                                                                    have s2 := HBX.out.frozen 1
                                                                    go_upto_region 20 with fail
                                                                    clear s1 s2 HBX HNX
                                                                    generalize Yz.setCell ⟨gu, 1, none⟩ (.slice Az (q + 1) cz) = W9 at HME ⊢
                                                                    have x2 : W9.cell? ⟨gu, 2, none⟩ = some (.slice (some ⟨gd, 0, none⟩) q cd) := (HME.out.bx.cell 2).trans rfl
                                                                    have HMD := Lib.hid (HME.out.after (W' := (W9.alloc (.cells #[.int .i64 ((d : Int) + 1)] 3))) (Nat.le_trans hB0 (Nat.le_of_lt HME.out.bx.lt)) ((Below.refl _ _).alloc (Nat.le_refl _) _))
                                                                    have HRq : Hid (Row (W9.alloc (.cells #[.int .i64 ((d : Int) + 1)] 3)) W9.heap.size (W9.heap.size + 1) 1 (some ⟨W9.heap.size, 0, none⟩) 1 1 [.int .i64 ((d : Int) + 1)]) := Lib.hid (row_blk (Blk.new _ _ _) rfl (Nat.le_refl _) (by unfold maxLen; omega))
                                                                    go_wp2_with (at_builtin; with_reducible show wpList _ _ _ (⟨some 144, _, _, _, _, _⟩ :: _) _ _; go_must (refine wpList_appS (o := ⟨some 144, _, _, _, _, _⟩) _ rfl (.tmp 140) (.tmp 143) _ rfl B 3 i1 _ 1 8 Tryz.underlying40 hi1 hz1 hs1 hb1 rfl (by omega) (.slice (some ⟨gd, 0, none⟩) q cd) q (intCells (deepI st.deep)) (by go_simp) (HOD.out _ HMD.out.np) W9.heap.size (W9.heap.size + 1) (some ⟨W9.heap.size, 0, none⟩) 1 1 [.int .i64 ((d : Int) + 1)] (by go_simp) HRq.out (by simp [Value.oneCell']) (by unfold maxLen; omega) (by omega) HMD.out.np.hB ?_); go_must (intro Aq cq w2 hownN hgrN hnewN; have HEE := Lib.hid (HMD.out.deepA (vd' := .slice Aq (q + 1) cq) (ws' := deepI st.deep ++ [(d : Int) + 1]) hB0 hlu (HWO.out _ _ hownN) hgrN hnewN); have HBY := Lib.hid (HMD.out.bx.grown hgrN (Ne.symm (own_blk_ne HMD.out.np.way HMD.out.bx (by decide)))); have y2 : w2.cell? ⟨gu, 2, none⟩ = some (.slice (some ⟨gd, 0, none⟩) q cd) := (HBY.out.cell 2).trans rfl; have f2 := HBY.out.frozen 2; clear hownN hgrN hnewN))
                                                                    go_ret
                                                                    exact HFIN.out Ak ck _ _ _ HEE.out
                                                                case mu_8 =>
                                                                  exact AllReadyH.nil
                                                            case mu_7 =>
                                                              exact AllReadyH.nil
                                          case mv_17 =>
                                            exact AllReadyH.nil
                                      case mv_16 =>
                                        exact AllReadyH.nil
end Go.Proofs.YtjjlofaejpnnnaaGreatDoor

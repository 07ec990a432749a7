/-
  WALKS: what Put and Aim do to a node that has no such name.
  WALKS: changed in one; Drop and Loose.
-/
import Derived.Test.YtbkmdlfenbfdlaaGreatZC12
namespace Go.Proofs.YtbkmdlfenbfdlaaGreat
open Go Go.RowKit Go.Sort
set_option linter.unusedVariables false
attribute [local go_sem ↓] Go.wp_at_zero Go.wp_at_succ
theorem getElem?_set_same {α : Type} {l : List α} {i : Nat} {a : α} (h : l[i]? = some a) (b : α) : (l.set i b)[i]? = some b := by
  rw [List.getElem?_set_self (List.getElem?_eq_some_iff.1 h).1]
theorem insL_length {α : Type} (l : List α) (k : Nat) (x : α) (hk : k ≤ l.length) : (insL l k x).length = l.length + 1 := by
  simp only [insL, List.length_append, List.length_take, List.length_cons, List.length_drop]; omega
theorem insL_get {α : Type} (l : List α) (k : Nat) (x : α) (hk : k ≤ l.length) : (insL l k x)[k]? = some x := by
  unfold insL
  rw [List.getElem?_append_right (by rw [List.length_take]; omega), List.length_take, Nat.min_eq_left hk, Nat.sub_self]
  rfl
theorem insL_set {α : Type} (l : List α) (k : Nat) (x y : α) (hk : k ≤ l.length) : (insL l k x).set k y = insL l k y := by
  unfold insL
  rw [List.set_append_right _ _ (by rw [List.length_take]; omega), List.length_take, Nat.min_eq_left hk, Nat.sub_self]
  rfl
theorem insL_mem {α : Type} {l : List α} {k : Nat} {x y : α} (h : x ∈ insL l k y) : x = y ∨ x ∈ l := by
  rcases List.mem_append.1 h with h | h
  · exact .inr (List.mem_of_mem_take h)
  · rcases List.mem_cons.1 h with h | h
    · exact .inl h
    · exact .inr (List.mem_of_mem_drop h)
set_option maxRecDepth 20000 in
set_option maxHeartbeats 3200000 in
theorem put_new (w : World) (n : Nat) (nd : Nd) (bn bv : Nat) (name : ByteArray) (val : ByteArray) (hv : val.size ≤ maxLen) (hb : Blk w bn 9 #[.string name]) (hbv : Blk w bv 9 #[.string val]) (hs : SortS (nd.props.map (·.1))) (hfit : Fits 1 nd)
    (hfd : foundS (nd.props.map (·.1)) name = false) (hsn : name.size ≤ maxLen) : Change w n 63 #[.pointer (some ⟨bn, 0, none⟩), .pointer (some ⟨bv, 0, none⟩)] nd (putN nd name val) := by
  intro X g i l p hO hD hln hp hp1 hX
  show Calls _ _ #[.pointer (some ⟨g, i * 7, none⟩), .pointer (some ⟨bn, 0, none⟩), .pointer (some ⟨bv, 0, none⟩)] X _
  obtain ⟨nd0, ⟨⟨A, m, cm⟩, K, R⟩⟩ := p
  obtain rfl : nd0 = nd := hp1
  have hmem := List.mem_of_getElem? hp
  have hbn := hb.after hX
  have hbw := hbv.after hX
  have hleaf := hO.leaf _ hmem
  have htg := hD.tight _ hmem
  obtain rfl : cm = m := htg.pc
  obtain ⟨c4, f4⟩ := hO.cellOf hln hp (j := 4) (by decide) rfl
  have hrow := (own_row hleaf.p).mono (Nat.zero_le _) (Nat.le_refl X.heap.size)
  dsimp only at hleaf htg c4 hrow
  have hnl : cm = nd0.props.length := hleaf.pn
  have hpf := hfit.p
  have HP := Lib.hid (pAt_any X X.heap.size g (i * 7) A cm cm nd0.props name c4 hrow (Nat.le_refl _) hs (by omega))
  have c0 := (hbn.cell 0).trans (show _ = some (.string name) from rfl)
  have v0 := (hbw.cell 0).trans (show _ = some (.string val) from rfl)
  have hgX : g < X.heap.size := by
    have h1 := hO.own
    unfold OwnN at h1
    rw [hln] at h1
    obtain ⟨cs, hg, _, _⟩ := own_blk h1
    exact hg.lt
  rw [hfd] at HP
  have hN : (putN nd0 name val) = { nd0 with props := insL nd0.props (rankS (nd0.props.map (·.1)) name) (name, val) } := by unfold putN; rw [if_neg (by rw [hfd]; decide)]
  rw [hN]
  have hkl : rankS (nd0.props.map (·.1)) name ≤ nd0.props.length := by
    have := List.countP_le_length (p := fun k => ltS k name) (l := nd0.props.map (·.1))
    rw [List.length_map] at this
    exact this
  clear hN
  generalize rankS (nd0.props.map (·.1)) name = k at HP hkl ⊢
  have hlp : X.ownsRow w.heap.size 94 2 (.slice A cm cm) cm (propCells nd0.props) := hleaf.p
  have HIns := Lib.hid fun (Y : World) (hY : Below X.heap.size X Y) (gv : Nat) (hgv : Blk Y gv 94 #[.string name, .string ⟨#[]⟩]) => insProp_any Y w.heap.size A cm k gv nd0.props name (own_after hlp hY) hnl.symm htg.p0 (by omega) hgv (by rw [hnl]; exact hpf)
  have HSS := Lib.hid fun (Y : World) (hY : Below X.heap.size X Y) => show Y.cell? ⟨g, i * 7 + 4, none⟩ = some (.slice A cm cm) ∧ Y.frozen? ⟨g, i * 7 + 4, none⟩ = false ∧ Y.cell? ⟨bn, 0, none⟩ = some (.string name) from
    ⟨(hY.cell (p := ⟨g, i * 7 + 4, none⟩) hgX).trans c4, (hY.frozen (p := ⟨g, i * 7 + 4, none⟩) hgX).trans f4, (hY.cell (p := ⟨bn, 0, none⟩) hbn.lt).trans c0⟩
  obtain ⟨hwg, csN, hgN⟩ : w.heap.size ≤ g ∧ ∃ csN, Blk X g 41 csN := by
    have h1 := hO.own
    unfold OwnN at h1
    rw [hln] at h1
    obtain ⟨cs, hg, h2, _⟩ := own_blk h1
    exact ⟨h2, cs, hg⟩
  have hmf : ({ nd0 with props := (insL nd0.props k (name, (⟨#[]⟩ : ByteArray))).set k (name, val) } : Nd) = { nd0 with props := insL nd0.props k (name, val) } := by rw [insL_set _ _ _ _ hkl]
  have HO := Lib.hid hO
  have HX := Lib.hid hX
  have HPP := Lib.hid hp
  have HLF := Lib.hid hleaf
  have HLN := Lib.hid hln
  have HGN := Lib.hid hgN
  have HBV := Lib.hid hbw
  have HMF := Lib.hid hmf
  have HSN := Lib.hid hsn
  have HGX := Lib.hid hgX
  have HNL := Lib.hid hnl
  have hkc : k ≤ cm := by omega
  have hcl : cm ≤ nd0.props.length := by omega
  have hlc : nd0.props.length ≤ cm := by omega
  clear hO hX hp hD hleaf hs hfd htg hrow hmem hb hbv hbn hbw hlp hgN hfit hpf hmf hkl hnl v0 hln
  go_enter Tryz.func63, Tryz.ntmps63
  go_upto_region 2 with (go_at_call 64; go_must (refine HP.out.mono ?_; rintro e w2 ⟨rfl, hb2⟩; have HBW := Lib.hid (hb2.trans ((below_drew1 w2).mono hb2.size)); clear hb2))
  refine wp_region_held_tail 10 (fun Y => Y.cell? ⟨g, i * 7 + 4, none⟩ = some (.slice A cm cm) ∧ Y.frozen? ⟨g, i * 7 + 4, none⟩ = false ∧ Y.cell? ⟨bn, 0, none⟩ = some (.string name)) (by kernel_rfl) (by kernel_rfl) (HSS.out _ HBW.out) (fun hHeld => ?qa0)
  case qa0 =>
    simp only [List.take_succ_cons, List.take_zero, List.drop_succ_cons, List.drop_zero]
    refine wpAnyH_take (i := 0) (v := (.pointer (some ⟨g, i * 7, none⟩))) rfl (by kernel_rfl) (by kernel_rfl) (by kernel_rfl) (fun _ _ _ h => h) (Or.inl ⟨by rfl, ?ya_1⟩) (by assumption) ?qa_1
    case ya_1 => (intro w hSw; (try dsimp only at hSw); go_simp)
    case qa_1 =>
      (try simp only [Act.put]); (try simp only [List.setIfInBounds_toArray])
      refine wpAnyH_take (i := 1) (v := (.pointer (some ⟨g, i * 7, none⟩))) rfl (by kernel_rfl) (by kernel_rfl) (by kernel_rfl) (fun _ _ _ h => h) (Or.inl ⟨by rfl, ?ya_2⟩) (by assumption) ?qa_2
      case ya_2 => (intro w hSw; (try dsimp only at hSw); go_simp)
      case qa_2 =>
        (try simp only [Act.put]); (try simp only [List.setIfInBounds_toArray])
        refine wpAnyH_take (i := 2) (v := (.pointer (some ⟨g, i * 7, none⟩))) rfl (by kernel_rfl) (by kernel_rfl) (by kernel_rfl) (fun _ _ _ h => h) (Or.inl ⟨by rfl, ?ya_3⟩) (by assumption) ?qa_3
        case ya_3 => (intro w hSw; (try dsimp only at hSw); go_simp)
        case qa_3 =>
          (try simp only [Act.put]); (try simp only [List.setIfInBounds_toArray])
          refine wpAnyH_take (i := 3) (v := (.pointer (some ⟨g, i * 7 + 4, none⟩))) rfl (by kernel_rfl) (by kernel_rfl) (by kernel_rfl) (fun _ _ _ h => h) (Or.inl ⟨by rfl, ?ya_4⟩) (by assumption) ?qa_4
          case ya_4 => (intro w hSw; (try dsimp only at hSw); go_simp)
          case qa_4 =>
            (try simp only [Act.put]); (try simp only [List.setIfInBounds_toArray])
            refine wpAnyH_take (i := 4) (v := (.slice A cm cm)) rfl (by kernel_rfl) (by kernel_rfl) (by kernel_rfl) (fun _ _ _ h => h) (Or.inl ⟨by rfl, ?ya_5⟩) (by assumption) ?qa_5
            case ya_5 => (intro w hSw; (try dsimp only at hSw); go_simp)
            case qa_5 =>
              (try simp only [Act.put]); (try simp only [List.setIfInBounds_toArray])
              refine wpAnyH_take (i := 5) (v := (.int .i64 k)) rfl (by kernel_rfl) (by kernel_rfl) (by kernel_rfl) (fun _ _ _ h => h) (Or.inl ⟨by rfl, ?ya_6⟩) (by assumption) ?qa_6
              case ya_6 => (intro w hSw; (try dsimp only at hSw); go_simp)
              case qa_6 =>
                (try simp only [Act.put]); (try simp only [List.setIfInBounds_toArray])
                refine wpAnyH_take (i := 6) (v := (.string name)) rfl (by kernel_rfl) (by kernel_rfl) (by kernel_rfl) (fun _ _ _ h => h) (Or.inl ⟨by rfl, ?ya_7⟩) (by assumption) ?qa_7
                case ya_7 => (intro w hSw; (try dsimp only at hSw); go_simp)
                case qa_7 =>
                  (try simp only [Act.put]); (try simp only [List.setIfInBounds_toArray])
                  refine wpAnyH_take (i := 7) (v := (.agg #[.string name, .string ⟨#[]⟩])) rfl (by kernel_rfl) (by kernel_rfl) (by kernel_rfl) (fun _ _ _ h => h) (Or.inl ⟨by rfl, ?ya_8⟩) (by assumption) ?qa_8
                  case ya_8 => (intro w hSw; (try dsimp only at hSw); go_simp)
                  case qa_8 =>
                    (try simp only [Act.put]); (try simp only [List.setIfInBounds_toArray])
                    refine wpAnyH_ready (rs := [8]) (by kernel_rfl) (by simp) ?_
                    refine AllReadyH.cons rfl (fun K hK => ?sa_9) ?ma_9
                    case sa_9 =>
                      (refine step_slice _ (by rfl) 94 #[.string name, .string ⟨#[]⟩] 1 (by go_simp) ?_; intro g8 Y8 hx8 hb8 hs8; replace HBW := Lib.hid (HBW.out.trans (hb8.mono HBW.out.size)); have H8 := Lib.hid hx8; clear hx8 hb8 hs8)
                      refine hK.out _ _ ?ka_9 (fun hHeld => ?qa_9)
                      case ka_9 => ((try dsimp only); exact HSS.out _ HBW.out)
                      case qa_9 =>
                        clear hK K
                        (try simp only [Act.put]); (try simp only [List.setIfInBounds_toArray])
                        refine wpAnyH_ready (rs := [9]) (by kernel_rfl) (by simp) ?_
                        refine AllReadyH.cons rfl (fun K hK => ?sa_10) ?ma_10
                        case sa_10 =>
                          (refine step_call _ (by rfl) 65 #[.slice A cm cm, .int .i64 k, .slice (some ⟨g8, 0, none⟩) 1 1] (by go_simp) (HIns.out _ HBW.out g8 H8.out) ?_; rintro e Y9 ⟨A9, c9, rfl, ho9, hb9⟩; refine ⟨_, rfl, ?_⟩; have HO9 := Lib.hid (own_mono ho9 HBW.out.size); replace HBW := Lib.hid (HBW.out.trans (hb9.mono HBW.out.size)); clear ho9 hb9)
                          refine hK.out _ _ ?ka_10 (fun hHeld => ?qa_10)
                          case ka_10 => ((try dsimp only); exact HSS.out _ HBW.out)
                          case qa_10 =>
                            clear hK K
                            (try simp only [Act.put]); (try simp only [List.setIfInBounds_toArray])
                            refine wpAnyH_done (by kernel_rfl) ?_ _
                            obtain ⟨q1, q2, q3⟩ := hHeld
                            show wpList _ _ _ _ _ _
                            obtain ⟨gp, cs9, hA9, hgp9, hgB9, hc9a, hc9b, _⟩ := own_cell1 ⟨_, HO9.out⟩ (by omega)
                            subst hA9
                            have HG9 := Lib.hid hgp9
                            have HQ1 := Lib.hid q1
                            clear hgp9
                            go_upto_region 3 with fail
                            have hmemO := List.mem_of_getElem? HPP.out
                            have hOY := HO.out.after HBW.out
                            have hlY := hOY.leaf _ hmemO
                            have hgB : w.heap.size ≤ gp := Nat.le_trans HX.out.size hgB9
                            have hsz1 : SzN { nd0 with props := insL nd0.props k (name, ⟨#[]⟩) } := ⟨HLF.out.sz.con, HLF.out.sz.role, fun x hx => by
                                rcases insL_mem hx with rfl | hx
                                · exact ⟨HSN.out, Nat.zero_le _⟩
                                · exact HLF.out.sz.props x hx, HLF.out.sz.refs⟩
                            have hln1 : (insL nd0.props k (name, (⟨#[]⟩ : ByteArray))).length = cm + 1 := by rw [insL_length _ _ _ (by omega)]; omega
                            have hnl1 : OwnLeaf Y9 w.heap.size { nd0 with props := insL nd0.props k (name, ⟨#[]⟩) } ⟨⟨some ⟨gp, 0, none⟩, cm + 1, c9⟩, K, R⟩ := ⟨hln1.symm, hlY.kn, hlY.rn, own_mono HO9.out HX.out.size, hlY.k, hlY.r, hsz1⟩
                            have HOW := Lib.hid (hOY.store (u := .slice (some ⟨gp, 0, none⟩) (cm + 1) c9) (q := ({ nd0 with props := insL nd0.props k (name, ⟨#[]⟩) }, ⟨⟨some ⟨gp, 0, none⟩, cm + 1, c9⟩, K, R⟩)) HLN.out HPP.out (j := 4) (by decide) rfl hnl1)
                            have HXW := Lib.hid ((HX.out.trans (HBW.out.mono HX.out.size)).setCell (p := ⟨g, i * 7 + 4, none⟩) hwg (.slice (some ⟨gp, 0, none⟩) (cm + 1) c9))
                            have hne : gp ≠ g := by have := HGX.out; omega
                            have hgW : Blk (Y9.setCell ⟨g, i * 7 + 4, none⟩ (.slice (some ⟨gp, 0, none⟩) (cm + 1) c9)) gp 94 cs9 := HG9.out.far hne _
                            have HBK : Hid (∀ gb cs, Blk X gb 26 cs → Blk (Y9.setCell ⟨g, i * 7 + 4, none⟩ (.slice (some ⟨gp, 0, none⟩) (cm + 1) c9)) gb 26 cs ∧ gb ≠ gp) := Lib.hid fun gb cs h => ⟨(h.after HBW.out).far ((h.after HBW.out).ne_ (HGN.out.after HBW.out) (by decide)) _, ((h.after HBW.out).ne_ HG9.out (by decide))⟩
                            have hvv : (Y9.setCell ⟨g, i * 7 + 4, none⟩ (.slice (some ⟨gp, 0, none⟩) (cm + 1) c9)).cell? ⟨bv, 0, none⟩ = some (.string val) := (((HBV.out.after HBW.out).far (p := ⟨g, i * 7 + 4, none⟩) ((HBV.out.after HBW.out).ne_ (HGN.out.after HBW.out) (by decide)) _).cell 0).trans rfl
                            have hcc : (Y9.setCell ⟨g, i * 7 + 4, none⟩ (.slice (some ⟨gp, 0, none⟩) (cm + 1) c9)).cell? ⟨g, i * 7 + 4, none⟩ = some (.slice (some ⟨gp, 0, none⟩) (cm + 1) c9) := (HOW.out.cellOf (i := i) (by rw [List.length_set]; exact HLN.out) (getElem?_set_same HPP.out _) (j := 4) (by decide) rfl).1
                            have hcz : (Y9.setCell ⟨g, i * 7 + 4, none⟩ (.slice (some ⟨gp, 0, none⟩) (cm + 1) c9)).cell? ⟨gp, k * 2 + 1, none⟩ = some (.string ⟨#[]⟩) := by
                              have h1 := (World.ownsRow.cells (g := gp) HO9.out rfl) (k * 2 + 1) (.string ⟨#[]⟩) (by rw [propCells, flatN_get (s := 2) (fun _ => rfl) (insL nd0.props k (name, (⟨#[]⟩ : ByteArray))) k (name, ⟨#[]⟩) (insL_get _ _ _ (by omega)) 1 (by decide)]; rfl)
                              rw [Addr.add_lit, Nat.zero_add, HG9.out.cell] at h1
                              rw [hgW.cell, h1]
                            have HW1 : Hid ((Y9.setCell ⟨g, i * 7 + 4, none⟩ (.slice (some ⟨gp, 0, none⟩) (cm + 1) c9)).drew.cell? ⟨g, i * 7 + 4, none⟩ = some (.slice (some ⟨gp, 0, none⟩) (cm + 1) c9) ∧ (Y9.setCell ⟨g, i * 7 + 4, none⟩ (.slice (some ⟨gp, 0, none⟩) (cm + 1) c9)).drew.cell? ⟨bv, 0, none⟩ = some (.string val) ∧ (Y9.setCell ⟨g, i * 7 + 4, none⟩ (.slice (some ⟨gp, 0, none⟩) (cm + 1) c9)).drew.cell? ⟨gp, k * 2 + 1, none⟩ = some (.string ⟨#[]⟩) ∧ (Y9.setCell ⟨g, i * 7 + 4, none⟩ (.slice (some ⟨gp, 0, none⟩) (cm + 1) c9)).drew.frozen? ⟨gp, k * 2 + 1, none⟩ = false) := Lib.hid ⟨hcc, hvv, hcz, hgW.frozen _⟩
                            have HAP : Hid (∀ (j : Nat) q, j ≠ i → (l.set i ({ nd0 with props := insL nd0.props k (name, ⟨#[]⟩) }, ⟨⟨some ⟨gp, 0, none⟩, cm + 1, c9⟩, K, R⟩))[j]? = some q → NoClash ⟨some ⟨gp, 0, none⟩, cm + 1, c9⟩ q.2.p) := Lib.hid fun j q hj hq g1 h1 h2 => by
                              rw [List.getElem?_set_ne (fun e => hj e.symm)] at hq
                              have h3 := own_lt (HO.out.leaf q (List.mem_of_getElem? hq)).p h2
                              have h4 : gp = g1 := by simpa [Sl.v, Value.ownBlock] using h1
                              omega
                            have HKV : Hid ((insL nd0.props k (name, (⟨#[]⟩ : ByteArray)))[k]? = some (name, ⟨#[]⟩)) := Lib.hid (insL_get _ _ _ (by omega))
                            clear hmemO hOY hlY hsz1 hln1 hnl1 hgW hvv hcc hcz q1 q2 q3 HQ1
                            generalize Y9.setCell ⟨g, i * 7 + 4, none⟩ (.slice (some ⟨gp, 0, none⟩) (cm + 1) c9) = W at HOW HXW HBK HW1 ⊢
                            have hkm : k < cm + 1 := by omega
                            have hki : ¬ (cm : Int) + 1 ≤ (k : Int) := by omega
                            refine wp_region_held_tail 8 (fun Y => Y.cell? ⟨g, i * 7 + 4, none⟩ = some (.slice (some ⟨gp, 0, none⟩) (cm + 1) c9) ∧ Y.cell? ⟨bv, 0, none⟩ = some (.string val) ∧ Y.cell? ⟨gp, k * 2 + 1, none⟩ = some (.string ⟨#[]⟩) ∧ Y.frozen? ⟨gp, k * 2 + 1, none⟩ = false) (by kernel_rfl) (by kernel_rfl) HW1.out (fun hHeld => ?qr0)
                            case qr0 =>
                              simp only [List.take_succ_cons, List.take_zero, List.drop_succ_cons, List.drop_zero]
                              refine wpAnyH_take (i := 0) (v := (.pointer (some ⟨g, i * 7, none⟩))) rfl (by kernel_rfl) (by kernel_rfl) (by kernel_rfl) (fun _ _ _ h => h) (Or.inl ⟨by rfl, ?yr_1⟩) (by assumption) ?qr_1
                              case yr_1 => (intro w hSw; (try dsimp only at hSw); go_simp)
                              case qr_1 =>
                                (try simp only [Act.put]); (try simp only [List.setIfInBounds_toArray])
                                refine wpAnyH_take (i := 1) (v := (.pointer (some ⟨g, i * 7, none⟩))) rfl (by kernel_rfl) (by kernel_rfl) (by kernel_rfl) (fun _ _ _ h => h) (Or.inl ⟨by rfl, ?yr_2⟩) (by assumption) ?qr_2
                                case yr_2 => (intro w hSw; (try dsimp only at hSw); go_simp)
                                case qr_2 =>
                                  (try simp only [Act.put]); (try simp only [List.setIfInBounds_toArray])
                                  refine wpAnyH_take (i := 2) (v := (.pointer (some ⟨g, i * 7 + 4, none⟩))) rfl (by kernel_rfl) (by kernel_rfl) (by kernel_rfl) (fun _ _ _ h => h) (Or.inl ⟨by rfl, ?yr_3⟩) (by assumption) ?qr_3
                                  case yr_3 => (intro w hSw; (try dsimp only at hSw); go_simp)
                                  case qr_3 =>
                                    (try simp only [Act.put]); (try simp only [List.setIfInBounds_toArray])
                                    refine wpAnyH_take (i := 3) (v := (.slice (some ⟨gp, 0, none⟩) (cm + 1) c9)) rfl (by kernel_rfl) (by kernel_rfl) (by kernel_rfl) (fun _ _ _ h => h) (Or.inl ⟨by rfl, ?yr_4⟩) (by assumption) ?qr_4
                                    case yr_4 => (intro w hSw; (try dsimp only at hSw); go_simp)
                                    case qr_4 =>
                                      (try simp only [Act.put]); (try simp only [List.setIfInBounds_toArray])
                                      refine wpAnyH_take (i := 4) (v := (.int .i64 k)) rfl (by kernel_rfl) (by kernel_rfl) (by kernel_rfl) (fun _ _ _ h => h) (Or.inl ⟨by rfl, ?yr_5⟩) (by assumption) ?qr_5
                                      case yr_5 => (intro w hSw; (try dsimp only at hSw); go_simp)
                                      case qr_5 =>
                                        (try simp only [Act.put]); (try simp only [List.setIfInBounds_toArray])
                                        refine wpAnyH_take (i := 5) (v := (.string val)) rfl (by kernel_rfl) (by kernel_rfl) (by kernel_rfl) (fun _ _ _ h => h) (Or.inl ⟨by rfl, ?yr_6⟩) (by assumption) ?qr_6
                                        case yr_6 => (intro w hSw; (try dsimp only at hSw); go_simp)
                                        case qr_6 =>
                                          (try simp only [Act.put]); (try simp only [List.setIfInBounds_toArray])
                                          refine wpAnyH_take (i := 6) (v := (.pointer (some ⟨gp, k * 2, none⟩))) rfl (by kernel_rfl) (by kernel_rfl) (by kernel_rfl) (fun _ _ _ h => h) (Or.inl ⟨by rfl, ?yr_7⟩) (by assumption) ?qr_7
                                          case yr_7 => (intro w hSw; (try dsimp only at hSw); go_simp)
                                          case qr_7 =>
                                            (try simp only [Act.put]); (try simp only [List.setIfInBounds_toArray])
                                            refine wpAnyH_take (i := 7) (v := (.pointer (some ⟨gp, k * 2 + 1, none⟩))) rfl (by kernel_rfl) (by kernel_rfl) (by kernel_rfl) (fun _ _ _ h => h) (Or.inl ⟨by rfl, ?yr_8⟩) (by assumption) ?qr_8
                                            case yr_8 => (intro w hSw; (try dsimp only at hSw); go_simp)
                                            case qr_8 =>
                                              (try simp only [Act.put]); (try simp only [List.setIfInBounds_toArray])
                                              refine wpAnyH_done (by kernel_rfl) ?_ _
                                              obtain ⟨q1, q2, q3, q4⟩ := hHeld
                                              show wpList _ _ _ _ _ _
                                              go_wp2_with fail
                                              refine bodyPost_end (results_none (by kernel_rfl) _ _ _) rfl ?_
                                              obtain ⟨hoL, hgr⟩ := put_last (val := val) (k := k) HOW.out (getElem?_set_same HPP.out _) HAP.out HKV.out hv
                                              refine ⟨rfl, _, hoL, by rw [List.map_set, List.map_set, List.set_set, HMF.out], ?_, fun gb cs h => ?_⟩
                                              · exact (HXW.out.trans ((below_drew1 W).mono HXW.out.size)).setCell (p := ⟨gp, k * 2 + 1, none⟩) hgB _
                                              · obtain ⟨h2, h3⟩ := HBK.out gb cs h
                                                exact h2.grown hgr (by simpa using h3)
                            
                        case ma_10 =>
                          exact AllReadyH.nil
                    case ma_9 =>
                      exact AllReadyH.nil
set_option maxRecDepth 20000 in
set_option maxHeartbeats 3200000 in
theorem aim_new (w : World) (n : Nat) (nd : Nd) (bn bv : Nat) (name : ByteArray) (val : Int)  (hb : Blk w bn 9 #[.string name]) (hbv : Blk w bv 3 #[.int .i64 val]) (hs : SortS (nd.refs.map (·.1))) (hfit : Fits 1 nd)
    (hfd : foundS (nd.refs.map (·.1)) name = false) (hsn : name.size ≤ maxLen) : Change w n 66 #[.pointer (some ⟨bn, 0, none⟩), .pointer (some ⟨bv, 0, none⟩)] nd (aimN nd name val) := by
  intro X g i l p hO hD hln hp hp1 hX
  show Calls _ _ #[.pointer (some ⟨g, i * 7, none⟩), .pointer (some ⟨bn, 0, none⟩), .pointer (some ⟨bv, 0, none⟩)] X _
  obtain ⟨nd0, ⟨K, R, ⟨A, m, cm⟩⟩⟩ := p
  obtain rfl : nd0 = nd := hp1
  have hmem := List.mem_of_getElem? hp
  have hbn := hb.after hX
  have hbw := hbv.after hX
  have hleaf := hO.leaf _ hmem
  have htg := hD.tight _ hmem
  obtain rfl : cm = m := htg.rc
  obtain ⟨c4, f4⟩ := hO.cellOf hln hp (j := 6) (by decide) rfl
  have hrow := (own_row hleaf.r).mono (Nat.zero_le _) (Nat.le_refl X.heap.size)
  dsimp only at hleaf htg c4 hrow
  have hnl : cm = nd0.refs.length := hleaf.rn
  have hpf := hfit.r
  have HP := Lib.hid (rAt_any X X.heap.size g (i * 7) A cm cm nd0.refs name c4 hrow (Nat.le_refl _) hs (by omega))
  have c0 := (hbn.cell 0).trans (show _ = some (.string name) from rfl)
  have v0 := (hbw.cell 0).trans (show _ = some (.int .i64 val) from rfl)
  have hgX : g < X.heap.size := by
    have h1 := hO.own
    unfold OwnN at h1
    rw [hln] at h1
    obtain ⟨cs, hg, _, _⟩ := own_blk h1
    exact hg.lt
  rw [hfd] at HP
  have hN : (aimN nd0 name val) = { nd0 with refs := insL nd0.refs (rankS (nd0.refs.map (·.1)) name) (name, val) } := by unfold aimN; rw [if_neg (by rw [hfd]; decide)]
  rw [hN]
  have hkl : rankS (nd0.refs.map (·.1)) name ≤ nd0.refs.length := by
    have := List.countP_le_length (p := fun k => ltS k name) (l := nd0.refs.map (·.1))
    rw [List.length_map] at this
    exact this
  clear hN
  generalize rankS (nd0.refs.map (·.1)) name = k at HP hkl ⊢
  have hlp : X.ownsRow w.heap.size 60 2 (.slice A cm cm) cm (refCells nd0.refs) := hleaf.r
  have HIns := Lib.hid fun (Y : World) (hY : Below X.heap.size X Y) (gv : Nat) (hgv : Blk Y gv 60 #[.string name, .int .i64 0]) => insRef_any Y w.heap.size A cm k gv nd0.refs name (own_after hlp hY) hnl.symm htg.r0 (by omega) hgv (by rw [hnl]; exact hpf)
  have HSS := Lib.hid fun (Y : World) (hY : Below X.heap.size X Y) => show Y.cell? ⟨g, i * 7 + 6, none⟩ = some (.slice A cm cm) ∧ Y.frozen? ⟨g, i * 7 + 6, none⟩ = false ∧ Y.cell? ⟨bn, 0, none⟩ = some (.string name) from
    ⟨(hY.cell (p := ⟨g, i * 7 + 6, none⟩) hgX).trans c4, (hY.frozen (p := ⟨g, i * 7 + 6, none⟩) hgX).trans f4, (hY.cell (p := ⟨bn, 0, none⟩) hbn.lt).trans c0⟩
  obtain ⟨hwg, csN, hgN⟩ : w.heap.size ≤ g ∧ ∃ csN, Blk X g 41 csN := by
    have h1 := hO.own
    unfold OwnN at h1
    rw [hln] at h1
    obtain ⟨cs, hg, h2, _⟩ := own_blk h1
    exact ⟨h2, cs, hg⟩
  have hmf : ({ nd0 with refs := (insL nd0.refs k (name, (0 : Int))).set k (name, val) } : Nd) = { nd0 with refs := insL nd0.refs k (name, val) } := by rw [insL_set _ _ _ _ hkl]
  have HO := Lib.hid hO
  have HX := Lib.hid hX
  have HPP := Lib.hid hp
  have HLF := Lib.hid hleaf
  have HLN := Lib.hid hln
  have HGN := Lib.hid hgN
  have HBV := Lib.hid hbw
  have HMF := Lib.hid hmf
  have HSN := Lib.hid hsn
  have HGX := Lib.hid hgX
  have HNL := Lib.hid hnl
  have hkc : k ≤ cm := by omega
  have hcl : cm ≤ nd0.refs.length := by omega
  have hlc : nd0.refs.length ≤ cm := by omega
  clear hO hX hp hD hleaf hs hfd htg hrow hmem hb hbv hbn hbw hlp hgN hfit hpf hmf hkl hnl v0 hln
  go_enter Tryz.func66, Tryz.ntmps66
  go_upto_region 2 with (go_at_call 67; go_must (refine HP.out.mono ?_; rintro e w2 ⟨rfl, hb2⟩; have HBW := Lib.hid (hb2.trans ((below_drew1 w2).mono hb2.size)); clear hb2))
  refine wp_region_held_tail 10 (fun Y => Y.cell? ⟨g, i * 7 + 6, none⟩ = some (.slice A cm cm) ∧ Y.frozen? ⟨g, i * 7 + 6, none⟩ = false ∧ Y.cell? ⟨bn, 0, none⟩ = some (.string name)) (by kernel_rfl) (by kernel_rfl) (HSS.out _ HBW.out) (fun hHeld => ?qa0)
  case qa0 =>
    simp only [List.take_succ_cons, List.take_zero, List.drop_succ_cons, List.drop_zero]
    refine wpAnyH_take (i := 0) (v := (.pointer (some ⟨g, i * 7, none⟩))) rfl (by kernel_rfl) (by kernel_rfl) (by kernel_rfl) (fun _ _ _ h => h) (Or.inl ⟨by rfl, ?ya_1⟩) (by assumption) ?qa_1
    case ya_1 => (intro w hSw; (try dsimp only at hSw); go_simp)
    case qa_1 =>
      (try simp only [Act.put]); (try simp only [List.setIfInBounds_toArray])
      refine wpAnyH_take (i := 1) (v := (.pointer (some ⟨g, i * 7, none⟩))) rfl (by kernel_rfl) (by kernel_rfl) (by kernel_rfl) (fun _ _ _ h => h) (Or.inl ⟨by rfl, ?ya_2⟩) (by assumption) ?qa_2
      case ya_2 => (intro w hSw; (try dsimp only at hSw); go_simp)
      case qa_2 =>
        (try simp only [Act.put]); (try simp only [List.setIfInBounds_toArray])
        refine wpAnyH_take (i := 2) (v := (.pointer (some ⟨g, i * 7, none⟩))) rfl (by kernel_rfl) (by kernel_rfl) (by kernel_rfl) (fun _ _ _ h => h) (Or.inl ⟨by rfl, ?ya_3⟩) (by assumption) ?qa_3
        case ya_3 => (intro w hSw; (try dsimp only at hSw); go_simp)
        case qa_3 =>
          (try simp only [Act.put]); (try simp only [List.setIfInBounds_toArray])
          refine wpAnyH_take (i := 3) (v := (.pointer (some ⟨g, i * 7 + 6, none⟩))) rfl (by kernel_rfl) (by kernel_rfl) (by kernel_rfl) (fun _ _ _ h => h) (Or.inl ⟨by rfl, ?ya_4⟩) (by assumption) ?qa_4
          case ya_4 => (intro w hSw; (try dsimp only at hSw); go_simp)
          case qa_4 =>
            (try simp only [Act.put]); (try simp only [List.setIfInBounds_toArray])
            refine wpAnyH_take (i := 4) (v := (.slice A cm cm)) rfl (by kernel_rfl) (by kernel_rfl) (by kernel_rfl) (fun _ _ _ h => h) (Or.inl ⟨by rfl, ?ya_5⟩) (by assumption) ?qa_5
            case ya_5 => (intro w hSw; (try dsimp only at hSw); go_simp)
            case qa_5 =>
              (try simp only [Act.put]); (try simp only [List.setIfInBounds_toArray])
              refine wpAnyH_take (i := 5) (v := (.int .i64 k)) rfl (by kernel_rfl) (by kernel_rfl) (by kernel_rfl) (fun _ _ _ h => h) (Or.inl ⟨by rfl, ?ya_6⟩) (by assumption) ?qa_6
              case ya_6 => (intro w hSw; (try dsimp only at hSw); go_simp)
              case qa_6 =>
                (try simp only [Act.put]); (try simp only [List.setIfInBounds_toArray])
                refine wpAnyH_take (i := 6) (v := (.string name)) rfl (by kernel_rfl) (by kernel_rfl) (by kernel_rfl) (fun _ _ _ h => h) (Or.inl ⟨by rfl, ?ya_7⟩) (by assumption) ?qa_7
                case ya_7 => (intro w hSw; (try dsimp only at hSw); go_simp)
                case qa_7 =>
                  (try simp only [Act.put]); (try simp only [List.setIfInBounds_toArray])
                  refine wpAnyH_take (i := 7) (v := (.agg #[.string name, .int .i64 0])) rfl (by kernel_rfl) (by kernel_rfl) (by kernel_rfl) (fun _ _ _ h => h) (Or.inl ⟨by rfl, ?ya_8⟩) (by assumption) ?qa_8
                  case ya_8 => (intro w hSw; (try dsimp only at hSw); go_simp)
                  case qa_8 =>
                    (try simp only [Act.put]); (try simp only [List.setIfInBounds_toArray])
                    refine wpAnyH_ready (rs := [8]) (by kernel_rfl) (by simp) ?_
                    refine AllReadyH.cons rfl (fun K hK => ?sa_9) ?ma_9
                    case sa_9 =>
                      (refine step_slice _ (by rfl) 60 #[.string name, .int .i64 0] 1 (by go_simp) ?_; intro g8 Y8 hx8 hb8 hs8; replace HBW := Lib.hid (HBW.out.trans (hb8.mono HBW.out.size)); have H8 := Lib.hid hx8; clear hx8 hb8 hs8)
                      refine hK.out _ _ ?ka_9 (fun hHeld => ?qa_9)
                      case ka_9 => ((try dsimp only); exact HSS.out _ HBW.out)
                      case qa_9 =>
                        clear hK K
                        (try simp only [Act.put]); (try simp only [List.setIfInBounds_toArray])
                        refine wpAnyH_ready (rs := [9]) (by kernel_rfl) (by simp) ?_
                        refine AllReadyH.cons rfl (fun K hK => ?sa_10) ?ma_10
                        case sa_10 =>
                          (refine step_call _ (by rfl) 68 #[.slice A cm cm, .int .i64 k, .slice (some ⟨g8, 0, none⟩) 1 1] (by go_simp) (HIns.out _ HBW.out g8 H8.out) ?_; rintro e Y9 ⟨A9, c9, rfl, ho9, hb9⟩; refine ⟨_, rfl, ?_⟩; have HO9 := Lib.hid (own_mono ho9 HBW.out.size); replace HBW := Lib.hid (HBW.out.trans (hb9.mono HBW.out.size)); clear ho9 hb9)
                          refine hK.out _ _ ?ka_10 (fun hHeld => ?qa_10)
                          case ka_10 => ((try dsimp only); exact HSS.out _ HBW.out)
                          case qa_10 =>
                            clear hK K
                            (try simp only [Act.put]); (try simp only [List.setIfInBounds_toArray])
                            refine wpAnyH_done (by kernel_rfl) ?_ _
                            obtain ⟨q1, q2, q3⟩ := hHeld
                            show wpList _ _ _ _ _ _
                            obtain ⟨gp, cs9, hA9, hgp9, hgB9, hc9a, hc9b, _⟩ := own_cell1 ⟨_, HO9.out⟩ (by omega)
                            subst hA9
                            have HG9 := Lib.hid hgp9
                            have HQ1 := Lib.hid q1
                            clear hgp9
                            go_upto_region 3 with fail
                            have hmemO := List.mem_of_getElem? HPP.out
                            have hOY := HO.out.after HBW.out
                            have hlY := hOY.leaf _ hmemO
                            have hgB : w.heap.size ≤ gp := Nat.le_trans HX.out.size hgB9
                            have hsz1 : SzN { nd0 with refs := insL nd0.refs k (name, 0) } := ⟨HLF.out.sz.con, HLF.out.sz.role, HLF.out.sz.props, fun x hx => by
                                rcases insL_mem hx with rfl | hx
                                · exact HSN.out
                                · exact HLF.out.sz.refs x hx⟩
                            have hln1 : (insL nd0.refs k (name, (0 : Int))).length = cm + 1 := by rw [insL_length _ _ _ (by omega)]; omega
                            have hnl1 : OwnLeaf Y9 w.heap.size { nd0 with refs := insL nd0.refs k (name, 0) } ⟨K, R, ⟨some ⟨gp, 0, none⟩, cm + 1, c9⟩⟩ := ⟨hlY.pn, hlY.kn, hln1.symm, hlY.p, hlY.k, own_mono HO9.out HX.out.size, hsz1⟩
                            have HOW := Lib.hid (hOY.store (u := .slice (some ⟨gp, 0, none⟩) (cm + 1) c9) (q := ({ nd0 with refs := insL nd0.refs k (name, 0) }, ⟨K, R, ⟨some ⟨gp, 0, none⟩, cm + 1, c9⟩⟩)) HLN.out HPP.out (j := 6) (by decide) rfl hnl1)
                            have HXW := Lib.hid ((HX.out.trans (HBW.out.mono HX.out.size)).setCell (p := ⟨g, i * 7 + 6, none⟩) hwg (.slice (some ⟨gp, 0, none⟩) (cm + 1) c9))
                            have hne : gp ≠ g := by have := HGX.out; omega
                            have hgW : Blk (Y9.setCell ⟨g, i * 7 + 6, none⟩ (.slice (some ⟨gp, 0, none⟩) (cm + 1) c9)) gp 60 cs9 := HG9.out.far hne _
                            have HBK : Hid (∀ gb cs, Blk X gb 26 cs → Blk (Y9.setCell ⟨g, i * 7 + 6, none⟩ (.slice (some ⟨gp, 0, none⟩) (cm + 1) c9)) gb 26 cs ∧ gb ≠ gp) := Lib.hid fun gb cs h => ⟨(h.after HBW.out).far ((h.after HBW.out).ne_ (HGN.out.after HBW.out) (by decide)) _, ((h.after HBW.out).ne_ HG9.out (by decide))⟩
                            have hvv : (Y9.setCell ⟨g, i * 7 + 6, none⟩ (.slice (some ⟨gp, 0, none⟩) (cm + 1) c9)).cell? ⟨bv, 0, none⟩ = some (.int .i64 val) := (((HBV.out.after HBW.out).far (p := ⟨g, i * 7 + 6, none⟩) ((HBV.out.after HBW.out).ne_ (HGN.out.after HBW.out) (by decide)) _).cell 0).trans rfl
                            have hcc : (Y9.setCell ⟨g, i * 7 + 6, none⟩ (.slice (some ⟨gp, 0, none⟩) (cm + 1) c9)).cell? ⟨g, i * 7 + 6, none⟩ = some (.slice (some ⟨gp, 0, none⟩) (cm + 1) c9) := (HOW.out.cellOf (i := i) (by rw [List.length_set]; exact HLN.out) (getElem?_set_same HPP.out _) (j := 6) (by decide) rfl).1
                            have hcz : (Y9.setCell ⟨g, i * 7 + 6, none⟩ (.slice (some ⟨gp, 0, none⟩) (cm + 1) c9)).cell? ⟨gp, k * 2 + 1, none⟩ = some (.int .i64 0) := by
                              have h1 := (World.ownsRow.cells (g := gp) HO9.out rfl) (k * 2 + 1) (.int .i64 0) (by rw [refCells, flatN_get (s := 2) (fun _ => rfl) (insL nd0.refs k (name, (0 : Int))) k (name, 0) (insL_get _ _ _ (by omega)) 1 (by decide)]; rfl)
                              rw [Addr.add_lit, Nat.zero_add, HG9.out.cell] at h1
                              rw [hgW.cell, h1]
                            have HW1 : Hid ((Y9.setCell ⟨g, i * 7 + 6, none⟩ (.slice (some ⟨gp, 0, none⟩) (cm + 1) c9)).drew.cell? ⟨g, i * 7 + 6, none⟩ = some (.slice (some ⟨gp, 0, none⟩) (cm + 1) c9) ∧ (Y9.setCell ⟨g, i * 7 + 6, none⟩ (.slice (some ⟨gp, 0, none⟩) (cm + 1) c9)).drew.cell? ⟨bv, 0, none⟩ = some (.int .i64 val) ∧ (Y9.setCell ⟨g, i * 7 + 6, none⟩ (.slice (some ⟨gp, 0, none⟩) (cm + 1) c9)).drew.cell? ⟨gp, k * 2 + 1, none⟩ = some (.int .i64 0) ∧ (Y9.setCell ⟨g, i * 7 + 6, none⟩ (.slice (some ⟨gp, 0, none⟩) (cm + 1) c9)).drew.frozen? ⟨gp, k * 2 + 1, none⟩ = false) := Lib.hid ⟨hcc, hvv, hcz, hgW.frozen _⟩
                            have HAP : Hid (∀ (j : Nat) q, j ≠ i → (l.set i ({ nd0 with refs := insL nd0.refs k (name, 0) }, ⟨K, R, ⟨some ⟨gp, 0, none⟩, cm + 1, c9⟩⟩))[j]? = some q → NoClash ⟨some ⟨gp, 0, none⟩, cm + 1, c9⟩ q.2.r) := Lib.hid fun j q hj hq g1 h1 h2 => by
                              rw [List.getElem?_set_ne (fun e => hj e.symm)] at hq
                              have h3 := own_lt (HO.out.leaf q (List.mem_of_getElem? hq)).r h2
                              have h4 : gp = g1 := by simpa [Sl.v, Value.ownBlock] using h1
                              omega
                            have HKV : Hid ((insL nd0.refs k (name, (0 : Int)))[k]? = some (name, 0)) := Lib.hid (insL_get _ _ _ (by omega))
                            clear hmemO hOY hlY hsz1 hln1 hnl1 hgW hvv hcc hcz q1 q2 q3 HQ1
                            generalize Y9.setCell ⟨g, i * 7 + 6, none⟩ (.slice (some ⟨gp, 0, none⟩) (cm + 1) c9) = W at HOW HXW HBK HW1 ⊢
                            have hkm : k < cm + 1 := by omega
                            have hki : ¬ (cm : Int) + 1 ≤ (k : Int) := by omega
                            refine wp_region_held_tail 8 (fun Y => Y.cell? ⟨g, i * 7 + 6, none⟩ = some (.slice (some ⟨gp, 0, none⟩) (cm + 1) c9) ∧ Y.cell? ⟨bv, 0, none⟩ = some (.int .i64 val) ∧ Y.cell? ⟨gp, k * 2 + 1, none⟩ = some (.int .i64 0) ∧ Y.frozen? ⟨gp, k * 2 + 1, none⟩ = false) (by kernel_rfl) (by kernel_rfl) HW1.out (fun hHeld => ?qr0)
                            case qr0 =>
                              simp only [List.take_succ_cons, List.take_zero, List.drop_succ_cons, List.drop_zero]
                              refine wpAnyH_take (i := 0) (v := (.pointer (some ⟨g, i * 7, none⟩))) rfl (by kernel_rfl) (by kernel_rfl) (by kernel_rfl) (fun _ _ _ h => h) (Or.inl ⟨by rfl, ?yr_1⟩) (by assumption) ?qr_1
                              case yr_1 => (intro w hSw; (try dsimp only at hSw); go_simp)
                              case qr_1 =>
                                (try simp only [Act.put]); (try simp only [List.setIfInBounds_toArray])
                                refine wpAnyH_take (i := 1) (v := (.pointer (some ⟨g, i * 7, none⟩))) rfl (by kernel_rfl) (by kernel_rfl) (by kernel_rfl) (fun _ _ _ h => h) (Or.inl ⟨by rfl, ?yr_2⟩) (by assumption) ?qr_2
                                case yr_2 => (intro w hSw; (try dsimp only at hSw); go_simp)
                                case qr_2 =>
                                  (try simp only [Act.put]); (try simp only [List.setIfInBounds_toArray])
                                  refine wpAnyH_take (i := 2) (v := (.pointer (some ⟨g, i * 7 + 6, none⟩))) rfl (by kernel_rfl) (by kernel_rfl) (by kernel_rfl) (fun _ _ _ h => h) (Or.inl ⟨by rfl, ?yr_3⟩) (by assumption) ?qr_3
                                  case yr_3 => (intro w hSw; (try dsimp only at hSw); go_simp)
                                  case qr_3 =>
                                    (try simp only [Act.put]); (try simp only [List.setIfInBounds_toArray])
                                    refine wpAnyH_take (i := 3) (v := (.slice (some ⟨gp, 0, none⟩) (cm + 1) c9)) rfl (by kernel_rfl) (by kernel_rfl) (by kernel_rfl) (fun _ _ _ h => h) (Or.inl ⟨by rfl, ?yr_4⟩) (by assumption) ?qr_4
                                    case yr_4 => (intro w hSw; (try dsimp only at hSw); go_simp)
                                    case qr_4 =>
                                      (try simp only [Act.put]); (try simp only [List.setIfInBounds_toArray])
                                      refine wpAnyH_take (i := 4) (v := (.int .i64 k)) rfl (by kernel_rfl) (by kernel_rfl) (by kernel_rfl) (fun _ _ _ h => h) (Or.inl ⟨by rfl, ?yr_5⟩) (by assumption) ?qr_5
                                      case yr_5 => (intro w hSw; (try dsimp only at hSw); go_simp)
                                      case qr_5 =>
                                        (try simp only [Act.put]); (try simp only [List.setIfInBounds_toArray])
                                        refine wpAnyH_take (i := 5) (v := (.int .i64 val)) rfl (by kernel_rfl) (by kernel_rfl) (by kernel_rfl) (fun _ _ _ h => h) (Or.inl ⟨by rfl, ?yr_6⟩) (by assumption) ?qr_6
                                        case yr_6 => (intro w hSw; (try dsimp only at hSw); go_simp)
                                        case qr_6 =>
                                          (try simp only [Act.put]); (try simp only [List.setIfInBounds_toArray])
                                          refine wpAnyH_take (i := 6) (v := (.pointer (some ⟨gp, k * 2, none⟩))) rfl (by kernel_rfl) (by kernel_rfl) (by kernel_rfl) (fun _ _ _ h => h) (Or.inl ⟨by rfl, ?yr_7⟩) (by assumption) ?qr_7
                                          case yr_7 => (intro w hSw; (try dsimp only at hSw); go_simp)
                                          case qr_7 =>
                                            (try simp only [Act.put]); (try simp only [List.setIfInBounds_toArray])
                                            refine wpAnyH_take (i := 7) (v := (.pointer (some ⟨gp, k * 2 + 1, none⟩))) rfl (by kernel_rfl) (by kernel_rfl) (by kernel_rfl) (fun _ _ _ h => h) (Or.inl ⟨by rfl, ?yr_8⟩) (by assumption) ?qr_8
                                            case yr_8 => (intro w hSw; (try dsimp only at hSw); go_simp)
                                            case qr_8 =>
                                              (try simp only [Act.put]); (try simp only [List.setIfInBounds_toArray])
                                              refine wpAnyH_done (by kernel_rfl) ?_ _
                                              obtain ⟨q1, q2, q3, q4⟩ := hHeld
                                              show wpList _ _ _ _ _ _
                                              go_wp2_with fail
                                              refine bodyPost_end (results_none (by kernel_rfl) _ _ _) rfl ?_
                                              obtain ⟨hoL, hgr⟩ := aim_last (val := val) (k := k) HOW.out (getElem?_set_same HPP.out _) HAP.out HKV.out 
                                              refine ⟨rfl, _, hoL, by rw [List.map_set, List.map_set, List.set_set, HMF.out], ?_, fun gb cs h => ?_⟩
                                              · exact (HXW.out.trans ((below_drew1 W).mono HXW.out.size)).setCell (p := ⟨gp, k * 2 + 1, none⟩) hgB _
                                              · obtain ⟨h2, h3⟩ := HBK.out gb cs h
                                                exact h2.grown hgr (by simpa using h3)
                            
                        case ma_10 =>
                          exact AllReadyH.nil
                    case ma_9 =>
                      exact AllReadyH.nil
end Go.Proofs.YtbkmdlfenbfdlaaGreat
namespace Go.Proofs.YtbkmdlfenbfdlaaGreat
open Go Go.RowKit Go.Sort
set_option linter.unusedVariables false
attribute [local go_sem ↓] Go.wp_at_zero Go.wp_at_succ
/-- the nodes, one of them turned -/
def chL (nds : List Nd) (id : Int) (f : Nd → Nd) : List Nd := match ixOf nds id with | some i => nds.modify i f | none => nds
/-- a model or an error is answered -/
def SetPost (w : World) (next : Int) (er : Int) (nds' : List Nd) (e : Ending) (w' : World) : Prop :=
  ∃ nx A n c, e = .returned (.tuple #[.agg #[.int .i64 nx, .slice A n c], .int .i64 er]) ∧ Below w.heap.size w w' ∧ (er ≠ 0 → nx = 0 ∧ A = none ∧ n = 0 ∧ c = 0) ∧ (er = 0 → nx = next ∧ ∃ l, OwnM w' w.heap.size (.slice A n c) l ∧ l.length = n ∧ l.map (·.1) = nds')
theorem ixOf_get {nds : List Nd} {id : Int} {i : Nat} (h : ixOf nds id = some i) : ∃ nd, nds[i]? = some nd := by
  have hl : i < nds.length := by
    unfold ixOf at h
    exact (List.findIdx?_eq_some_iff_findIdx_eq.1 h).1
  exact ⟨_, List.getElem?_eq_getElem hl⟩
theorem changed_post (w : World) (hi : Nat) (next id told : Int) (A : Option Addr) (n c : Nat) (nds : List Nd) (F : FuncId) (caps : Array Value) (f : Nd → Nd) (h : NodesIn w 0 hi A n c nds) (hh : hi ≤ w.heap.size)
    (hr : told = 0 → Rise nds ∧ n ≤ 4096 ∧ ∀ nd ∈ nds, Fits 1 nd) (hen : ∀ args w, Sem.run Tryz.prog (callFunc F args) w = .ok (.enter F args) w) (hC : told = 0 → ∀ nd ∈ nds, Change w n F caps nd (f nd)) :
    Calls Tryz.prog 62 #[.agg #[.int .i64 next, .slice A n c], .int .i64 id, .int .i64 told, .func (.func F) #[] caps] w (SetPost w next (chE told nds id) (chL nds id f)) := by
  by_cases h0 : told = 0
  · subst h0
    obtain ⟨h1, h2, h3⟩ := hr rfl
    cases hix : ixOf nds id with
    | none =>
      refine (changed_none w hi next id A n c nds F caps h hh h1 h2 hix).mono ?_
      rintro e w' ⟨he, hb⟩
      have hce : chE 0 nds id = 20 := by unfold chE; rw [if_neg (by simp), hix]; rfl
      rw [hce]
      exact ⟨0, none, 0, 0, he, hb, fun _ => ⟨rfl, rfl, rfl, rfl⟩, fun h => absurd h (by decide)⟩
    | some i =>
      obtain ⟨nd, hnd⟩ := ixOf_get hix
      refine (changed_yes w hi next id A n c nds F caps i nd (f nd) h hh h1 h2 h3 hix hnd hen (hC rfl nd (List.mem_of_getElem? hnd))).mono ?_
      rintro e w' ⟨g, l, he, ho, hm, hb⟩
      have hce : chE 0 nds id = 0 := by unfold chE; rw [if_neg (by simp), hix]; rfl
      have hcl : chL nds id f = nds.set i (f nd) := by unfold chL; rw [hix]; exact modify_set hnd
      have hln : l.length = n := by
        have := congrArg List.length hm
        rw [List.length_map, List.length_set, h.1] at this
        exact this
      rw [hce]
      exact ⟨next, some ⟨g, 0, none⟩, n, n, he, hb, fun h => absurd rfl h, fun _ => ⟨rfl, l, ho, hln, by rw [hcl]; exact hm⟩⟩
  · refine (changed_no w hi next id told A n c F caps h0).mono ?_
    rintro e w' ⟨he, hb⟩
    have hce : chE told nds id = told := by unfold chE; rw [if_pos h0]
    rw [hce]
    exact ⟨0, none, 0, 0, he, hb, fun _ => ⟨rfl, rfl, rfl, rfl⟩, fun h => absurd h h0⟩
theorem nameE_zero {next : Int} {nds : List Nd} {name : ByteArray} (h : nameE next nds name = 0) : rightB next nds = true := by
  unfold nameE at h
  cases hr : rightB next nds with
  | true => rfl
  | false => rw [hr] at h; simp at h
end Go.Proofs.YtbkmdlfenbfdlaaGreat

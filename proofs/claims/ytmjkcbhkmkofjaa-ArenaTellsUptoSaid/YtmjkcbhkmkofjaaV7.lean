/-
  WALKS: how deep a node stands, its kids in a role, the node itself, as the program tells them.
-/
import Derived.Test.YtmjkcbhkmkofjaaV6
import Derived.Test.YtmjkcbhkmkofjaaW22
namespace Go.Proofs.Ytmjkcbhkmkofjaa
open Go Go.RowKit Go.Sort
set_option linter.unusedVariables false
attribute [local go_sem ↓] Go.wp_at_zero Go.wp_at_succ

def depthR (next : Int) (nds : List Nd) (id : Int) : Nat := if (rightB next nds && (ixOf nds id).isSome) = true then depthV nds id else 0
set_option maxRecDepth 20000 in
set_option maxHeartbeats 1600000 in
theorem depthQ_any (w : World) (hi : Nat) (next id : Int) (A : Option Addr) (n c : Nat) (nds : List Nd) (h : NodesIn w 0 hi A n c nds) (hh : hi ≤ w.heap.size) :
    Calls Try.prog 27 #[.agg #[.int .i64 next, .slice A n c], .int .i64 id] w (Ret w (.int .i64 (depthR next nds id))) := by
  have HM0 := Lib.hid (M1.start w next A n c)
  have HCh := Lib.hid (check_any _ hi next A n c nds (h.below (HM0.out.bel.mono hh)) (Nat.le_trans hh HM0.out.bel.size))
  cases hrt : rightB next nds with
  | false =>
    have HX : Hid ((depthR next nds id : Int) = 0) := Lib.hid (by unfold depthR; rw [hrt]; rfl)
    have HV := Lib.hid (checkV_no hrt)
    clear hrt h
    go_enter Try.func27, Try.ntmps27
    go_wp2_with (go_at_call 39; go_must (refine HCh.out.mono ?_; rintro e w2 ⟨rfl, hb2⟩; rw [HV.out]; have HM2 := Lib.hid (HM0.out.after hb2); have a0 := (HM2.out.a.cell 0).trans (show _ = some (.int .i64 next) from rfl); have a1 := (HM2.out.a.cell 1).trans (show _ = some (.slice A n c) from rfl); clear hb2))
    go_ret
    exact ret_i HX.out rfl HM2.out.bel
  | true =>
    have hR := rightM hrt
    have hn4 : n ≤ 4096 := by rw [← h.1]; exact hR.len
    have HV := Lib.hid (checkV_yes hrt)
    have HHa : Hid (∀ X, Below w.heap.size w X → Calls Try.prog 41 #[.agg #[.int .i64 next, .slice A n c], .int .i64 id] X (Ret X (.bool (ixOf nds id).isSome))) := Lib.hid fun X hX => has_any X hi next id A n c nds (h.below (hX.mono hh)) (Nat.le_trans hh hX.size) hR.rise hn4
    cases hix : ixOf nds id with
    | none =>
      have HX : Hid ((depthR next nds id : Int) = 0) := Lib.hid (by unfold depthR; rw [hix]; simp)
      have HIX : Hid ((ixOf nds id).isSome = false) := Lib.hid (by rw [hix]; rfl)
      clear hrt h hix
      go_enter Try.func27, Try.ntmps27
      go_wp2_with (first | (go_at_call 39; go_must (refine HCh.out.mono ?_; rintro e w2 ⟨rfl, hb2⟩; rw [HV.out]; have HM2 := Lib.hid (HM0.out.after hb2); have a0 := (HM2.out.a.cell 0).trans (show _ = some (.int .i64 next) from rfl); have a1 := (HM2.out.a.cell 1).trans (show _ = some (.slice A n c) from rfl); clear hb2)) | (go_at_call 41; go_must (refine (HHa.out _ HM2.out.bel).mono ?_; rintro e w3 ⟨rfl, hb3⟩; rw [HIX.out]; clear a0 a1; have HM3 := Lib.hid (HM2.out.after hb3); have b0 := (HM3.out.a.cell 0).trans (show _ = some (.int .i64 next) from rfl); have b1 := (HM3.out.a.cell 1).trans (show _ = some (.slice A n c) from rfl); clear hb3)))
      go_ret
      exact ret_i HX.out rfl HM3.out.bel
    | some i =>
      have HX : Hid ((depthR next nds id : Int) = depthV nds id) := Lib.hid (by unfold depthR; rw [hrt, hix]; simp)
      have HIX : Hid ((ixOf nds id).isSome = true) := Lib.hid (by rw [hix]; rfl)
      obtain ⟨nd, hgi, hie⟩ := ixOf_some hix
      have hnd : ndOf nds id = some nd := by unfold ndOf; rw [hix]; exact hgi
      have hD := hR.depth hnd
      have HDe : Hid (∀ X, Below w.heap.size w X → Calls Try.prog 80 #[.agg #[.int .i64 next, .slice A n c], .int .i64 id] X (Ret X (.int .i64 (depthV nds id)))) := Lib.hid fun X hX => depth_any X hi next id A n c nds (h.below (hX.mono hh)) (Nat.le_trans hh hX.size) hR.rise hn4 _ hD.1 (by omega)
      clear hrt h hix hgi hie hnd hD
      go_enter Try.func27, Try.ntmps27
      go_wp2_with (first | (go_at_call 39; go_must (refine HCh.out.mono ?_; rintro e w2 ⟨rfl, hb2⟩; rw [HV.out]; have HM2 := Lib.hid (HM0.out.after hb2); have a0 := (HM2.out.a.cell 0).trans (show _ = some (.int .i64 next) from rfl); have a1 := (HM2.out.a.cell 1).trans (show _ = some (.slice A n c) from rfl); clear hb2)) | (go_at_call 41; go_must (refine (HHa.out _ HM2.out.bel).mono ?_; rintro e w3 ⟨rfl, hb3⟩; rw [HIX.out]; clear a0 a1; have HM3 := Lib.hid (HM2.out.after hb3); have b0 := (HM3.out.a.cell 0).trans (show _ = some (.int .i64 next) from rfl); have b1 := (HM3.out.a.cell 1).trans (show _ = some (.slice A n c) from rfl); clear hb3)) | (go_at_call 80; go_must (refine (HDe.out _ HM3.out.bel).mono ?_; rintro e w4 ⟨rfl, hb4⟩; have HM4 := Lib.hid (HM3.out.after hb4); clear hb4)))
      go_ret
      exact ret_i HX.out rfl HM4.out.bel

def kidsR (next : Int) (nds : List Nd) (id : Int) (role : ByteArray) : List Int := if (rightB next nds && (ixOf nds id).isSome) = true then (kidsV nds id).filter (inRoleB nds role) else []
set_option maxRecDepth 20000 in
set_option maxHeartbeats 3200000 in
theorem kidsQ_any (w : World) (hi : Nat) (next id : Int) (role : ByteArray) (A : Option Addr) (n c : Nat) (nds : List Nd) (h : NodesIn w 0 hi A n c nds) (hh : hi ≤ w.heap.size) :
    Calls Try.prog 31 #[.agg #[.int .i64 next, .slice A n c], .int .i64 id, .string role] w (ListR w (kidsR next nds id role)) := by
  have HM0 := Lib.hid (M1.start w next A n c)
  have HCh := Lib.hid (check_any _ hi next A n c nds (h.below (HM0.out.bel.mono hh)) (Nat.le_trans hh HM0.out.bel.size))
  cases hrt : rightB next nds with
  | false =>
    have HX : Hid (kidsR next nds id role = []) := Lib.hid (by unfold kidsR; rw [hrt]; rfl)
    have HV := Lib.hid (checkV_no hrt)
    clear hrt h
    go_enter Try.func31, Try.ntmps31
    go_wp2_with (go_at_call 39; go_must (refine HCh.out.mono ?_; rintro e w2 ⟨rfl, hb2⟩; rw [HV.out]; have HM2 := Lib.hid (HM0.out.after hb2); have a0 := (HM2.out.a.cell 0).trans (show _ = some (.int .i64 next) from rfl); have a1 := (HM2.out.a.cell 1).trans (show _ = some (.slice A n c) from rfl); clear hb2))
    go_ret
    rw [HX.out]
    exact listR_nil rfl HM2.out.bel
  | true =>
    have hR := rightM hrt
    have hn4 : n ≤ 4096 := by rw [← h.1]; exact hR.len
    have HV := Lib.hid (checkV_yes hrt)
    have HHa : Hid (∀ X, Below w.heap.size w X → Calls Try.prog 41 #[.agg #[.int .i64 next, .slice A n c], .int .i64 id] X (Ret X (.bool (ixOf nds id).isSome))) := Lib.hid fun X hX => has_any X hi next id A n c nds (h.below (hX.mono hh)) (Nat.le_trans hh hX.size) hR.rise hn4
    cases hix : ixOf nds id with
    | none =>
      have HX : Hid (kidsR next nds id role = []) := Lib.hid (by unfold kidsR; rw [hix]; simp)
      have HIX : Hid ((ixOf nds id).isSome = false) := Lib.hid (by rw [hix]; rfl)
      clear hrt h hix
      go_enter Try.func31, Try.ntmps31
      go_wp2_with (first | (go_at_call 39; go_must (refine HCh.out.mono ?_; rintro e w2 ⟨rfl, hb2⟩; rw [HV.out]; have HM2 := Lib.hid (HM0.out.after hb2); have a0 := (HM2.out.a.cell 0).trans (show _ = some (.int .i64 next) from rfl); have a1 := (HM2.out.a.cell 1).trans (show _ = some (.slice A n c) from rfl); clear hb2)) | (go_at_call 41; go_must (refine (HHa.out _ HM2.out.bel).mono ?_; rintro e w3 ⟨rfl, hb3⟩; rw [HIX.out]; clear a0 a1; have HM3 := Lib.hid (HM2.out.after hb3); have b0 := (HM3.out.a.cell 0).trans (show _ = some (.int .i64 next) from rfl); have b1 := (HM3.out.a.cell 1).trans (show _ = some (.slice A n c) from rfl); clear hb3)))
      go_ret
      rw [HX.out]
      exact listR_nil rfl HM3.out.bel
    | some i =>
      have HX : Hid (kidsR next nds id role = (kidsV nds id).filter (inRoleB nds role)) := Lib.hid (by unfold kidsR; rw [hrt, hix]; simp)
      have HIX : Hid ((ixOf nds id).isSome = true) := Lib.hid (by rw [hix]; rfl)
      obtain ⟨nd, hgi, hie⟩ := ixOf_some hix
      have hnd : ndOf nds id = some nd := by unfold ndOf; rw [hix]; exact hgi
      rw [HX.out, kidsV_of hnd]
      have hKO := hR.kOk (List.mem_of_getElem? hgi)
      have hin := ixOf_lt hix
      rw [h.1] at hin
      have HL := Lib.hid h.1
      obtain ⟨b, o, hA, _, hb, V, hV⟩ := h.all (by omega)
      have hat := (hV i nd hgi).1.c5
      have hlf := (hV i nd hgi).2
      generalize V i = L at hat hlf
      obtain ⟨_, ⟨Ak, nk, ck⟩, _⟩ := L
      have hkrow := hlf.k
      have hkn : nk = nd.kids.length := hlf.kn
      simp only at hat hkrow
      have hck := hkrow.2.2.1
      have hnk := hkrow.2.1
      unfold maxLen at hck
      subst hA
      have HROW := Lib.hid hkrow
      have HKN := Lib.hid hkn
      have hnk4 : nk ≤ 4096 := by have := hKO.kl; omega
      have HKS := Lib.hid hKO.kids
      obtain ⟨i0, hi0, hz0, hz1, hz2⟩ := info_parts intInfo
      have HNs : Hid (∀ X, Below w.heap.size w X → ∀ y j, ixOf nds y = some j → Calls Try.prog 79 #[.agg #[.int .i64 next, .slice (some ⟨b, o, none⟩) n c], .int .i64 y] X (Ret X (.pointer (some ⟨b, o + j * 7, none⟩)))) := Lib.hid fun X hX y j hy => node_any X hi next y (some ⟨b, o, none⟩) n c nds (h.below (hX.mono hh)) (Nat.le_trans hh hX.size) hR.rise hn4 _ (by rw [hy]; exact ⟨b, o, rfl, rfl⟩)
      have HNo : Hid (∀ X, Below w.heap.size w X → Calls Try.prog 79 #[.agg #[.int .i64 next, .slice (some ⟨b, o, none⟩) n c], .int .i64 id] X (Ret X (.pointer (some ⟨b, o + i * 7, none⟩)))) := Lib.hid fun X hX => HNs.out X hX id i hix
      have HAT : Hid (∀ X, Below w.heap.size w X → X.cell? ⟨b, o + i * 7 + 5, none⟩ = some (.slice Ak nk ck)) := Lib.hid fun X hX => (hX.cell (p := ⟨b, _, none⟩) (Nat.lt_of_lt_of_le hb hh)).trans hat
      clear hrt hix hgi hie hnd hat hlf hkrow hkn hKO
      go_enter Try.func31, Try.ntmps31
      go_wp2_with (first | (go_at_call 39; go_must (refine HCh.out.mono ?_; rintro e w2 ⟨rfl, hb2⟩; rw [HV.out]; have HM2 := Lib.hid (HM0.out.after hb2); have a0 := (HM2.out.a.cell 0).trans (show _ = some (.int .i64 next) from rfl); have a1 := (HM2.out.a.cell 1).trans (show _ = some (.slice (some ⟨b, o, none⟩) n c) from rfl); clear hb2)) | (go_at_call 41; go_must (refine (HHa.out _ HM2.out.bel).mono ?_; rintro e w3 ⟨rfl, hb3⟩; rw [HIX.out]; clear a0 a1; have HM3 := Lib.hid (HM2.out.after hb3); have b0 := (HM3.out.a.cell 0).trans (show _ = some (.int .i64 next) from rfl); have b1 := (HM3.out.a.cell 1).trans (show _ = some (.slice (some ⟨b, o, none⟩) n c) from rfl); clear hb3)) | (go_at_call 79; go_must (refine (HNo.out _ HM3.out.bel).mono ?_; rintro e w4 ⟨rfl, hb4⟩; have HM4 := Lib.hid (HM3.out.after hb4); have h5 := HAT.out _ HM4.out.bel; clear hb4 b0 b1)))
      go_loopw [7, 26] (fun ov v9 wr => ∃ (j : Nat), j ≤ nk ∧ v9 = .int .i64 j ∧ KW w next (some ⟨b, o, none⟩) n c ov ((nd.kids.take j).filter (inRoleB nds role)) wr) (fun _ v _ => nk - (intOf v).toNat)
      case atStart => exact ⟨0, Nat.zero_le _, rfl, HM4.out, ⟨rfl, .inl ⟨rfl, rfl⟩⟩⟩
      case round =>
        clear h5 HM4 HM3 HM2 HM0 HCh HNo HAT
        obtain ⟨j, hj, rfl, W⟩ := hrel
        obtain ⟨fl, hfl⟩ : ∃ fl, (nd.kids.take j).filter (inRoleB nds role) = fl := ⟨_, rfl⟩
        rw [hfl] at W
        have HFL := Lib.hid hfl
        have HW := Lib.hid W
        clear W hfl
        rename World => wr
        by_cases hlt : j < nk
        · obtain ⟨kid, hkid⟩ : ∃ kid, nd.kids[j]? = some kid := ⟨nd.kids[j]'(by have := HKN.out; omega), List.getElem?_eq_getElem _⟩
          obtain ⟨bk, ok, rfl, _, hbk, hcells⟩ := HROW.out.at_ (by omega)
          have hkc := (HW.out.m.bel.cell (p := ⟨bk, _, none⟩) (Nat.lt_of_lt_of_le hbk hh)).trans (hcells j _ (intCells_get hkid))
          obtain ⟨x, hx⟩ := HKS.out kid (List.mem_of_getElem? hkid)
          obtain ⟨q, hqx, hgq⟩ := ixOf_of_ndOf hx
          have hqn := ixOf_lt hqx
          rw [HL.out] at hqn
          have HXR : Hid (∀ X, Below w.heap.size w X → X.cell? ⟨b, o + q * 7 + 3, none⟩ = some (.string x.role)) := Lib.hid fun X hX => (hX.cell (p := ⟨b, _, none⟩) (Nat.lt_of_lt_of_le hb hh)).trans (hV q x hgq).1.c3
          have HNq := Lib.hid (HNs.out wr HW.out.m.bel kid q hqx)
          have hf : inRoleB nds role kid = (x.role.toList == role.toList) := by unfold inRoleB; rw [hx]
          have htk : nd.kids.take (j + 1) = nd.kids.take j ++ [kid] := by rw [List.take_add_one, hkid]; rfl
          have a0 := (HW.out.m.a.cell 0).trans (show _ = some (.int .i64 next) from rfl)
          have a1 := (HW.out.m.a.cell 1).trans (show _ = some (.slice (some ⟨b, o, none⟩) n c) from rfl)
          have hlen : fl.length ≤ 4096 := by
            have h1 := HFL.out
            have h2 := List.length_filter_le (inRoleB nds role) (nd.kids.take j)
            rw [h1, List.length_take] at h2
            omega
          clear hkid hcells hx hqx hgq
          cases d1 : (x.role.toList == role.toList) with
          | false =>
            have HN : Hid ((nd.kids.take (j + 1)).filter (inRoleB nds role) = fl) := Lib.hid (by rw [htk, List.filter_append, HFL.out, List.filter_cons_of_neg (by rw [hf, d1]; simp), List.filter_nil, List.append_nil])
            clear hf htk
            go_wp2_with (go_at_call 79; go_must (refine HNq.out.mono ?_; rintro e w5 ⟨rfl, hb5⟩; have HW5 := Lib.hid (HW.out.after hb5); have h5 := HXR.out _ HW5.out.m.bel; clear hb5 a0 a1))
            go_roundw
            case measure => simp only [intOf]; omega
            case rel => exact ⟨j + 1, by omega, by simp, by rw [HN.out]; exact HW5.out⟩
          | true =>
            have HN : Hid ((nd.kids.take (j + 1)).filter (inRoleB nds role) = fl ++ [kid]) := Lib.hid (by rw [htk, List.filter_append, HFL.out, List.filter_cons_of_pos (by rw [hf, d1]), List.filter_nil])
            clear hf htk
            go_wp2_with (first | (go_at_call 79; go_must (refine HNq.out.mono ?_; rintro e w5 ⟨rfl, hb5⟩; have HW5 := Lib.hid (HW.out.after hb5); have h5 := HXR.out _ HW5.out.m.bel; clear hb5 a0 a1)) | (at_builtin; go_must (refine wpList_app _ rfl (.tmp 38) (.tmp 40) _ rfl w.heap.size 3 i0 _ 1 8 Try.underlying48 hi0 hz0 hz1 hz2 rfl (by omega) u7 fl.length (intCells fl) rfl (own_after HW5.out.own (below_more (Below.refl _ _) _)) w5.heap.size (w5.heap.size + 1) (some ⟨w5.heap.size, 0, none⟩) 1 1 [.int .i64 kid] rfl (row_blk (n := 1) (Blk.new' rfl) rfl (Nat.le_refl _) (by unfold maxLen; omega)) (by simp [Value.oneCell']) (by unfold maxLen; omega) (by omega) (Nat.le_trans HW5.out.m.bel.size (by simp)) ?_); go_must (intro v7 w7 hown7 hg7 _; obtain ⟨G7, cap7, rfl, hca7, hcb7⟩ := own_slice hown7; have HW7 := Lib.hid ((HW5.out.after (below_more (Below.refl _ _) _)).push hg7 hown7); clear hown7 hg7)))
            go_roundw
            case measure => simp only [intOf]; omega
            case rel => exact ⟨j + 1, by omega, by simp, by rw [HN.out]; exact HW7.out⟩
        · have hjn : j = nk := by omega
          subst hjn
          have hfin : fl = nd.kids.filter (inRoleB nds role) := by rw [← HFL.out, List.take_of_length_le (by have := HKN.out; omega)]
          subst hfin
          obtain ⟨Ao, co, rfl⟩ := own_form HW.out.own
          clear h
          go_wp2_with fail
          go_ret
          exact ⟨_, rfl, HW.out.own, HW.out.m.bel⟩
end Go.Proofs.Ytmjkcbhkmkofjaa

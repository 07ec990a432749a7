/-
  WALKS: how deep a node stands, its kids in a role, the node itself, as the program tells them.
  WALKS: Find of the program.
  WALKS: nameable; changed, whatever is done to the node.
  WALKS: changed, where nothing is told ahead: no such node; and the change.
-/
import Derived.Test.YtohinklkcinjpaaGreatZR9
namespace Go.Proofs.YtohinklkcinjpaaGreat
open Go Go.RowKit Go.Sort
set_option linter.unusedVariables false
attribute [local go_sem ↓] Go.wp_at_zero Go.wp_at_succ
def depthR (next : Int) (nds : List Nd) (id : Int) : Nat := if (rightB next nds && (ixOf nds id).isSome) = true then depthV nds id else 0
set_option maxRecDepth 20000 in
set_option maxHeartbeats 1600000 in
theorem depthQ_any (w : World) (hi : Nat) (next id : Int) (A : Option Addr) (n c : Nat) (nds : List Nd) (h : NodesIn w 0 hi A n c nds) (hh : hi ≤ w.heap.size) :
    Calls Tryz.prog 28 #[.agg #[.int .i64 next, .slice A n c], .int .i64 id] w (Ret w (.int .i64 (depthR next nds id))) := by
  have HM0 := Lib.hid (M1.start w next A n c)
  have HCh := Lib.hid (check_any _ hi next A n c nds (h.below (HM0.out.bel.mono hh)) (Nat.le_trans hh HM0.out.bel.size))
  cases hrt : rightB next nds with
  | false =>
    have HX : Hid ((depthR next nds id : Int) = 0) := Lib.hid (by unfold depthR; rw [hrt]; rfl)
    have HV := Lib.hid (checkV_no hrt)
    clear hrt h
    go_enter Tryz.func28, Tryz.ntmps28
    go_wp2_with (go_at_call 12; go_must (refine HCh.out.mono ?_; rintro e w2 ⟨rfl, hb2⟩; rw [HV.out]; have HM2 := Lib.hid (HM0.out.after hb2); have a0 := (HM2.out.a.cell 0).trans (show _ = some (.int .i64 next) from rfl); have a1 := (HM2.out.a.cell 1).trans (show _ = some (.slice A n c) from rfl); clear hb2))
    go_ret
    exact ret_i HX.out rfl HM2.out.bel
  | true =>
    have hR := rightM hrt
    have hn4 : n ≤ 4096 := by rw [← h.1]; exact hR.len
    have HV := Lib.hid (checkV_yes hrt)
    have HHa : Hid (∀ X, Below w.heap.size w X → Calls Tryz.prog 40 #[.agg #[.int .i64 next, .slice A n c], .int .i64 id] X (Ret X (.bool (ixOf nds id).isSome))) := Lib.hid fun X hX => has_any X hi next id A n c nds (h.below (hX.mono hh)) (Nat.le_trans hh hX.size) hR.rise hn4
    cases hix : ixOf nds id with
    | none =>
      have HX : Hid ((depthR next nds id : Int) = 0) := Lib.hid (by unfold depthR; rw [hix]; simp)
      have HIX : Hid ((ixOf nds id).isSome = false) := Lib.hid (by rw [hix]; rfl)
      clear hrt h hix
      go_enter Tryz.func28, Tryz.ntmps28
      go_wp2_with (first | (go_at_call 12; go_must (refine HCh.out.mono ?_; rintro e w2 ⟨rfl, hb2⟩; rw [HV.out]; have HM2 := Lib.hid (HM0.out.after hb2); have a0 := (HM2.out.a.cell 0).trans (show _ = some (.int .i64 next) from rfl); have a1 := (HM2.out.a.cell 1).trans (show _ = some (.slice A n c) from rfl); clear hb2)) | (go_at_call 40; go_must (refine (HHa.out _ HM2.out.bel).mono ?_; rintro e w3 ⟨rfl, hb3⟩; rw [HIX.out]; clear a0 a1; have HM3 := Lib.hid (HM2.out.after hb3); have b0 := (HM3.out.a.cell 0).trans (show _ = some (.int .i64 next) from rfl); have b1 := (HM3.out.a.cell 1).trans (show _ = some (.slice A n c) from rfl); clear hb3)))
      go_ret
      exact ret_i HX.out rfl HM3.out.bel
    | some i =>
      have HX : Hid ((depthR next nds id : Int) = depthV nds id) := Lib.hid (by unfold depthR; rw [hrt, hix]; simp)
      have HIX : Hid ((ixOf nds id).isSome = true) := Lib.hid (by rw [hix]; rfl)
      obtain ⟨nd, hgi, hie⟩ := ixOf_some hix
      have hnd : ndOf nds id = some nd := by unfold ndOf; rw [hix]; exact hgi
      have hD := hR.depth hnd
      have HDe : Hid (∀ X, Below w.heap.size w X → Calls Tryz.prog 60 #[.agg #[.int .i64 next, .slice A n c], .int .i64 id] X (Ret X (.int .i64 (depthV nds id)))) := Lib.hid fun X hX => depth_any X hi next id A n c nds (h.below (hX.mono hh)) (Nat.le_trans hh hX.size) hR.rise hn4 _ hD.1 (by omega)
      clear hrt h hix hgi hie hnd hD
      go_enter Tryz.func28, Tryz.ntmps28
      go_wp2_with (first | (go_at_call 12; go_must (refine HCh.out.mono ?_; rintro e w2 ⟨rfl, hb2⟩; rw [HV.out]; have HM2 := Lib.hid (HM0.out.after hb2); have a0 := (HM2.out.a.cell 0).trans (show _ = some (.int .i64 next) from rfl); have a1 := (HM2.out.a.cell 1).trans (show _ = some (.slice A n c) from rfl); clear hb2)) | (go_at_call 40; go_must (refine (HHa.out _ HM2.out.bel).mono ?_; rintro e w3 ⟨rfl, hb3⟩; rw [HIX.out]; clear a0 a1; have HM3 := Lib.hid (HM2.out.after hb3); have b0 := (HM3.out.a.cell 0).trans (show _ = some (.int .i64 next) from rfl); have b1 := (HM3.out.a.cell 1).trans (show _ = some (.slice A n c) from rfl); clear hb3)) | (go_at_call 60; go_must (refine (HDe.out _ HM3.out.bel).mono ?_; rintro e w4 ⟨rfl, hb4⟩; have HM4 := Lib.hid (HM3.out.after hb4); clear hb4)))
      go_ret
      exact ret_i HX.out rfl HM4.out.bel
def kidsR (next : Int) (nds : List Nd) (id : Int) (role : ByteArray) : List Int := if (rightB next nds && (ixOf nds id).isSome) = true then (kidsV nds id).filter (inRoleB nds role) else []
set_option maxRecDepth 20000 in
set_option maxHeartbeats 3200000 in
theorem kidsQ_any (w : World) (hi : Nat) (next id : Int) (role : ByteArray) (A : Option Addr) (n c : Nat) (nds : List Nd) (h : NodesIn w 0 hi A n c nds) (hh : hi ≤ w.heap.size) :
    Calls Tryz.prog 17 #[.agg #[.int .i64 next, .slice A n c], .int .i64 id, .string role] w (ListR w (kidsR next nds id role)) := by
  have HM0 := Lib.hid (M1.start w next A n c)
  have HCh := Lib.hid (check_any _ hi next A n c nds (h.below (HM0.out.bel.mono hh)) (Nat.le_trans hh HM0.out.bel.size))
  cases hrt : rightB next nds with
  | false =>
    have HX : Hid (kidsR next nds id role = []) := Lib.hid (by unfold kidsR; rw [hrt]; rfl)
    have HV := Lib.hid (checkV_no hrt)
    clear hrt h
    go_enter Tryz.func17, Tryz.ntmps17
    go_wp2_with (go_at_call 12; go_must (refine HCh.out.mono ?_; rintro e w2 ⟨rfl, hb2⟩; rw [HV.out]; have HM2 := Lib.hid (HM0.out.after hb2); have a0 := (HM2.out.a.cell 0).trans (show _ = some (.int .i64 next) from rfl); have a1 := (HM2.out.a.cell 1).trans (show _ = some (.slice A n c) from rfl); clear hb2))
    go_ret
    rw [HX.out]
    exact listR_nil rfl HM2.out.bel
  | true =>
    have hR := rightM hrt
    have hn4 : n ≤ 4096 := by rw [← h.1]; exact hR.len
    have HV := Lib.hid (checkV_yes hrt)
    have HHa : Hid (∀ X, Below w.heap.size w X → Calls Tryz.prog 40 #[.agg #[.int .i64 next, .slice A n c], .int .i64 id] X (Ret X (.bool (ixOf nds id).isSome))) := Lib.hid fun X hX => has_any X hi next id A n c nds (h.below (hX.mono hh)) (Nat.le_trans hh hX.size) hR.rise hn4
    cases hix : ixOf nds id with
    | none =>
      have HX : Hid (kidsR next nds id role = []) := Lib.hid (by unfold kidsR; rw [hix]; simp)
      have HIX : Hid ((ixOf nds id).isSome = false) := Lib.hid (by rw [hix]; rfl)
      clear hrt h hix
      go_enter Tryz.func17, Tryz.ntmps17
      go_wp2_with (first | (go_at_call 12; go_must (refine HCh.out.mono ?_; rintro e w2 ⟨rfl, hb2⟩; rw [HV.out]; have HM2 := Lib.hid (HM0.out.after hb2); have a0 := (HM2.out.a.cell 0).trans (show _ = some (.int .i64 next) from rfl); have a1 := (HM2.out.a.cell 1).trans (show _ = some (.slice A n c) from rfl); clear hb2)) | (go_at_call 40; go_must (refine (HHa.out _ HM2.out.bel).mono ?_; rintro e w3 ⟨rfl, hb3⟩; rw [HIX.out]; clear a0 a1; have HM3 := Lib.hid (HM2.out.after hb3); have b0 := (HM3.out.a.cell 0).trans (show _ = some (.int .i64 next) from rfl); have b1 := (HM3.out.a.cell 1).trans (show _ = some (.slice A n c) from rfl); clear hb3)))
      go_ret
      rw [HX.out]
      exact listR_nil rfl HM3.out.bel
    | some i =>
      have HX : Hid (kidsR next nds id role = (kidsV nds id).filter (inRoleB nds role)) := Lib.hid (by unfold kidsR; rw [hrt, hix]; simp)
      have HIX : Hid ((ixOf nds id).isSome = true) := Lib.hid (by rw [hix]; rfl)
      obtain ⟨nd, hgi, hie⟩ := ixOf_some hix
      have hnd : ndOf nds id = some nd := by unfold ndOf; rw [hix]; exact hgi
      rw [HX.out, kidsV_of hnd]
      have hKO := hR.kOk (List.mem_of_getElem? hgi)
      have hin := ixOf_lt hix
      rw [h.1] at hin
      have HL := Lib.hid h.1
      obtain ⟨b, o, hA, _, hb, V, hV⟩ := h.all (by omega)
      have hat := (hV i nd hgi).1.c5
      have hlf := (hV i nd hgi).2
      generalize V i = L at hat hlf
      obtain ⟨_, ⟨Ak, nk, ck⟩, _⟩ := L
      have hkrow := hlf.k
      have hkn : nk = nd.kids.length := hlf.kn
      simp only at hat hkrow
      have hck := hkrow.2.2.1
      have hnk := hkrow.2.1
      unfold maxLen at hck
      subst hA
      have HROW := Lib.hid hkrow
      have HKN := Lib.hid hkn
      have hnk4 : nk ≤ 4096 := by have := hKO.kl; omega
      have HKS := Lib.hid hKO.kids
      obtain ⟨i0, hi0, hz0, hz1, hz2⟩ := info_parts intInfo
      have HNs : Hid (∀ X, Below w.heap.size w X → ∀ y j, ixOf nds y = some j → Calls Tryz.prog 42 #[.agg #[.int .i64 next, .slice (some ⟨b, o, none⟩) n c], .int .i64 y] X (Ret X (.pointer (some ⟨b, o + j * 7, none⟩)))) := Lib.hid fun X hX y j hy => node_any X hi next y (some ⟨b, o, none⟩) n c nds (h.below (hX.mono hh)) (Nat.le_trans hh hX.size) hR.rise hn4 _ (by rw [hy]; exact ⟨b, o, rfl, rfl⟩)
      have HNo : Hid (∀ X, Below w.heap.size w X → Calls Tryz.prog 42 #[.agg #[.int .i64 next, .slice (some ⟨b, o, none⟩) n c], .int .i64 id] X (Ret X (.pointer (some ⟨b, o + i * 7, none⟩)))) := Lib.hid fun X hX => HNs.out X hX id i hix
      have HAT : Hid (∀ X, Below w.heap.size w X → X.cell? ⟨b, o + i * 7 + 5, none⟩ = some (.slice Ak nk ck)) := Lib.hid fun X hX => (hX.cell (p := ⟨b, _, none⟩) (Nat.lt_of_lt_of_le hb hh)).trans hat
      clear hrt hix hgi hie hnd hat hlf hkrow hkn hKO
      go_enter Tryz.func17, Tryz.ntmps17
      go_wp2_with (first | (go_at_call 12; go_must (refine HCh.out.mono ?_; rintro e w2 ⟨rfl, hb2⟩; rw [HV.out]; have HM2 := Lib.hid (HM0.out.after hb2); have a0 := (HM2.out.a.cell 0).trans (show _ = some (.int .i64 next) from rfl); have a1 := (HM2.out.a.cell 1).trans (show _ = some (.slice (some ⟨b, o, none⟩) n c) from rfl); clear hb2)) | (go_at_call 40; go_must (refine (HHa.out _ HM2.out.bel).mono ?_; rintro e w3 ⟨rfl, hb3⟩; rw [HIX.out]; clear a0 a1; have HM3 := Lib.hid (HM2.out.after hb3); have b0 := (HM3.out.a.cell 0).trans (show _ = some (.int .i64 next) from rfl); have b1 := (HM3.out.a.cell 1).trans (show _ = some (.slice (some ⟨b, o, none⟩) n c) from rfl); clear hb3)) | (go_at_call 42; go_must (refine (HNo.out _ HM3.out.bel).mono ?_; rintro e w4 ⟨rfl, hb4⟩; have HM4 := Lib.hid (HM3.out.after hb4); have h5 := HAT.out _ HM4.out.bel; clear hb4 b0 b1)))
      go_loopw [7, 26] (fun ov v9 wr => ∃ (j : Nat), j ≤ nk ∧ v9 = .int .i64 j ∧ KW w next (some ⟨b, o, none⟩) n c ov ((nd.kids.take j).filter (inRoleB nds role)) wr) (fun _ v _ => nk - (intOf v).toNat)
      case atStart => exact ⟨0, Nat.zero_le _, rfl, HM4.out, ⟨rfl, .inl ⟨rfl, rfl⟩⟩⟩
      case round =>
        clear h5 HM4 HM3 HM2 HM0 HCh HNo HAT
        obtain ⟨j, hj, rfl, W⟩ := hrel
        obtain ⟨fl, hfl⟩ : ∃ fl, (nd.kids.take j).filter (inRoleB nds role) = fl := ⟨_, rfl⟩
        rw [hfl] at W
        have HFL := Lib.hid hfl
        have HW := Lib.hid W
        clear W hfl
        rename World => wr
        by_cases hlt : j < nk
        · obtain ⟨kid, hkid⟩ : ∃ kid, nd.kids[j]? = some kid := ⟨nd.kids[j]'(by have := HKN.out; omega), List.getElem?_eq_getElem _⟩
          obtain ⟨bk, ok, rfl, _, hbk, hcells⟩ := HROW.out.at_ (by omega)
          have hkc := (HW.out.m.bel.cell (p := ⟨bk, _, none⟩) (Nat.lt_of_lt_of_le hbk hh)).trans (hcells j _ (intCells_get hkid))
          obtain ⟨x, hx⟩ := HKS.out kid (List.mem_of_getElem? hkid)
          obtain ⟨q, hqx, hgq⟩ := ixOf_of_ndOf hx
          have hqn := ixOf_lt hqx
          rw [HL.out] at hqn
          have HXR : Hid (∀ X, Below w.heap.size w X → X.cell? ⟨b, o + q * 7 + 3, none⟩ = some (.string x.role)) := Lib.hid fun X hX => (hX.cell (p := ⟨b, _, none⟩) (Nat.lt_of_lt_of_le hb hh)).trans (hV q x hgq).1.c3
          have HNq := Lib.hid (HNs.out wr HW.out.m.bel kid q hqx)
          have hf : inRoleB nds role kid = (x.role.toList == role.toList) := by unfold inRoleB; rw [hx]
          have htk : nd.kids.take (j + 1) = nd.kids.take j ++ [kid] := by rw [List.take_add_one, hkid]; rfl
          have a0 := (HW.out.m.a.cell 0).trans (show _ = some (.int .i64 next) from rfl)
          have a1 := (HW.out.m.a.cell 1).trans (show _ = some (.slice (some ⟨b, o, none⟩) n c) from rfl)
          have hlen : fl.length ≤ 4096 := by
            have h1 := HFL.out
            have h2 := List.length_filter_le (inRoleB nds role) (nd.kids.take j)
            rw [h1, List.length_take] at h2
            omega
          clear hkid hcells hx hqx hgq
          cases d1 : (x.role.toList == role.toList) with
          | false =>
            have HN : Hid ((nd.kids.take (j + 1)).filter (inRoleB nds role) = fl) := Lib.hid (by rw [htk, List.filter_append, HFL.out, List.filter_cons_of_neg (by rw [hf, d1]; simp), List.filter_nil, List.append_nil])
            clear hf htk
            go_wp2_with (go_at_call 42; go_must (refine HNq.out.mono ?_; rintro e w5 ⟨rfl, hb5⟩; have HW5 := Lib.hid (HW.out.after hb5); have h5 := HXR.out _ HW5.out.m.bel; clear hb5 a0 a1))
            go_roundw
            case measure => simp only [intOf]; omega
            case rel => exact ⟨j + 1, by omega, by simp, by rw [HN.out]; exact HW5.out⟩
          | true =>
            have HN : Hid ((nd.kids.take (j + 1)).filter (inRoleB nds role) = fl ++ [kid]) := Lib.hid (by rw [htk, List.filter_append, HFL.out, List.filter_cons_of_pos (by rw [hf, d1]), List.filter_nil])
            clear hf htk
            go_wp2_with (first | (go_at_call 42; go_must (refine HNq.out.mono ?_; rintro e w5 ⟨rfl, hb5⟩; have HW5 := Lib.hid (HW.out.after hb5); have h5 := HXR.out _ HW5.out.m.bel; clear hb5 a0 a1)) | (at_builtin; go_must (refine wpList_app _ rfl (.tmp 38) (.tmp 40) _ rfl w.heap.size 3 i0 _ 1 8 Tryz.underlying33 hi0 hz0 hz1 hz2 rfl (by omega) u7 fl.length (intCells fl) rfl (own_after HW5.out.own (below_more (Below.refl _ _) _)) w5.heap.size (w5.heap.size + 1) (some ⟨w5.heap.size, 0, none⟩) 1 1 [.int .i64 kid] rfl (row_blk (n := 1) (Blk.new' rfl) rfl (Nat.le_refl _) (by unfold maxLen; omega)) (by simp [Value.oneCell']) (by unfold maxLen; omega) (by omega) (Nat.le_trans HW5.out.m.bel.size (by simp)) ?_); go_must (intro v7 w7 hown7 hg7 _; obtain ⟨G7, cap7, rfl, hca7, hcb7⟩ := own_slice hown7; have HW7 := Lib.hid ((HW5.out.after (below_more (Below.refl _ _) _)).push hg7 hown7); clear hown7 hg7)))
            go_roundw
            case measure => simp only [intOf]; omega
            case rel => exact ⟨j + 1, by omega, by simp, by rw [HN.out]; exact HW7.out⟩
        · have hjn : j = nk := by omega
          subst hjn
          have hfin : fl = nd.kids.filter (inRoleB nds role) := by rw [← HFL.out, List.take_of_length_le (by have := HKN.out; omega)]
          subst hfin
          obtain ⟨Ao, co, rfl⟩ := own_form HW.out.own
          clear h
          go_wp2_with fail
          go_ret
          exact ⟨_, rfl, HW.out.own, HW.out.m.bel⟩
end Go.Proofs.YtohinklkcinjpaaGreat
namespace Go.Proofs.YtohinklkcinjpaaGreat
open Go Go.RowKit Go.Sort
set_option linter.unusedVariables false
attribute [local go_sem ↓] Go.wp_at_zero Go.wp_at_succ
def zeroNd : Nd := ⟨0, ⟨#[]⟩, 0, ⟨#[]⟩, [], [], []⟩
def nilLeaf : Leaf := ⟨⟨none, 0, 0⟩, ⟨none, 0, 0⟩, ⟨none, 0, 0⟩⟩
theorem leafZ (w : World) (B : Nat) : OwnLeaf w B zeroNd nilLeaf :=
  ⟨rfl, rfl, rfl, ⟨by simp [zeroNd, propCells, nilLeaf], .inl ⟨rfl, rfl⟩⟩, ⟨by simp [zeroNd, intCells, nilLeaf], .inl ⟨rfl, rfl⟩⟩, ⟨by simp [zeroNd, refCells, nilLeaf], .inl ⟨rfl, rfl⟩⟩, ⟨by simp [zeroNd, ByteArray.size, maxLen], by simp [zeroNd, ByteArray.size, maxLen], by simp [zeroNd], by simp [zeroNd]⟩⟩
/-- the node with a number, and whether there is one -/
def findV (next : Int) (nds : List Nd) (id : Int) : Nd × Bool := if (rightB next nds && (ixOf nds id).isSome) = true then ((ndOf nds id).getD zeroNd, true) else (zeroNd, false)
def FindIs (w : World) (r : Nd × Bool) (e : Ending) (w' : World) : Prop := ∃ M : Leaf, e = .returned (.tuple #[.agg #[.int .i64 r.1.id, .string r.1.con, .int .i64 r.1.par, .string r.1.role, .slice M.p.A M.p.n M.p.c, .slice M.k.A M.k.n M.k.c, .slice M.r.A M.r.n M.r.c], .bool r.2]) ∧ OwnLeaf w' w.heap.size r.1 M ∧ Below w.heap.size w w'
/-- the boxes of a model and of a node -/
structure FB (w : World) (next : Int) (A : Option Addr) (n c : Nat) (X : World) : Prop where
  m : Blk X w.heap.size 26 #[.int .i64 next, .slice A n c]
  r : ∃ cs, cs.size = 7 ∧ Blk X (w.heap.size + 1) 41 cs
  bel : Below w.heap.size w X
section
variable {w X X' : World} {next : Int} {A : Option Addr} {n c : Nat}
theorem FB.start (w : World) (next : Int) (A : Option Addr) (n c : Nat) : FB w next A n c ((w.alloc (.cells #[.int .i64 next, .slice A n c] 26)).alloc (.cells #[.int .i64 0, .string ⟨#[]⟩, .int .i64 0, .string ⟨#[]⟩, .slice none 0 0, .slice none 0 0, .slice none 0 0] 41)) :=
  ⟨(Blk.new _ _ _).alloc _, ⟨_, by simp, Blk.new' (by simp)⟩, below_more (below_more (Below.refl _ _) _) _⟩
theorem FB.after (h : FB w next A n c X) (hb : Below X.heap.size X X') : FB w next A n c X' := by
  obtain ⟨h1, ⟨cs, h0, h2⟩, h3⟩ := h
  exact ⟨h1.after hb, ⟨cs, h0, h2.after hb⟩, h3.trans (hb.mono h3.size)⟩
theorem FB.room (h : FB w next A n c X) (j : Nat) (hj : j < 7) : (∃ u, X.cell? ⟨w.heap.size + 1, j, none⟩ = some u) ∧ X.frozen? ⟨w.heap.size + 1, j, none⟩ = false := by
  obtain ⟨h1, ⟨cs, h0, h2⟩, h3⟩ := h
  exact ⟨⟨cs[j]'(by omega), (h2.cell j).trans (Array.getElem?_eq_getElem (by omega))⟩, h2.frozen j⟩
theorem FB.set (h : FB w next A n c X) (i : Nat) (u : Value) : FB w next A n c (X.setCell ⟨w.heap.size + 1, i, none⟩ u) := by
  obtain ⟨h1, ⟨cs, h0, h2⟩, h3⟩ := h
  exact ⟨h1.far (p := ⟨w.heap.size + 1, i, none⟩) (by simp) u, ⟨_, by simpa using h0, h2.set_ i u⟩, h3.setCell (p := ⟨w.heap.size + 1, i, none⟩) (by simp) u⟩
theorem FB.leaf (h : FB w next A n c X) {nd : Nd} {M : Leaf} (hl : OwnLeaf X w.heap.size nd M) (i : Nat) (u : Value) : OwnLeaf (X.setCell ⟨w.heap.size + 1, i, none⟩ u) w.heap.size nd M := by
  obtain ⟨h1, ⟨cs, h0, h2⟩, h3⟩ := h
  exact hl.other h2 (by decide) (by decide) (by decide) i u
/-- a node is laid into the box -/
theorem FB.lay (h : FB w next A n c X) {nd : Nd} {M : Leaf} (hl : OwnLeaf X w.heap.size nd M) (u0 u1 u2 u3 u4 u5 u6 : Value) :
    OwnLeaf (((((((X.setCell ⟨w.heap.size + 1, 0, none⟩ u0).setCell ⟨w.heap.size + 1, 1, none⟩ u1).setCell ⟨w.heap.size + 1, 2, none⟩ u2).setCell ⟨w.heap.size + 1, 3, none⟩ u3).setCell ⟨w.heap.size + 1, 4, none⟩ u4).setCell ⟨w.heap.size + 1, 5, none⟩ u5).setCell ⟨w.heap.size + 1, 6, none⟩ u6) w.heap.size nd M ∧
    Below w.heap.size w (((((((X.setCell ⟨w.heap.size + 1, 0, none⟩ u0).setCell ⟨w.heap.size + 1, 1, none⟩ u1).setCell ⟨w.heap.size + 1, 2, none⟩ u2).setCell ⟨w.heap.size + 1, 3, none⟩ u3).setCell ⟨w.heap.size + 1, 4, none⟩ u4).setCell ⟨w.heap.size + 1, 5, none⟩ u5).setCell ⟨w.heap.size + 1, 6, none⟩ u6) :=
  ⟨((((((h.set 0 u0).set 1 u1).set 2 u2).set 3 u3).set 4 u4).set 5 u5).leaf ((((((h.set 0 u0).set 1 u1).set 2 u2).set 3 u3).set 4 u4).leaf (((((h.set 0 u0).set 1 u1).set 2 u2).set 3 u3).leaf ((((h.set 0 u0).set 1 u1).set 2 u2).leaf (((h.set 0 u0).set 1 u1).leaf ((h.set 0 u0).leaf (h.leaf hl 0 u0) 1 u1) 2 u2) 3 u3) 4 u4) 5 u5) 6 u6,
    (((((((h.set 0 u0).set 1 u1).set 2 u2).set 3 u3).set 4 u4).set 5 u5).set 6 u6).bel⟩
end
set_option maxRecDepth 20000 in
set_option maxHeartbeats 3200000 in
theorem find_any' (w : World) (hi : Nat) (next id : Int) (A : Option Addr) (n c : Nat) (nds : List Nd) (h : NodesIn w 0 hi A n c nds) (hh : hi ≤ w.heap.size) (hf : ∀ nd ∈ nds, Fits 1 nd) :
    Calls Tryz.prog 13 #[.agg #[.int .i64 next, .slice A n c], .int .i64 id] w (FindIs w (findV next nds id)) := by
  have HM0 := Lib.hid (FB.start w next A n c)
  have HCh := Lib.hid (check_any _ hi next A n c nds (h.below (HM0.out.bel.mono hh)) (Nat.le_trans hh HM0.out.bel.size))
  cases hrt : rightB next nds with
  | false =>
    have HX : Hid (findV next nds id = (zeroNd, false)) := Lib.hid (by unfold findV; rw [hrt]; rfl)
    have HV := Lib.hid (checkV_no hrt)
    clear hrt h
    go_enter Tryz.func13, Tryz.ntmps13
    go_wp2_with (go_at_call 12; go_must (refine HCh.out.mono ?_; rintro e w2 ⟨rfl, hb2⟩; rw [HV.out]; have HM2 := Lib.hid (HM0.out.after hb2); have a0 := (HM2.out.m.cell 0).trans (show _ = some (.int .i64 next) from rfl); have a1 := (HM2.out.m.cell 1).trans (show _ = some (.slice A n c) from rfl); obtain ⟨⟨u0, z0⟩, y0⟩ := HM2.out.room 0 (by omega); obtain ⟨⟨u1, z1⟩, y1⟩ := HM2.out.room 1 (by omega); obtain ⟨⟨u2, z2⟩, y2⟩ := HM2.out.room 2 (by omega); obtain ⟨⟨u3, z3⟩, y3⟩ := HM2.out.room 3 (by omega); obtain ⟨⟨u4, z4⟩, y4⟩ := HM2.out.room 4 (by omega); obtain ⟨⟨u5, z5⟩, y5⟩ := HM2.out.room 5 (by omega); obtain ⟨⟨u6, z6⟩, y6⟩ := HM2.out.room 6 (by omega); clear hb2))
    (try rw [Exit.noGoto_ret])
    (try simp only [Exit.inBlock, Exit.then])
    have hres : Tryz.f13.results = #[.cell 4 41, .tmp 5] := by kernel_rfl
    refine bodyPost_ret (v := .tuple #[.agg #[.int .i64 0, .string ⟨#[]⟩, .int .i64 0, .string ⟨#[]⟩, .slice none 0 0, .slice none 0 0, .slice none 0 0], .bool false]) ?hr rfl ?_
    case hr =>
      simp only [results, hres]
      go_simp
    rw [HX.out]
    have hE := HM2.out.lay (leafZ w2 w.heap.size) (.int .i64 0) (.string ⟨#[]⟩) (.int .i64 0) (.string ⟨#[]⟩) (.slice none 0 0) (.slice none 0 0) (.slice none 0 0)
    exact ⟨nilLeaf, rfl, hE.1, hE.2⟩
  | true =>
    have hR := rightM hrt
    have hn4 : n ≤ 4096 := by rw [← h.1]; exact hR.len
    have HV := Lib.hid (checkV_yes hrt)
    have HHa : Hid (∀ X, Below w.heap.size w X → Calls Tryz.prog 40 #[.agg #[.int .i64 next, .slice A n c], .int .i64 id] X (Ret X (.bool (ixOf nds id).isSome))) := Lib.hid fun X hX => has_any X hi next id A n c nds (h.below (hX.mono hh)) (Nat.le_trans hh hX.size) hR.rise hn4
    cases hix : ixOf nds id with
    | none =>
      have HX : Hid (findV next nds id = (zeroNd, false)) := Lib.hid (by unfold findV; rw [hix]; simp)
      have HIX : Hid ((ixOf nds id).isSome = false) := Lib.hid (by rw [hix]; rfl)
      clear hrt h hix
      go_enter Tryz.func13, Tryz.ntmps13
      go_wp2_with (first | (go_at_call 12; go_must (refine HCh.out.mono ?_; rintro e w2 ⟨rfl, hb2⟩; rw [HV.out]; have HM2 := Lib.hid (HM0.out.after hb2); have a0 := (HM2.out.m.cell 0).trans (show _ = some (.int .i64 next) from rfl); have a1 := (HM2.out.m.cell 1).trans (show _ = some (.slice A n c) from rfl); clear hb2)) | (go_at_call 40; go_must (refine (HHa.out _ HM2.out.bel).mono ?_; rintro e w3 ⟨rfl, hb3⟩; rw [HIX.out]; clear a0 a1; have HM3 := Lib.hid (HM2.out.after hb3); have b0 := (HM3.out.m.cell 0).trans (show _ = some (.int .i64 next) from rfl); have b1 := (HM3.out.m.cell 1).trans (show _ = some (.slice A n c) from rfl); obtain ⟨⟨u0, z0⟩, y0⟩ := HM3.out.room 0 (by omega); obtain ⟨⟨u1, z1⟩, y1⟩ := HM3.out.room 1 (by omega); obtain ⟨⟨u2, z2⟩, y2⟩ := HM3.out.room 2 (by omega); obtain ⟨⟨u3, z3⟩, y3⟩ := HM3.out.room 3 (by omega); obtain ⟨⟨u4, z4⟩, y4⟩ := HM3.out.room 4 (by omega); obtain ⟨⟨u5, z5⟩, y5⟩ := HM3.out.room 5 (by omega); obtain ⟨⟨u6, z6⟩, y6⟩ := HM3.out.room 6 (by omega); clear hb3)))
      (try rw [Exit.noGoto_ret])
      (try simp only [Exit.inBlock, Exit.then])
      have hres : Tryz.f13.results = #[.cell 4 41, .tmp 5] := by kernel_rfl
      refine bodyPost_ret (v := .tuple #[.agg #[.int .i64 0, .string ⟨#[]⟩, .int .i64 0, .string ⟨#[]⟩, .slice none 0 0, .slice none 0 0, .slice none 0 0], .bool false]) ?hr2 rfl ?_
      case hr2 =>
        simp only [results, hres]
        go_simp
      rw [HX.out]
      have hE := HM3.out.lay (leafZ w3 w.heap.size) (.int .i64 0) (.string ⟨#[]⟩) (.int .i64 0) (.string ⟨#[]⟩) (.slice none 0 0) (.slice none 0 0) (.slice none 0 0)
      exact ⟨nilLeaf, rfl, hE.1, hE.2⟩
    | some i =>
      have HIX : Hid ((ixOf nds id).isSome = true) := Lib.hid (by rw [hix]; rfl)
      obtain ⟨nd, hgi, hie⟩ := ixOf_some hix
      have hnd : ndOf nds id = some nd := by unfold ndOf; rw [hix]; exact hgi
      have HX : Hid (findV next nds id = (nd, true)) := Lib.hid (by unfold findV; rw [hrt, hix, hnd]; simp)
      have hin := ixOf_lt hix
      rw [h.1] at hin
      obtain ⟨b, o, hA, _, hb, V, hV⟩ := h.all (by omega)
      have hat := (hV i nd hgi).1
      have hlf := (hV i nd hgi).2
      generalize V i = L at hat hlf
      subst hA
      have hfi := hf nd (List.mem_of_getElem? hgi)
      have HNo : Hid (∀ X, Below w.heap.size w X → Calls Tryz.prog 42 #[.agg #[.int .i64 next, .slice (some ⟨b, o, none⟩) n c], .int .i64 id] X (Ret X (.pointer (some ⟨b, o + i * 7, none⟩)))) := Lib.hid fun X hX => node_any X hi next id (some ⟨b, o, none⟩) n c nds (h.below (hX.mono hh)) (Nat.le_trans hh hX.size) hR.rise hn4 _ (by rw [hix]; exact ⟨b, o, rfl, rfl⟩)
      have HON : Hid (∀ X, Below w.heap.size w X → Calls Tryz.prog 41 #[.agg #[.int .i64 nd.id, .string nd.con, .int .i64 nd.par, .string nd.role, .slice L.p.A L.p.n L.p.c, .slice L.k.A L.k.n L.k.c, .slice L.r.A L.r.n L.r.c]] X fun e w' => ∃ M : Leaf, e = .returned (.agg #[.int .i64 nd.id, .string nd.con, .int .i64 nd.par, .string nd.role, .slice M.p.A M.p.n M.p.c, .slice M.k.A M.k.n M.k.c, .slice M.r.A M.r.n M.r.c]) ∧ OwnLeaf w' X.heap.size nd M ∧ Below X.heap.size X w') := Lib.hid fun X hX => ownNode_any X hi nd L (hlf.below (hX.mono hh)) (Nat.le_trans hh hX.size) hfi
      have HAT : Hid (∀ X, Below w.heap.size w X → NodeAt X b (o + i * 7) nd L) := Lib.hid fun X hX => hat.below (hX.mono hh) hb
      obtain ⟨⟨Ap, np, cp⟩, ⟨Ak, nk, ck⟩, ⟨Ar, nr, cr⟩⟩ := L
      clear hrt h hix hgi hie hnd hat hlf hV hf hfi
      go_enter Tryz.func13, Tryz.ntmps13
      go_wp2_with (first | (go_at_call 12; go_must (refine HCh.out.mono ?_; rintro e w2 ⟨rfl, hb2⟩; rw [HV.out]; have HM2 := Lib.hid (HM0.out.after hb2); have a0 := (HM2.out.m.cell 0).trans (show _ = some (.int .i64 next) from rfl); have a1 := (HM2.out.m.cell 1).trans (show _ = some (.slice (some ⟨b, o, none⟩) n c) from rfl); clear hb2)) | (go_at_call 40; go_must (refine (HHa.out _ HM2.out.bel).mono ?_; rintro e w3 ⟨rfl, hb3⟩; rw [HIX.out]; clear a0 a1; have HM3 := Lib.hid (HM2.out.after hb3); have b0 := (HM3.out.m.cell 0).trans (show _ = some (.int .i64 next) from rfl); have b1 := (HM3.out.m.cell 1).trans (show _ = some (.slice (some ⟨b, o, none⟩) n c) from rfl); clear hb3)) | (go_at_call 42; go_must (refine (HNo.out _ HM3.out.bel).mono ?_; rintro e w4 ⟨rfl, hb4⟩; have HM4 := Lib.hid (HM3.out.after hb4); obtain ⟨k0, k1, k2, k3, k4, k5, k6⟩ := HAT.out _ HM4.out.bel; simp only at k4 k5 k6; clear hb4 b0 b1)) | (go_at_call 41; go_must (refine (HON.out _ HM4.out.bel).mono ?_; rintro e w5 ⟨⟨⟨A1, n1, c1⟩, ⟨A2, n2, c2⟩, ⟨A3, n3, c3⟩⟩, rfl, hl5, hb5⟩; have HM5 := Lib.hid (HM4.out.after hb5); have HL5 := Lib.hid (hl5.mono HM4.out.bel.size); clear k0 k1 k2 k3 k4 k5 k6; obtain ⟨⟨u0, z0⟩, y0⟩ := HM5.out.room 0 (by omega); obtain ⟨⟨u1, z1⟩, y1⟩ := HM5.out.room 1 (by omega); obtain ⟨⟨u2, z2⟩, y2⟩ := HM5.out.room 2 (by omega); obtain ⟨⟨u3, z3⟩, y3⟩ := HM5.out.room 3 (by omega); obtain ⟨⟨u4, z4⟩, y4⟩ := HM5.out.room 4 (by omega); obtain ⟨⟨u5, z5⟩, y5⟩ := HM5.out.room 5 (by omega); obtain ⟨⟨u6, z6⟩, y6⟩ := HM5.out.room 6 (by omega); clear hb5 hl5)))
      (try rw [Exit.noGoto_ret])
      (try simp only [Exit.inBlock, Exit.then])
      have hres : Tryz.f13.results = #[.cell 4 41, .tmp 5] := by kernel_rfl
      refine bodyPost_ret (v := .tuple #[.agg #[.int .i64 nd.id, .string nd.con, .int .i64 nd.par, .string nd.role, .slice A1 n1 c1, .slice A2 n2 c2, .slice A3 n3 c3], .bool true]) ?hr3 rfl ?_
      case hr3 =>
        simp only [results, hres]
        go_simp
      rw [HX.out]
      have hE := HM5.out.lay HL5.out (.int .i64 nd.id) (.string nd.con) (.int .i64 nd.par) (.string nd.role) (.slice A1 n1 c1) (.slice A2 n2 c2) (.slice A3 n3 c3)
      exact ⟨⟨⟨A1, n1, c1⟩, ⟨A2, n2, c2⟩, ⟨A3, n3, c3⟩⟩, rfl, hE.1, hE.2⟩
end Go.Proofs.YtohinklkcinjpaaGreat
namespace Go.Proofs.YtohinklkcinjpaaGreat
open Go Go.RowKit Go.Sort
set_option linter.unusedVariables false
attribute [local go_sem ↓] Go.wp_at_zero Go.wp_at_succ
/-- the error of a name -/
def nameE (next : Int) (nds : List Nd) (name : ByteArray) : Int := if rightB next nds = true then (if wordB name = true then 0 else 2) else 29
set_option maxHeartbeats 800000 in
theorem nameable_any (w : World) (hi : Nat) (next : Int) (name : ByteArray) (A : Option Addr) (n c : Nat) (nds : List Nd) (h : NodesIn w 0 hi A n c nds) (hh : hi ≤ w.heap.size) (hs : name.size ≤ maxLen) :
    Calls Tryz.prog 61 #[.agg #[.int .i64 next, .slice A n c], .string name] w (Ret w (.int .i64 (nameE next nds name))) := by
  have HM0 := Lib.hid (M1.start w next A n c)
  have HCh := Lib.hid (check_any _ hi next A n c nds (h.below (HM0.out.bel.mono hh)) (Nat.le_trans hh HM0.out.bel.size))
  have a0 := (HM0.out.a.cell 0).trans (show _ = some (.int .i64 next) from rfl)
  have a1 := (HM0.out.a.cell 1).trans (show _ = some (.slice A n c) from rfl)
  cases hrt : rightB next nds with
  | false =>
    have HX : Hid (nameE next nds name = 29) := Lib.hid (by unfold nameE; rw [hrt]; rfl)
    have HV := Lib.hid (checkV_no hrt)
    clear hrt h hs
    go_enter Tryz.func61, Tryz.ntmps61
    go_wp2_with (go_at_call 12; go_must (refine HCh.out.mono ?_; rintro e w2 ⟨rfl, hb2⟩; rw [HV.out]; have HM2 := Lib.hid (HM0.out.after hb2); clear hb2))
    go_ret
    exact ret_i HX.out rfl HM2.out.bel
  | true =>
    have HV := Lib.hid (checkV_yes hrt)
    have HW : Hid (∀ X b, wordB name = b → Calls Tryz.prog 43 #[.string name] X (Says X b)) := Lib.hid fun X b hb => word_is name b X hs hb
    cases hw : wordB name with
    | false =>
      have HX : Hid (nameE next nds name = 2) := Lib.hid (by unfold nameE; rw [hrt, hw]; rfl)
      have HWW := Lib.hid hw
      clear hrt h hs hw
      go_enter Tryz.func61, Tryz.ntmps61
      go_wp2_with (first | (go_at_call 12; go_must (refine HCh.out.mono ?_; rintro e w2 ⟨rfl, hb2⟩; rw [HV.out]; have HM2 := Lib.hid (HM0.out.after hb2); clear hb2)) | (go_at_call 43; go_must (refine (HW.out _ _ HWW.out).mono ?_; rintro e w3 ⟨rfl, rfl⟩)))
      go_ret
      exact ret_i HX.out rfl HM2.out.bel
    | true =>
      have HX : Hid (nameE next nds name = 0) := Lib.hid (by unfold nameE; rw [hrt, hw]; rfl)
      have HWW := Lib.hid hw
      clear hrt h hs hw
      go_enter Tryz.func61, Tryz.ntmps61
      go_wp2_with (first | (go_at_call 12; go_must (refine HCh.out.mono ?_; rintro e w2 ⟨rfl, hb2⟩; rw [HV.out]; have HM2 := Lib.hid (HM0.out.after hb2); clear hb2)) | (go_at_call 43; go_must (refine (HW.out _ _ HWW.out).mono ?_; rintro e w3 ⟨rfl, rfl⟩)))
      go_ret
      exact ret_i HX.out rfl HM2.out.bel
/-- the boxes of a model, and of what is answered -/
structure CB (w : World) (next : Int) (A : Option Addr) (n c : Nat) (X : World) : Prop where
  m : Blk X w.heap.size 26 #[.int .i64 next, .slice A n c]
  r : Blk X (w.heap.size + 1) 26 #[.int .i64 0, .slice none 0 0]
  bel : Below w.heap.size w X
section
variable {w X X' : World} {next : Int} {A : Option Addr} {n c : Nat}
theorem CB.start (w : World) (next : Int) (A : Option Addr) (n c : Nat) : CB w next A n c ((w.alloc (.cells #[.int .i64 next, .slice A n c] 26)).alloc (.cells #[.int .i64 0, .slice none 0 0] 26)) :=
  ⟨(Blk.new _ _ _).alloc _, Blk.new' (by simp), below_more (below_more (Below.refl _ _) _) _⟩
theorem CB.after (h : CB w next A n c X) (hb : Below X.heap.size X X') : CB w next A n c X' := ⟨h.m.after hb, h.r.after hb, h.bel.trans (hb.mono h.bel.size)⟩
theorem CB.m1 (h : CB w next A n c X) : M1 w next A n c X := ⟨h.m, h.bel⟩
theorem CB.lay (h : CB w next A n c X) (u v : Value) : Below w.heap.size w ((X.setCell ⟨w.heap.size + 1, 0, none⟩ u).setCell ⟨w.heap.size + 1, 1, none⟩ v) :=
  (h.bel.setCell (p := ⟨w.heap.size + 1, 0, none⟩) (by simp) u).setCell (p := ⟨w.heap.size + 1, 1, none⟩) (by simp) v
end
/-- what is done to one node of a list of the call's own -/
def Change (w : World) (n : Nat) (F : FuncId) (caps : Array Value) (nd nd' : Nd) : Prop :=
  ∀ (X : World) (g i : Nat) (l : List (Nd × Leaf)) (p : Nd × Leaf), OwnM X w.heap.size (.slice (some ⟨g, 0, none⟩) n n) l → Dist l → l.length = n → l[i]? = some p → p.1 = nd → Below w.heap.size w X →
    Calls Tryz.prog F (#[.pointer (some ⟨g, i * 7, none⟩)] ++ caps) X fun e X' => e = .returned (.tuple #[]) ∧ ∃ l', OwnM X' w.heap.size (.slice (some ⟨g, 0, none⟩) n n) l' ∧ l'.map (·.1) = (l.map (·.1)).set i nd' ∧ Below w.heap.size w X' ∧ ∀ gb cs, Blk X gb 26 cs → Blk X' gb 26 cs
/-- the error that is told -/
def chE (told : Int) (nds : List Nd) (id : Int) : Int := if told ≠ 0 then told else if (ixOf nds id).isSome = true then 0 else 20
set_option maxRecDepth 20000 in
set_option maxHeartbeats 3200000 in
theorem changed_no (w : World) (hi : Nat) (next id told : Int) (A : Option Addr) (n c : Nat) (F : FuncId) (caps : Array Value) (h0 : told ≠ 0) :
    Calls Tryz.prog 62 #[.agg #[.int .i64 next, .slice A n c], .int .i64 id, .int .i64 told, .func (.func F) #[] caps] w fun e w' => e = .returned (.tuple #[.agg #[.int .i64 0, .slice none 0 0], .int .i64 told]) ∧ Below w.heap.size w w' := by
  have HM0 := Lib.hid (CB.start w next A n c)
  have d0 : (told != 0) = true := by rw [bne_iff_ne]; exact h0
  clear h0
  go_enter Tryz.func62, Tryz.ntmps62
  go_wp2_with fail
  (try rw [Exit.noGoto_ret])
  (try simp only [Exit.inBlock, Exit.then])
  have hres : Tryz.f62.results = #[.cell 8 26, .tmp 9] := by kernel_rfl
  refine bodyPost_ret (v := .tuple #[.agg #[.int .i64 0, .slice none 0 0], .int .i64 told]) ?hr rfl ?_
  case hr =>
    simp only [results, hres]
    go_simp
  exact ⟨rfl, HM0.out.bel⟩
end Go.Proofs.YtohinklkcinjpaaGreat
namespace Go.Proofs.YtohinklkcinjpaaGreat
open Go Go.RowKit Go.Sort
set_option linter.unusedVariables false
attribute [local go_sem ↓] Go.wp_at_zero Go.wp_at_succ
set_option maxRecDepth 20000 in
set_option maxHeartbeats 3200000 in
theorem changed_none (w : World) (hi : Nat) (next id : Int) (A : Option Addr) (n c : Nat) (nds : List Nd) (F : FuncId) (caps : Array Value) (h : NodesIn w 0 hi A n c nds) (hh : hi ≤ w.heap.size) (hr : Rise nds) (hn : n ≤ 4096) (hix : ixOf nds id = none) :
    Calls Tryz.prog 62 #[.agg #[.int .i64 next, .slice A n c], .int .i64 id, .int .i64 0, .func (.func F) #[] caps] w fun e w' => e = .returned (.tuple #[.agg #[.int .i64 0, .slice none 0 0], .int .i64 20]) ∧ Below w.heap.size w w' := by
  have HM0 := Lib.hid (CB.start w next A n c)
  have HCh := Lib.hid (has_any _ hi next id A n c nds (h.below (HM0.out.bel.mono hh)) (Nat.le_trans hh HM0.out.bel.size) hr hn)
  have HS : Hid ((ixOf nds id).isSome = false) := Lib.hid (by rw [hix]; rfl)
  have a0 := (HM0.out.m.cell 0).trans (show _ = some (.int .i64 next) from rfl)
  have a1 := (HM0.out.m.cell 1).trans (show _ = some (.slice A n c) from rfl)
  clear h hr hix
  go_enter Tryz.func62, Tryz.ntmps62
  go_wp2_with (go_at_call 40; go_must (refine HCh.out.mono ?_; rintro e w2 ⟨rfl, hb2⟩; rw [HS.out]; have HM2 := Lib.hid (HM0.out.after hb2); have r0 := HM2.out.r.frozen 0; have r1 := HM2.out.r.frozen 1; have r2 := HM2.out.r.cell 0; have r3 := HM2.out.r.cell 1; simp at r2 r3; clear hb2))
  (try rw [Exit.noGoto_ret])
  (try simp only [Exit.inBlock, Exit.then])
  have hres : Tryz.f62.results = #[.cell 8 26, .tmp 9] := by kernel_rfl
  refine bodyPost_ret (v := .tuple #[.agg #[.int .i64 0, .slice none 0 0], .int .i64 20]) ?hr rfl ?_
  case hr =>
    simp only [results, hres]
    go_simp
  exact ⟨rfl, HM2.out.lay _ _⟩
set_option maxRecDepth 20000 in
set_option maxHeartbeats 3200000 in
theorem changed_yes (w : World) (hi : Nat) (next id : Int) (A : Option Addr) (n c : Nat) (nds : List Nd) (F : FuncId) (caps : Array Value) (i : Nat) (nd nd' : Nd) (h : NodesIn w 0 hi A n c nds) (hh : hi ≤ w.heap.size) (hr : Rise nds) (hn : n ≤ 4096)
    (hf : ∀ nd ∈ nds, Fits 1 nd) (hix : ixOf nds id = some i) (hnd : nds[i]? = some nd) (hen : ∀ args w, Sem.run Tryz.prog (callFunc F args) w = .ok (.enter F args) w) (hC : Change w n F caps nd nd') :
    Calls Tryz.prog 62 #[.agg #[.int .i64 next, .slice A n c], .int .i64 id, .int .i64 0, .func (.func F) #[] caps] w fun e w' => ∃ g l, e = .returned (.tuple #[.agg #[.int .i64 next, .slice (some ⟨g, 0, none⟩) n n], .int .i64 0]) ∧
      OwnM w' w.heap.size (.slice (some ⟨g, 0, none⟩) n n) l ∧ l.map (·.1) = nds.set i nd' ∧ Below w.heap.size w w' := by
  have hlen := h.1
  have HM0 := Lib.hid (CB.start w next A n c)
  have HCh := Lib.hid (has_any _ hi next id A n c nds (h.below (HM0.out.bel.mono hh)) (Nat.le_trans hh HM0.out.bel.size) hr hn)
  have HOW := Lib.hid fun (X : World) (hX : CB w next A n c X) => own_dist X hi next A n c nds (h.below (hX.bel.mono hh)) (Nat.le_trans hh hX.bel.size) hn hf
  have HS : Hid ((ixOf nds id).isSome = true) := Lib.hid (by rw [hix]; rfl)
  have a0 := (HM0.out.m.cell 0).trans (show _ = some (.int .i64 next) from rfl)
  have a1 := (HM0.out.m.cell 1).trans (show _ = some (.slice A n c) from rfl)
  have HR := Lib.hid hr
  have HIX := Lib.hid hix
  have HND := Lib.hid hnd
  have HCC := Lib.hid hC
  clear h hr hix hnd hC hf
  go_enter Tryz.func62, Tryz.ntmps62
  go_upto_region 6 with (first | (go_at_call 40; go_must (refine HCh.out.mono ?_; rintro e w2 ⟨rfl, hb2⟩; rw [HS.out]; have HM2 := Lib.hid (HM0.out.after hb2); have b0 := (HM2.out.m.cell 0).trans (show _ = some (.int .i64 next) from rfl); have b1 := (HM2.out.m.cell 1).trans (show _ = some (.slice A n c) from rfl); clear hb2)) | (go_at_call 46; go_must (refine (HOW.out _ HM2.out).mono ?_; rintro e w3 ⟨g, l, rfl, ho, hm, hd, hb3⟩; have HM3 := Lib.hid (HM2.out.after hb3); have HO := Lib.hid ho; have HMM := Lib.hid hm; have HD := Lib.hid hd; have HB3 := Lib.hid hb3; clear ho hm hd hb3)))
  have hbl : Below w3.heap.size w3 (w3.alloc (.cells #[.int .i64 next, .slice (some ⟨g, 0, none⟩) n n] 26)) := below_box w3 _
  have hbx : Blk (w3.alloc (.cells #[.int .i64 next, .slice (some ⟨g, 0, none⟩) n n] 26)) w3.heap.size 26 #[.int .i64 next, .slice (some ⟨g, 0, none⟩) n n] := Blk.new _ _ _
  generalize w3.alloc (.cells #[.int .i64 next, .slice (some ⟨g, 0, none⟩) n n] 26) = X at hbl hbx ⊢
  have hln : l.length = n := by have := congrArg List.length HMM.out; rwa [List.length_map, hlen] at this
  have hox : OwnM X w.heap.size (.slice (some ⟨g, 0, none⟩) n n) l := (HO.out.mono HM2.out.bel.size).after hbl
  have hnx : NodesIn X 0 X.heap.size (some ⟨g, 0, none⟩) n n nds := by
    have h1 := OwnN.nodesIn (lo := 0) (hi := X.heap.size) hox.own hln (fun p hp => ((hox.mono (Nat.zero_le _)).leaf p hp).leafIn) (Nat.zero_le _) (Nat.le_refl _)
    rwa [HMM.out] at h1
  have HNo := Lib.hid (node_any X X.heap.size next id (some ⟨g, 0, none⟩) n n nds hnx (Nat.le_refl _) HR.out hn (.pointer (some ⟨g, i * 7, none⟩)) (by rw [HIX.out]; exact ⟨g, 0, rfl, by rw [Nat.zero_add]⟩))
  obtain ⟨p, hp, hp1⟩ : ∃ p, l[i]? = some p ∧ p.1 = nd := by
    have h1 := HND.out
    rw [← HMM.out, List.getElem?_map] at h1
    obtain ⟨p, hp, h2⟩ := Option.map_eq_some_iff.1 h1
    exact ⟨p, hp, h2⟩
  have hbX : Below w.heap.size w X := HM3.out.bel.trans (hbl.mono HM3.out.bel.size)
  have HCA := Lib.hid fun (Y : World) (hY : Below X.heap.size X Y) => HCC.out Y g i l p (hox.after hY) HD.out hln hp hp1 (hbX.trans (hY.mono hbX.size))
  have HBX := Lib.hid hbx
  have HRX := Lib.hid (HM3.out.r.after hbl)
  have HMX := Lib.hid HMM.out
  have HLX := Lib.hid hln
  have c0 := (HBX.out.cell 0).trans (show _ = some (.int .i64 next) from rfl)
  have c1 := (HBX.out.cell 1).trans (show _ = some (.slice (some ⟨g, 0, none⟩) n n) from rfl)
  clear hbl hbx hox hnx hbX
  go_wp2_with (first | (go_at_call 42; go_must (refine HNo.out.mono ?_; rintro e w4 ⟨rfl, hb4⟩; have HB4 := Lib.hid hb4; clear hb4)) | (with_reducible refine (HCA.out _ HB4.out).mono ?_; go_must (rintro e w5 ⟨rfl, l', ho5, hm5, hb5, hk5⟩; have hx5 := hk5 _ _ (HBX.out.after HB4.out); have hr5 := hk5 _ _ (HRX.out.after HB4.out); have d0 := (hx5.cell 0).trans (show _ = some (.int .i64 next) from rfl); have d1 := (hx5.cell 1).trans (show _ = some (.slice (some ⟨g, 0, none⟩) n n) from rfl); have r0 := hr5.frozen 0; have r1 := hr5.frozen 1; have r2 := hr5.cell 0; have r3 := hr5.cell 1; simp at r2 r3; have HO5 := Lib.hid ho5; have HM5 := Lib.hid hm5; have HB5 := Lib.hid hb5; have HR5 := Lib.hid hr5; clear ho5 hm5 hb5 hk5 hx5 hr5)))
  (try rw [Exit.noGoto_ret])
  (try simp only [Exit.inBlock, Exit.then])
  have hres : Tryz.f62.results = #[.cell 8 26, .tmp 9] := by kernel_rfl
  refine bodyPost_ret (v := .tuple #[.agg #[.int .i64 next, .slice (some ⟨g, 0, none⟩) n n], .int .i64 0]) ?hr rfl ?_
  case hr =>
    simp only [results, hres]
    go_simp
  refine ⟨g, l', rfl, (HO5.out.other HR5.out 0 _).other (HR5.out.set_ 0 _) 1 _, by rw [HM5.out, HMX.out], ?_⟩
  exact (HB5.out.setCell (p := ⟨w.heap.size + 1, 0, none⟩) (by simp) _).setCell (p := ⟨w.heap.size + 1, 1, none⟩) (by simp) _
end Go.Proofs.YtohinklkcinjpaaGreat

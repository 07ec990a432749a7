/-
  WALKS: the program's copies of a part.
-/
import Derived.Test.YtbkmdlfenbfdlaaGreatZC19
namespace Go.Proofs.YtbkmdlfenbfdlaaGreat
open Go Go.RowKit Go.Sort Go.Maps
set_option linter.unusedVariables false
attribute [local go_sem ↓] Go.wp_at_zero Go.wp_at_succ
/-- what is known of a node of the part -/
structure PN (next : Int) (nds : List Nd) (S : List Int) (nd0 : Nd) (k : Nat) (y : Int) (i : Nat) (nd : Nd) : Prop where
  nd_ : ndOf nds y = some nd
  ix : ixOf nds y = some i
  at_ : nds[i]? = some nd
  first : k = 0 → nd = nd0
  par : k ≠ 0 → nd.par ∈ S
  kids : ∀ x ∈ nd.kids, x ∈ S
  refs : ∀ r ∈ nd.refs, 1 ≤ r.2 ∧ r.2 < next
theorem part_node {next : Int} {nds : List Nd} (hR : RightM next nds) {id : Int} {nd0 : Nd} (hx : ndOf nds id = some nd0) {S : List Int} (hS : preI nds id = S) {k : Nat} {y : Int} (hy : S[k]? = some y) : ∃ i nd, PN next nds S nd0 k y i nd := by
  subst hS
  have hm := List.mem_of_getElem? hy
  obtain ⟨nd, hnd⟩ := preI_mem hR hx hm
  obtain ⟨i, h1, h2, h3⟩ := ndOf_some hnd
  have hd := (hR.depth hx).2.2
  have h0 : (preI nds id)[0]? = some id := by obtain ⟨r, hr⟩ := preI_cons nds id; rw [hr]; rfl
  refine ⟨i, nd, hnd, h1, h2, fun hk => ?_, fun hk => ?_, fun x hx' => part_kids hR (65 - depthV nds id) id nd0 hx (by omega) y hm nd hnd x hx', fun r hr => ?_⟩
  · subst hk
    rw [h0] at hy
    injection hy with hy
    subst hy
    rw [hx] at hnd
    injection hnd with hnd
    exact hnd.symm
  · refine part_par hR (65 - depthV nds id) id nd0 hx (by omega) y hm (fun he => ?_) nd hnd
    subst he
    have hn := preI_nodup hR hx
    have e1 := idxV_nd hn hy
    have e2 := idxV_nd hn h0
    omega
  · have hp := hR.plain nd (List.mem_of_getElem? h2)
    unfold plainB at hp
    simp only [Bool.and_eq_true] at hp
    exact refs_rng _ _ hp.1.2 r hr
/-- numbers of the part are numbers of nodes -/
theorem part_rng {next : Int} {nds : List Nd} (hR : RightM next nds) {id : Int} {nd0 : Nd} (hx : ndOf nds id = some nd0) {y : Int} (hy : y ∈ preI nds id) : 1 ≤ y ∧ y < next := by
  obtain ⟨nd, hnd⟩ := preI_mem hR hx hy
  obtain ⟨i, _, h2, h3⟩ := ndOf_some hnd
  have := hR.rise.pos i nd h2
  have := hR.lt i nd h2
  omega
theorem wf_num {next y : Int} (h : 1 ≤ y ∧ y < next) (hn : next ≤ 1048577) : (Lit.int .i64 y).wf = true := WalkArith.wf_i64 ⟨by omega, by omega⟩
set_option maxRecDepth 100000 in
set_option maxHeartbeats 6400000 in
theorem copies_any (w : World) (hi : Nat) (next id : Int) (A : Option Addr) (n c : Nat) (nds : List Nd) (h : NodesIn w 0 hi A n c nds) (hh : hi ≤ w.heap.size) (hR : RightM next nds) (hf : ∀ nd ∈ nds, Fits 1 nd) (nd0 : Nd) (hx : ndOf nds id = some nd0) (lo' hi' : Nat) (Ap : Option Addr) (cp : Nat) (S : List Int) (hS : preI nds id = S) (hrow : Row w lo' hi' 1 Ap S.length cp (intCells S)) (hhi' : hi' ≤ w.heap.size) :
    Calls Tryz.prog 57 #[.agg #[.int .i64 next, .slice A n c], .slice Ap S.length cp] w fun e w' => ∃ g l, e = .returned (.slice (some ⟨g, 0, none⟩) S.length S.length) ∧ OwnM w' w.heap.size (.slice (some ⟨g, 0, none⟩) S.length S.length) l ∧ l.map (·.1) = cpsV next nds S nd0.par S.length ∧ Below w.heap.size w w' := by
  have hlo := hR.lo
  have hhn := hR.hi
  have hn4 : n ≤ 4096 := by rw [← h.1]; exact hR.len
  have HSN : Hid S.Nodup := Lib.hid (by rw [← hS]; exact preI_nodup hR hx)
  have hS4 : S.length ≤ 4096 := by rw [← hS]; exact Nat.le_trans (preI_len hR hx) hR.len
  have hS0 : 0 < S.length := by rw [← hS]; obtain ⟨r, hr⟩ := preI_cons nds id; rw [hr]; simp
  have HSM : Hid (∀ k y, S[k]? = some y → ∃ i nd, PN next nds S nd0 k y i nd) := Lib.hid fun k y hy => part_node hR hx hS hy
  have HWF : Hid (∀ y ∈ S, (Lit.int .i64 y).wf = true) := Lib.hid fun y hy => wf_num (part_rng hR hx (by rw [hS]; exact hy)) hhn
  have HWV : Hid (∀ k : Nat, k < 4096 → (Lit.int .i64 (next + k)).wf = true) := Lib.hid fun k hk => WalkArith.wf_i64 ⟨by omega, by omega⟩
  have HR := Lib.hid hR
  have HN := Lib.hid h
  have HFI := Lib.hid hf
  obtain ⟨bp, op, rfl, _, hbp, hpc⟩ := hrow.at_ hS0
  have hpcap := hrow.2.1
  have hpmax := hrow.2.2.1
  unfold maxLen at hpmax
  have HPC : Hid (∀ X, Below w.heap.size w X → ∀ k y, S[k]? = some y → X.cell? ⟨bp, op + k, none⟩ = some (.int .i64 y)) := Lib.hid fun X hX k y hy => (hX.cell (p := ⟨bp, op + k, none⟩) (Nat.lt_of_lt_of_le hbp hhi')).trans (hpc k _ (intCells_get hy))
  obtain ⟨i0, hi0, hz0, hz1, hz2⟩ := info_parts nodeInfo
  obtain ⟨cur, hcs, hmk⟩ := make_rows 24 41 i0 _ 7 120 Tryz.underlying24 hi0 hz0 hz1 hz2 rfl S.length (by omega) (by omega)
  have HCS := Lib.hid hcs
  have HMK := Lib.hid hmk
  have hmm : ∀ w : World, (Instr.makeMap 120 (some (.int .i64 (S.length : Int)))).run Tryz.prog w = .ok (.map (some w.heap.size)) (w.alloc (.map #[] 0)) := fun w => by
    simp [Instr.makeMap, run_underlying Tryz.underlying120, asInt, newObj]
    rfl
  clear hcs hz0 hz1 hz2 hi0 h hR hf hx hS hrow hpc hmk
  go_enter Tryz.func57, Tryz.ntmps57
  go_wp2_with fail
  go_loopw [23] (fun v23 wr => ∃ k : Nat, k ≤ S.length ∧ v23 = .int .i64 k ∧ CMp w next A n c (w.heap.size + 1) S k wr) (fun v _ => S.length - (intOf v).toNat)
  case atStart => exact ⟨0, Nat.zero_le _, rfl, ⟨(Blk.new _ _ _).alloc _, by
    have := World.ownsMap_made (H := Unit) (w.alloc (.cells #[.int .i64 next, .slice A n c] 26)) Tryz.prog 3 (plainElem Tryz.prog 3)
    simpa [FMap, DM] using this, below_more (below_more (Below.refl _ _) _) _, by omega⟩⟩
  case round =>
    obtain ⟨k, hk, rfl, hB⟩ := hrel
    rename World => wr
    have HB := Lib.hid hB
    clear hB
    by_cases hlt : k < S.length
    · obtain ⟨y, hy⟩ : ∃ y, S[k]? = some y := ⟨S[k], List.getElem?_eq_getElem _⟩
      have HY := Lib.hid hy
      have HWy := Lib.hid (HWF.out y (List.mem_of_getElem? hy))
      have HWv := Lib.hid (HWV.out k (by omega))
      have p1 := HPC.out wr HB.out.bel k y hy
      have c0 := HB.out.m.cell 0
      simp at c0
      clear hy
      go_wp2_with (at_mapUpdate; refine wpList_mapUpdate_own (H := Unit) _ rfl _ _ _ 120 rfl 3 3 (int_keyed Tryz.underlying3) Tryz.underlying120 _ (w.heap.size + 1) k _ rfl HB.out.f (by unfold maxLen; omega) _ _ (.int .i64 y) rfl rfl (keyOf_int_mk Tryz.underlying3 HWy.out) (.lit (.int .i64 (next + k))) [] (plainElem_int Tryz.underlying3 HWv.out) ?_; intro w1 hown1 hgrow1; have HF1 := Lib.hid (HB.out.more HY.out hown1 hgrow1); clear hown1 hgrow1)
      go_roundw
      case rel => exact ⟨k + 1, by omega, by simp, HF1.out⟩
      case measure => simp [intOf]; omega
    · have hkn : k = S.length := by omega
      subst hkn
      have hmk := HMK.out
      clear hmm
      go_upto_region 8 with (fail)
      clear hmk
      obtain ⟨b, hb⟩ : ∃ b, w.heap.size + 1 = b := ⟨_, rfl⟩
      rw [hb] at HB ⊢
      clear hb
      have HF0 : Hid (CFl w next A n c b S wr.heap.size 0 cur.toList [] (wr.alloc (.cells cur 41))) := Lib.hid ⟨HB.out.after (below_more (Below.refl _ _) _), ⟨by simpa using HCS.out, .inr ⟨wr.heap.size, S.length, cur, rfl, HB.out.bel.size, Blk.new _ _ _, Nat.le_refl _, by unfold maxLen; omega, HCS.out, List.take_of_length_le (by simp [HCS.out])⟩⟩, by simp [allCells], by simp⟩
      clear HB
      generalize wr.alloc (.cells cur 41) = w8 at HF0 ⊢
      generalize wr.heap.size = g at HF0 ⊢
      go_wp2_with fail
      go_loopw [40] (fun v40 wr => ∃ (k : Nat) (xs : List Value) (l : List (Nd × Leaf)), k ≤ S.length ∧ v40 = .int .i64 k ∧ CFl w next A n c b S g k xs l wr ∧ Hid (l.map (·.1) = cpsV next nds S nd0.par k)) (fun v _ => S.length - (intOf v).toNat)
      case atStart => exact ⟨0, _, [], Nat.zero_le _, rfl, HF0.out, Lib.hid rfl⟩
      case round =>
        clear HF0
        obtain ⟨k, xs, l, hk, rfl, F, HT⟩ := hrel
        rename World => wr
        have HF := Lib.hid F
        clear F
        have HLK : Hid (l.length = k) := Lib.hid (by have := congrArg List.length HT.out; rw [List.length_map, cpsV_len] at this; exact this)
        by_cases hlt : k < S.length
        · obtain ⟨y, hy⟩ : ∃ y, S[k]? = some y := ⟨S[k], List.getElem?_eq_getElem _⟩
          obtain ⟨i, nd, P⟩ := HSM.out k y hy
          have HY := Lib.hid hy
          have HYM := Lib.hid (List.mem_of_getElem? hy)
          have HWy := Lib.hid (HWF.out y (List.mem_of_getElem? hy))
          have HND := Lib.hid P.nd_
          have HKS := Lib.hid P.kids
          have HWR : Hid (∀ r ∈ nd.refs, (Lit.int .i64 r.2).wf = true) := Lib.hid fun r hr => wf_num (P.refs r hr) hhn
          have HP := Lib.hid P
          have HFR : Hid (freV next S y = next + k) := Lib.hid (by unfold freV; rw [idxV_nd HSN.out hy])
          have hin : i < n := by rw [← HN.out.1]; exact (List.getElem?_eq_some_iff.1 P.at_).1
          obtain ⟨b0, o0, nd2, Lk, hA, _, hb0, hg2, hat, hlf⟩ := HN.out.at_ hin
          obtain rfl : nd = nd2 := by rw [P.at_] at hg2; injection hg2
          subst hA
          have HAT : Hid (∀ X, Below w.heap.size w X → NodeAt X b0 (o0 + i * 7) nd Lk) := Lib.hid fun X hX => hat.below hX (by omega)
          have HNo : Hid (∀ X, Below w.heap.size w X → Calls Tryz.prog 42 #[.agg #[.int .i64 next, .slice (some ⟨b0, o0, none⟩) n c], .int .i64 y] X (Ret X (.pointer (some ⟨b0, o0 + i * 7, none⟩)))) := Lib.hid fun X hX => node_any X hi next y (some ⟨b0, o0, none⟩) n c nds (HN.out.below (hX.mono hh)) (Nat.le_trans hh hX.size) HR.out.rise hn4 _ (by rw [P.ix]; exact ⟨b0, o0, rfl, rfl⟩)
          have HON := Lib.hid fun (X : World) (hX : Below w.heap.size w X) => ownNode_any X hi nd Lk (hlf.below (hX.mono hh)) (Nat.le_trans hh hX.size) (HFI.out nd (List.mem_of_getElem? P.at_))
          have p1 := HPC.out wr HF.out.b.bel k y hy
          have c0 := HF.out.b.m.cell 0
          have c1 := HF.out.b.m.cell 1
          simp at c0 c1
          clear hy P hg2 hat hlf
          obtain ⟨⟨Aa, na, ca⟩, ⟨Ab, nb, cb⟩, ⟨Ac, nc, cc⟩⟩ := Lk
          go_upto_region 12 with (first | (go_at_call 42; (with_reducible refine (HNo.out _ HF.out.b.bel).mono ?_); go_must (rintro e w2 ⟨rfl, hb2⟩; have HB2 := Lib.hid hb2; obtain ⟨a0, a1, a2, a3, a4, a5, a6⟩ := HAT.out _ (HF.out.after hb2).b.bel; clear hb2)) | (go_at_call 41; (with_reducible refine (HON.out _ (HF.out.after HB2.out).b.bel).mono ?_); go_must (rintro e w3 ⟨⟨⟨A1, n1, k1⟩, ⟨A2, n2, k2⟩, ⟨A3, n3, k3⟩⟩, rfl, hl3, hb3⟩; have HL3 := Lib.hid hl3; have HB3 := Lib.hid hb3; clear hl3 hb3)))
          have HC4 : Hid (CN wr w3.heap.size nd ⟨⟨A1, n1, k1⟩, ⟨A2, n2, k2⟩, ⟨A3, n3, k3⟩⟩ (w3.alloc (.cells #[.int .i64 nd.id, .string nd.con, .int .i64 nd.par, .string nd.role, .slice A1 n1 k1, .slice A2 n2 k2, .slice A3 n3 k3] 41))) := Lib.hid ⟨below_more (HB2.out.trans (HB3.out.mono HB2.out.size)) _, Blk.new _ _ _, (HL3.out.mono HB2.out.size).after (below_more (Below.refl _ _) _), Nat.le_trans HB2.out.size HB3.out.size⟩
          clear HB2 HB3 HL3 a0 a1 a2 a3 a4 a5 a6 c0 c1 p1
          generalize w3.alloc (.cells #[.int .i64 nd.id, .string nd.con, .int .i64 nd.par, .string nd.role, .slice A1 n1 k1, .slice A2 n2 k2, .slice A3 n3 k3] 41) = X4 at HC4 ⊢
          generalize w3.heap.size = gn at HC4 ⊢
          have b0 := HC4.out.box.cell 0
          have bf0 := HC4.out.box.frozen 0
          simp at b0
          go_upto_region 13 with (at_lookup; refine look_any _ rfl _ _ rfl b next _ S rfl (HF.out.after HC4.out.bel).b.f HSN.out rfl HWy.out HYM.out ?_)
          clear b0 bf0
          have HC5 := Lib.hid (HC4.out.setId (freV next S y))
          generalize X4.setCell ⟨gn, 0, none⟩ (.int .i64 (freV next S y)) = X5 at HC5 ⊢
          have b2 := HC5.out.box.cell 2
          have bf2 := HC5.out.box.frozen 2
          simp at b2
          by_cases hk0 : 0 < k
          · have HPS := Lib.hid (HP.out.par (by omega))
            have HWp := Lib.hid (HWF.out nd.par HPS.out)
            go_upto_region 15 with (at_lookup; refine look_any _ rfl _ _ rfl b next _ S rfl (HF.out.after HC5.out.bel).b.f HSN.out rfl HWp.out HPS.out ?_)
            have HC6 := Lib.hid (HC5.out.setPar (freV next S nd.par))
            generalize X5.setCell ⟨gn, 2, none⟩ (.int .i64 (freV next S nd.par)) = X6 at HC6 ⊢
            clear b2 bf2
            obtain ⟨nd6, h6⟩ : ∃ x, x = { { nd with id := freV next S y } with par := freV next S nd.par } := ⟨_, rfl⟩
            rw [← h6] at HC6
            have H6 := Lib.hid h6
            have HK6 : Hid (nd6.kids = nd.kids) := Lib.hid (by rw [h6])
            have HR6 : Hid (nd6.refs = nd.refs) := Lib.hid (by rw [h6])
            clear h6
            have HN2 : Hid (n2 = nd6.kids.length) := Lib.hid HC6.out.leaf.kn
            have HN3 : Hid (n3 = nd6.refs.length) := Lib.hid HC6.out.leaf.rn
            have b5 := HC6.out.box.cell 5
            simp at b5
            go_wp2_with fail
            clear b5
            go_loopw [65] (fun v wx => ∃ q : Nat, q ≤ n2 ∧ v = .int .i64 q ∧ CN wr gn { nd6 with kids := mapTo (freV next S) nd6.kids q } ⟨⟨A1, n1, k1⟩, ⟨A2, n2, k2⟩, ⟨A3, n3, k3⟩⟩ wx) (fun v _ => n2 - (intOf v).toNat)
            case atStart => exact ⟨0, Nat.zero_le _, rfl, by rw [mapTo_zero]; exact HC6.out⟩
            case round =>
              clear HC6
              obtain ⟨q, hq, rfl, hcq⟩ := hrel
              rename World => wx
              have HCq := Lib.hid hcq
              clear hcq
              by_cases hql : q < n2
              · obtain ⟨x, hx⟩ : ∃ x, nd6.kids[q]? = some x := ⟨nd6.kids[q]'(by have := HN2.out; omega), List.getElem?_eq_getElem _⟩
                have HXS : Hid (x ∈ S) := Lib.hid (HKS.out x (by rw [← HK6.out]; exact List.mem_of_getElem? hx))
                have HWx := Lib.hid (HWF.out x HXS.out)
                obtain ⟨gk, hA2, hk1, hk2, hgk, hcell, hfz, hset⟩ := HCq.out.kid (q := q) (by have := HN2.out; simp only [mapTo_len]; omega)
                simp only at hA2 hk1 hk2
                subst hA2
                have e0 := hcell x (mapTo_get hx)
                have HS2 : Hid (CN wr gn { nd6 with kids := mapTo (freV next S) nd6.kids (q + 1) } ⟨⟨A1, n1, k1⟩, ⟨some ⟨gk, 0, none⟩, n2, k2⟩, ⟨A3, n3, k3⟩⟩ (wx.setCell ⟨gk, q, none⟩ (.int .i64 (freV next S x)))) := Lib.hid (by
                  have := hset (freV next S x)
                  rw [mapTo_set hx] at this
                  exact this)
                have b5 := HCq.out.box.cell 5
                simp at b5
                clear hcell hset hx
                go_wp2_with (at_lookup; refine look_any _ rfl _ _ rfl b next _ S rfl (HF.out.after HCq.out.bel).b.f HSN.out rfl HWx.out HXS.out ?_)
                go_roundw
                case rel => exact ⟨q + 1, by omega, by simp, HS2.out⟩
                case measure => simp [intOf]; omega
              · have hqn : q = n2 := by omega
                subst hqn
                have HC7 : Hid (CN wr gn { nd6 with kids := cpKids next S nd6.kids } ⟨⟨A1, n1, k1⟩, ⟨A2, q, k2⟩, ⟨A3, n3, k3⟩⟩ wx) := Lib.hid (by
                  have := HCq.out
                  rw [mapTo_all _ _ HN2.out] at this
                  exact this)
                clear HCq
                have b6 := HC7.out.box.cell 6
                simp at b6
                go_wp2_with fail
                clear b6
                go_loopw [81] (fun v wx => ∃ j : Nat, j ≤ n3 ∧ v = .int .i64 j ∧ CN wr gn { nd6 with kids := cpKids next S nd6.kids, refs := mapTo (fun r => (r.1, freT next S r.2)) nd6.refs j } ⟨⟨A1, n1, k1⟩, ⟨A2, q, k2⟩, ⟨A3, n3, k3⟩⟩ wx) (fun v _ => n3 - (intOf v).toNat)
                case atStart => exact ⟨0, Nat.zero_le _, rfl, by rw [mapTo_zero]; exact HC7.out⟩
                case round =>
                  clear HC7
                  obtain ⟨j, hj, rfl, hcq⟩ := hrel
                  rename World => wy
                  have HCq := Lib.hid hcq
                  clear hcq
                  by_cases hjl : j < n3
                  · obtain ⟨r, hr⟩ : ∃ r, nd6.refs[j]? = some r := ⟨nd6.refs[j]'(by have := HN3.out; omega), List.getElem?_eq_getElem _⟩
                    have HWx := Lib.hid (HWR.out r (by rw [← HR6.out]; exact List.mem_of_getElem? hr))
                    obtain ⟨gk, hA3, hk1, hk2, hgk, e0, e1, hfz, hset⟩ := HCq.out.ref (q := j) (mapTo_get hr)
                    simp only at hA3 hk1 hk2
                    subst hA3
                    have b6 := HCq.out.box.cell 6
                    simp at b6
                    have HR := Lib.hid hr
                    clear hset hr hfz
                    go_upto_region 23 with (fail)
                    have HCb := Lib.hid (HCq.out.after (below_more (Below.refl _ _) (.cells #[.string r.1, .int .i64 r.2] 60)))
                    have HNb := Lib.hid (Blk.new wy 60 #[.string r.1, .int .i64 r.2])
                    generalize wy.alloc (.cells #[.string r.1, .int .i64 r.2] 60) = wz at HCb HNb ⊢
                    generalize wy.heap.size = gr at HNb ⊢
                    clear e0 e1 b6
                    have e2 := HNb.out.cell 1
                    simp at e2
                    have b6 := HCb.out.box.cell 6
                    simp at b6
                    obtain ⟨gk2, hA3, _, _, _, e0, e1, hfz, hset⟩ := HCb.out.ref (q := j) (mapTo_get HR.out)
                    simp only [Option.some.injEq, Addr.mk.injEq, and_true] at hA3
                    subst hA3
                    cases hcn : S.contains r.2 with
                    | true =>
                      have HS2 : Hid (CN wr gn { nd6 with kids := cpKids next S nd6.kids, refs := mapTo (fun r => (r.1, freT next S r.2)) nd6.refs (j + 1) } ⟨⟨A1, n1, k1⟩, ⟨A2, q, k2⟩, ⟨some ⟨gk, 0, none⟩, n3, k3⟩⟩ (wz.setCell ⟨gk, j * 2 + 1, none⟩ (.int .i64 (freV next S r.2)))) := Lib.hid (by
                        have h1 := hset (freV next S r.2)
                        have h2 : (r.1, freV next S r.2) = (fun r => (r.1, freT next S r.2)) r := by simp only [freT]; rw [if_pos hcn]
                        rw [h2, mapTo_set (f := fun r => (r.1, freT next S r.2)) HR.out] at h1
                        exact h1)
                      have HCN := Lib.hid hcn
                      clear hset hcn
                      go_wp2_with (at_lookup; refine look_ok_any _ rfl _ _ rfl b next _ S rfl (HF.out.after HCb.out.bel).b.f HSN.out rfl HWx.out ?_; rw [HCN.out]; intro v hv; obtain rfl := hv rfl; clear hv)
                      go_roundw
                      case rel => exact ⟨j + 1, by omega, by simp, HS2.out⟩
                      case measure => simp [intOf]; omega
                    | false =>
                      have HS2 : Hid (CN wr gn { nd6 with kids := cpKids next S nd6.kids, refs := mapTo (fun r => (r.1, freT next S r.2)) nd6.refs (j + 1) } ⟨⟨A1, n1, k1⟩, ⟨A2, q, k2⟩, ⟨some ⟨gk, 0, none⟩, n3, k3⟩⟩ wz) := Lib.hid (by
                        have h2 : (fun r : ByteArray × Int => (r.1, freT next S r.2)) r = r := by simp only [freT]; rw [if_neg (by rw [hcn]; simp)]
                        rw [mapTo_same HR.out h2]
                        exact HCb.out)
                      have HCN := Lib.hid hcn
                      clear hset hcn
                      go_wp2_with (at_lookup; refine look_ok_any _ rfl _ _ rfl b next _ S rfl (HF.out.after HCb.out.bel).b.f HSN.out rfl HWx.out ?_; rw [HCN.out]; intro v hv; clear hv)
                      go_roundw
                      case rel => exact ⟨j + 1, by omega, by simp, HS2.out⟩
                      case measure => simp [intOf]; omega
                  · have hjn : j = n3 := by omega
                    subst hjn
                    obtain ⟨nd8, h8⟩ : ∃ x, x = { nd6 with kids := cpKids next S nd6.kids, refs := cpRefs next S nd6.refs } := ⟨_, rfl⟩
                    have HC8 : Hid (CN wr gn nd8 ⟨⟨A1, n1, k1⟩, ⟨A2, q, k2⟩, ⟨A3, j, k3⟩⟩ wy) := Lib.hid (by
                      have := HCq.out
                      rw [mapTo_all _ _ HN3.out] at this
                      rw [h8]
                      exact this)
                    have H8 := Lib.hid h8
                    clear HCq h8
                    have b0 := HC8.out.box.cell 0
                    have b1 := HC8.out.box.cell 1
                    have b2 := HC8.out.box.cell 2
                    have b3 := HC8.out.box.cell 3
                    have b4 := HC8.out.box.cell 4
                    have b5 := HC8.out.box.cell 5
                    have b6 := HC8.out.box.cell 6
                    simp at b0 b1 b2 b3 b4 b5 b6
                    have HF8 := Lib.hid (HF.out.after HC8.out.bel)
                    obtain ⟨⟨u0, r0⟩, s0⟩ := HF8.out.room hlt 0 (by omega)
                    obtain ⟨⟨u1, r1⟩, s1⟩ := HF8.out.room hlt 1 (by omega)
                    obtain ⟨⟨u2, r2⟩, s2⟩ := HF8.out.room hlt 2 (by omega)
                    obtain ⟨⟨u3, r3⟩, s3⟩ := HF8.out.room hlt 3 (by omega)
                    obtain ⟨⟨u4, r4⟩, s4⟩ := HF8.out.room hlt 4 (by omega)
                    obtain ⟨⟨u5, r5⟩, s5⟩ := HF8.out.room hlt 5 (by omega)
                    obtain ⟨⟨u6, r6⟩, s6⟩ := HF8.out.room hlt 6 (by omega)
                    simp only [Nat.add_zero] at r0 s0
                    obtain ⟨xs', hpu⟩ := HF8.out.push (p := (nd8, ⟨⟨A1, n1, k1⟩, ⟨A2, q, k2⟩, ⟨A3, j, k3⟩⟩)) hlt HLK.out (HC8.out.leaf.mono HF.out.b.bel.size)
                    have HPU := Lib.hid hpu
                    clear hpu
                    go_wp2_with fail
                    go_roundw
                    case rel =>
                      refine ⟨k + 1, xs', _, by omega, by simp, HPU.out, Lib.hid ?_⟩
                      rw [List.map_append, HT.out, cpsV_succ HY.out HND.out]
                      congr 1
                      show [nd8] = _
                      rw [H8.out, HK6.out, HR6.out, H6.out]
                      unfold cpNd
                      rw [if_neg (by omega), ← HFR.out]
                    case measure => simp [intOf]; omega
          · have HC6 := Lib.hid HC5.out
            have HP0 : Hid (nd.par = nd0.par) := Lib.hid (by rw [HP.out.first (by omega)])
            go_upto_region 15 with fail
            clear b2 bf2
            obtain ⟨nd6, h6⟩ : ∃ x, x = { nd with id := freV next S y } := ⟨_, rfl⟩
            rw [← h6] at HC6
            have H6 := Lib.hid h6
            have HK6 : Hid (nd6.kids = nd.kids) := Lib.hid (by rw [h6])
            have HR6 : Hid (nd6.refs = nd.refs) := Lib.hid (by rw [h6])
            clear h6
            have HN2 : Hid (n2 = nd6.kids.length) := Lib.hid HC6.out.leaf.kn
            have HN3 : Hid (n3 = nd6.refs.length) := Lib.hid HC6.out.leaf.rn
            have b5 := HC6.out.box.cell 5
            simp at b5
            go_wp2_with fail
            clear b5
            go_loopw [65] (fun v wx => ∃ q : Nat, q ≤ n2 ∧ v = .int .i64 q ∧ CN wr gn { nd6 with kids := mapTo (freV next S) nd6.kids q } ⟨⟨A1, n1, k1⟩, ⟨A2, n2, k2⟩, ⟨A3, n3, k3⟩⟩ wx) (fun v _ => n2 - (intOf v).toNat)
            case atStart => exact ⟨0, Nat.zero_le _, rfl, by rw [mapTo_zero]; exact HC6.out⟩
            case round =>
              clear HC6
              obtain ⟨q, hq, rfl, hcq⟩ := hrel
              rename World => wx
              have HCq := Lib.hid hcq
              clear hcq
              by_cases hql : q < n2
              · obtain ⟨x, hx⟩ : ∃ x, nd6.kids[q]? = some x := ⟨nd6.kids[q]'(by have := HN2.out; omega), List.getElem?_eq_getElem _⟩
                have HXS : Hid (x ∈ S) := Lib.hid (HKS.out x (by rw [← HK6.out]; exact List.mem_of_getElem? hx))
                have HWx := Lib.hid (HWF.out x HXS.out)
                obtain ⟨gk, hA2, hk1, hk2, hgk, hcell, hfz, hset⟩ := HCq.out.kid (q := q) (by have := HN2.out; simp only [mapTo_len]; omega)
                simp only at hA2 hk1 hk2
                subst hA2
                have e0 := hcell x (mapTo_get hx)
                have HS2 : Hid (CN wr gn { nd6 with kids := mapTo (freV next S) nd6.kids (q + 1) } ⟨⟨A1, n1, k1⟩, ⟨some ⟨gk, 0, none⟩, n2, k2⟩, ⟨A3, n3, k3⟩⟩ (wx.setCell ⟨gk, q, none⟩ (.int .i64 (freV next S x)))) := Lib.hid (by
                  have := hset (freV next S x)
                  rw [mapTo_set hx] at this
                  exact this)
                have b5 := HCq.out.box.cell 5
                simp at b5
                clear hcell hset hx
                go_wp2_with (at_lookup; refine look_any _ rfl _ _ rfl b next _ S rfl (HF.out.after HCq.out.bel).b.f HSN.out rfl HWx.out HXS.out ?_)
                go_roundw
                case rel => exact ⟨q + 1, by omega, by simp, HS2.out⟩
                case measure => simp [intOf]; omega
              · have hqn : q = n2 := by omega
                subst hqn
                have HC7 : Hid (CN wr gn { nd6 with kids := cpKids next S nd6.kids } ⟨⟨A1, n1, k1⟩, ⟨A2, q, k2⟩, ⟨A3, n3, k3⟩⟩ wx) := Lib.hid (by
                  have := HCq.out
                  rw [mapTo_all _ _ HN2.out] at this
                  exact this)
                clear HCq
                have b6 := HC7.out.box.cell 6
                simp at b6
                go_wp2_with fail
                clear b6
                go_loopw [81] (fun v wx => ∃ j : Nat, j ≤ n3 ∧ v = .int .i64 j ∧ CN wr gn { nd6 with kids := cpKids next S nd6.kids, refs := mapTo (fun r => (r.1, freT next S r.2)) nd6.refs j } ⟨⟨A1, n1, k1⟩, ⟨A2, q, k2⟩, ⟨A3, n3, k3⟩⟩ wx) (fun v _ => n3 - (intOf v).toNat)
                case atStart => exact ⟨0, Nat.zero_le _, rfl, by rw [mapTo_zero]; exact HC7.out⟩
                case round =>
                  clear HC7
                  obtain ⟨j, hj, rfl, hcq⟩ := hrel
                  rename World => wy
                  have HCq := Lib.hid hcq
                  clear hcq
                  by_cases hjl : j < n3
                  · obtain ⟨r, hr⟩ : ∃ r, nd6.refs[j]? = some r := ⟨nd6.refs[j]'(by have := HN3.out; omega), List.getElem?_eq_getElem _⟩
                    have HWx := Lib.hid (HWR.out r (by rw [← HR6.out]; exact List.mem_of_getElem? hr))
                    obtain ⟨gk, hA3, hk1, hk2, hgk, e0, e1, hfz, hset⟩ := HCq.out.ref (q := j) (mapTo_get hr)
                    simp only at hA3 hk1 hk2
                    subst hA3
                    have b6 := HCq.out.box.cell 6
                    simp at b6
                    have HR := Lib.hid hr
                    clear hset hr hfz
                    go_upto_region 23 with (fail)
                    have HCb := Lib.hid (HCq.out.after (below_more (Below.refl _ _) (.cells #[.string r.1, .int .i64 r.2] 60)))
                    have HNb := Lib.hid (Blk.new wy 60 #[.string r.1, .int .i64 r.2])
                    generalize wy.alloc (.cells #[.string r.1, .int .i64 r.2] 60) = wz at HCb HNb ⊢
                    generalize wy.heap.size = gr at HNb ⊢
                    clear e0 e1 b6
                    have e2 := HNb.out.cell 1
                    simp at e2
                    have b6 := HCb.out.box.cell 6
                    simp at b6
                    obtain ⟨gk2, hA3, _, _, _, e0, e1, hfz, hset⟩ := HCb.out.ref (q := j) (mapTo_get HR.out)
                    simp only [Option.some.injEq, Addr.mk.injEq, and_true] at hA3
                    subst hA3
                    cases hcn : S.contains r.2 with
                    | true =>
                      have HS2 : Hid (CN wr gn { nd6 with kids := cpKids next S nd6.kids, refs := mapTo (fun r => (r.1, freT next S r.2)) nd6.refs (j + 1) } ⟨⟨A1, n1, k1⟩, ⟨A2, q, k2⟩, ⟨some ⟨gk, 0, none⟩, n3, k3⟩⟩ (wz.setCell ⟨gk, j * 2 + 1, none⟩ (.int .i64 (freV next S r.2)))) := Lib.hid (by
                        have h1 := hset (freV next S r.2)
                        have h2 : (r.1, freV next S r.2) = (fun r => (r.1, freT next S r.2)) r := by simp only [freT]; rw [if_pos hcn]
                        rw [h2, mapTo_set (f := fun r => (r.1, freT next S r.2)) HR.out] at h1
                        exact h1)
                      have HCN := Lib.hid hcn
                      clear hset hcn
                      go_wp2_with (at_lookup; refine look_ok_any _ rfl _ _ rfl b next _ S rfl (HF.out.after HCb.out.bel).b.f HSN.out rfl HWx.out ?_; rw [HCN.out]; intro v hv; obtain rfl := hv rfl; clear hv)
                      go_roundw
                      case rel => exact ⟨j + 1, by omega, by simp, HS2.out⟩
                      case measure => simp [intOf]; omega
                    | false =>
                      have HS2 : Hid (CN wr gn { nd6 with kids := cpKids next S nd6.kids, refs := mapTo (fun r => (r.1, freT next S r.2)) nd6.refs (j + 1) } ⟨⟨A1, n1, k1⟩, ⟨A2, q, k2⟩, ⟨some ⟨gk, 0, none⟩, n3, k3⟩⟩ wz) := Lib.hid (by
                        have h2 : (fun r : ByteArray × Int => (r.1, freT next S r.2)) r = r := by simp only [freT]; rw [if_neg (by rw [hcn]; simp)]
                        rw [mapTo_same HR.out h2]
                        exact HCb.out)
                      have HCN := Lib.hid hcn
                      clear hset hcn
                      go_wp2_with (at_lookup; refine look_ok_any _ rfl _ _ rfl b next _ S rfl (HF.out.after HCb.out.bel).b.f HSN.out rfl HWx.out ?_; rw [HCN.out]; intro v hv; clear hv)
                      go_roundw
                      case rel => exact ⟨j + 1, by omega, by simp, HS2.out⟩
                      case measure => simp [intOf]; omega
                  · have hjn : j = n3 := by omega
                    subst hjn
                    obtain ⟨nd8, h8⟩ : ∃ x, x = { nd6 with kids := cpKids next S nd6.kids, refs := cpRefs next S nd6.refs } := ⟨_, rfl⟩
                    have HC8 : Hid (CN wr gn nd8 ⟨⟨A1, n1, k1⟩, ⟨A2, q, k2⟩, ⟨A3, j, k3⟩⟩ wy) := Lib.hid (by
                      have := HCq.out
                      rw [mapTo_all _ _ HN3.out] at this
                      rw [h8]
                      exact this)
                    have H8 := Lib.hid h8
                    clear HCq h8
                    have b0 := HC8.out.box.cell 0
                    have b1 := HC8.out.box.cell 1
                    have b2 := HC8.out.box.cell 2
                    have b3 := HC8.out.box.cell 3
                    have b4 := HC8.out.box.cell 4
                    have b5 := HC8.out.box.cell 5
                    have b6 := HC8.out.box.cell 6
                    simp at b0 b1 b2 b3 b4 b5 b6
                    have HF8 := Lib.hid (HF.out.after HC8.out.bel)
                    obtain ⟨⟨u0, r0⟩, s0⟩ := HF8.out.room hlt 0 (by omega)
                    obtain ⟨⟨u1, r1⟩, s1⟩ := HF8.out.room hlt 1 (by omega)
                    obtain ⟨⟨u2, r2⟩, s2⟩ := HF8.out.room hlt 2 (by omega)
                    obtain ⟨⟨u3, r3⟩, s3⟩ := HF8.out.room hlt 3 (by omega)
                    obtain ⟨⟨u4, r4⟩, s4⟩ := HF8.out.room hlt 4 (by omega)
                    obtain ⟨⟨u5, r5⟩, s5⟩ := HF8.out.room hlt 5 (by omega)
                    obtain ⟨⟨u6, r6⟩, s6⟩ := HF8.out.room hlt 6 (by omega)
                    simp only [Nat.add_zero] at r0 s0
                    obtain ⟨xs', hpu⟩ := HF8.out.push (p := (nd8, ⟨⟨A1, n1, k1⟩, ⟨A2, q, k2⟩, ⟨A3, j, k3⟩⟩)) hlt HLK.out (HC8.out.leaf.mono HF.out.b.bel.size)
                    have HPU := Lib.hid hpu
                    clear hpu
                    go_wp2_with fail
                    go_roundw
                    case rel =>
                      refine ⟨k + 1, xs', _, by omega, by simp, HPU.out, Lib.hid ?_⟩
                      rw [List.map_append, HT.out, cpsV_succ HY.out HND.out]
                      congr 1
                      show [nd8] = _
                      rw [H8.out, HK6.out, HR6.out, H6.out]
                      unfold cpNd
                      rw [if_pos (by omega), ← HFR.out, ← HP0.out]
                    case measure => simp [intOf]; omega
        · have hkn : k = S.length := by omega
          go_wp2_with fail
          go_ret
          exact ⟨g, l, rfl, HF.out.ownM hkn HLK.out, by rw [HT.out, hkn], HF.out.b.bel⟩
end Go.Proofs.YtbkmdlfenbfdlaaGreat

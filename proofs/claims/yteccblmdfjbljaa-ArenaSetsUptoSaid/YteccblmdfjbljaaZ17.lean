/-
  WALKS: the document's Put and Aim, where a list is laid.
  WALKS: the document's Put, Drop, Aim, Loose, in one; what they answer, and the program's own, as it lies in memory.
-/
import Derived.Test.YteccblmdfjbljaaZ16
namespace Go.Proofs.Yteccblmdfjbljaa
open Go Go.RowKit Go.Sort
set_option linter.unusedVariables false
attribute [local go_sem ↓] Go.wp_at_zero Go.wp_at_succ
set_option maxRecDepth 20000 in
set_option maxHeartbeats 1600000 in
theorem refPut_yes (w : World) (hi : Nat) (next id : Int) (A : Option Addr) (n c : Nat) (nds : List Nd) (name : ByteArray) (val : ByteArray) (h : NodesIn w 0 hi A n c nds) (hh : hi ≤ w.heap.size) (hsn : name.size ≤ maxLen) (hrt : rightB next nds = true) (hwd : wordB name = true) (hlg : ¬ 4096 < val.size) (hr : Rise nds) (hn : n ≤ 4096) (hf : ∀ nd ∈ nds, Fits 1 nd)
    (i : Nat) (nd : Nd) (hav : atV nds id = (i : Int)) (hnd : nds[i]? = some nd) :
    Calls Try.prog 18 #[.agg #[.int .i64 next, .slice A n c], .int .i64 id, .string name, .string val] w (SetPost w next 0 (nds.set i { nd with props := layV name val false nd.props })) := by
  have hc := h.2.2.1
  have hnc := h.2.1
  unfold maxLen at hc
  have HL := Lib.hid h.1
  have hin : i < n := by rw [← h.1]; exact (List.getElem?_eq_some_iff.1 hnd).1
  obtain ⟨b, o, hA, _, hb, V, hV⟩ := h.all (by omega)
  subst hA
  have hat0 := (hV i nd hnd).1.c4
  have hlf := (hV i nd hnd).2
  generalize V i = L at hat0 hlf
  have hpn := hlf.pn
  have hrow := hlf.p
  have HSZ := Lib.hid hlf.sz.props
  have HSN := Lib.hid hsn
  obtain ⟨⟨Ap, np, cp⟩, ⟨Ak, nk, ck⟩, ⟨Ar, nr, cr⟩⟩ := L
  simp only at hat0 hpn hrow
  have hck := hrow.2.2.1
  have hcn := hrow.2.1
  unfold maxLen at hck
  have hfit := (hf nd (List.mem_of_getElem? hnd)).p
  have hnp : np ≤ 4398046511104 := by omega
  have HAV := Lib.hid hav
  have HM0 := Lib.hid (CB.start w next (some ⟨b, o, none⟩) n c)
  have HRg := Lib.hid (refRight_any _ hi next (some ⟨b, o, none⟩) n c nds (h.below (HM0.out.bel.mono hh)) (Nat.le_trans hh HM0.out.bel.size))
  have HWd := Lib.hid fun (X : World) => refWord_any name X hsn
  have HAt : Hid (∀ X, CB w next (some ⟨b, o, none⟩) n c X → Calls Try.prog 49 #[.agg #[.int .i64 next, .slice (some ⟨b, o, none⟩) n c], .int .i64 id] X (Ret X (.int .i64 i))) := Lib.hid fun X hX => by
    have := refAt_any X hi next id _ n c nds (h.below (hX.bel.mono hh)) (Nat.le_trans hh hX.bel.size) hr hn
    rw [HAV.out] at this
    exact this
  have h5 : ¬ (4096 : Int) < (val.size : Int) := by omega
  have h6 : (val.size : Int) ≤ 4096 := by omega
  have hsv : val.size ≤ maxLen := by unfold maxLen; omega
  have HSV := Lib.hid hsv
  have HTw := Lib.hid fun (X : World) (hX : Below w.heap.size w X) => twin_any X hi next (some ⟨b, o, none⟩) n c nds (h.below (hX.mono hh)) (Nat.le_trans hh hX.size) hn hf
  have a0 := (HM0.out.m.cell 0).trans (show _ = some (.int .i64 next) from rfl)
  have a1 := (HM0.out.m.cell 1).trans (show _ = some (.slice (some ⟨b, o, none⟩) n c) from rfl)
  have HRT := Lib.hid hrt
  have HWT := Lib.hid hwd
  have HND := Lib.hid hnd
  have HPN := Lib.hid hpn
  have HROW := Lib.hid hrow
  have HSX := Lib.hid fun x (hx : x ∈ layV name val false nd.props) => (layV_mem name val _ _ x hx).elim (fun h => HSZ.out x h) (fun hx => by rw [hx]; exact ⟨HSN.out, HSV.out⟩)
  have HC4 : Hid (∀ X, Below w.heap.size w X → X.cell? ⟨b, o + i * 7 + 4, none⟩ = some (.slice Ap np cp)) := Lib.hid fun X hX => (hX.cell (p := ⟨b, _, none⟩) (Nat.lt_of_lt_of_le hb hh)).trans hat0
  have hi0' : ¬ (i : Int) < 0 := by omega
  obtain ⟨i0, hi0, hz0, hz1, hz2⟩ := info_parts propInfo
  clear h hrt hwd hr hf hnd hav hV hlf hat0 hpn hrow hsn hsv
  go_enter Try.func18, Try.ntmps18
  go_upto_region 10 with (first | (go_at_call 47; go_must (refine HRg.out.mono ?_; rintro e w2 ⟨rfl, hb2⟩; rw [HRT.out]; have HM2 := Lib.hid (HM0.out.after hb2); have b0 := (HM2.out.m.cell 0).trans (show _ = some (.int .i64 next) from rfl); have b1 := (HM2.out.m.cell 1).trans (show _ = some (.slice (some ⟨b, o, none⟩) n c) from rfl); clear hb2)) | (go_at_call 48; go_must (refine (HWd.out _).mono ?_; rintro e w3 ⟨rfl, rfl⟩; rw [HWT.out])) | (go_at_call 49; (with_reducible refine (HAt.out _ HM2.out).mono ?_); go_must (rintro e w4 ⟨rfl, hb4⟩; have HM4 := Lib.hid (HM2.out.after hb4); have m40 := (HM4.out.m.cell 0).trans (show _ = some (.int .i64 next) from rfl); have m41 := (HM4.out.m.cell 1).trans (show _ = some (.slice (some ⟨b, o, none⟩) n c) from rfl); clear hb4)) | (go_at_call 53; (with_reducible refine (HTw.out _ HM4.out.bel).mono ?_); go_must (rintro e w5 ⟨ov, l, rfl, hown5, hmap5, hb5⟩; obtain ⟨Ao, co, hov⟩ := own_form hown5.own; have hln5 : l.length = n := (by have := congrArg List.length hmap5; rw [List.length_map, HL.out] at this; exact this); rw [hln5] at hov; subst hov; have HLN := Lib.hid hln5; have HM5 := Lib.hid (HM4.out.after hb5); have HO5 := Lib.hid (hown5.mono HM4.out.bel.size); have HMP := Lib.hid hmap5; clear hown5 hmap5 hb5 hln5)))
  obtain ⟨g, hgA⟩ := own_some HO5.out HLN.out (by omega)
  subst hgA
  have HD6 := Lib.hid (DL.start HM5.out HO5.out 83)
  generalize w5.alloc (.cells #[.int .i64 next, .slice (some ⟨g, 0, none⟩) n co] 24) = X6 at HD6 ⊢
  have m60 := (HD6.out.cb.m.cell 0).trans (show _ = some (.int .i64 next) from rfl)
  have m61 := (HD6.out.cb.m.cell 1).trans (show _ = some (.slice (some ⟨b, o, none⟩) n c) from rfl)
  go_wp2_with ((go_at_call 49; (with_reducible refine (HAt.out _ HD6.out.cb).mono ?_); go_must (rintro e w7 ⟨rfl, hb7⟩; have HD7 := Lib.hid (HD6.out.after hb7); clear hb7)))
  go_loopw [12, 13, 14] (fun v ld s14 wr => ∃ (k : Nat) (bb : Bool) (fo : List (ByteArray × ByteArray)), k ≤ np ∧ ld = .bool bb ∧ s14 = .int .i64 k ∧ Hid (fo ++ layV name val bb (nd.props.drop k) = layV name val false nd.props) ∧ fo.length ≤ k + bb.toNat ∧ DL w w5 next (some ⟨b, o, none⟩) n c (.slice (some ⟨g, 0, none⟩) n co) l 83 v fo.length (propCells fo) wr) (fun _ _ v _ => np - (intOf v).toNat)
  case atStart => exact ⟨0, false, [], Nat.zero_le _, rfl, rfl, Lib.hid (by rw [List.drop_zero]; rfl), by simp, HD7.out⟩
  case round =>
    obtain ⟨k, bb, fo, hk, rfl, rfl, HINV, hfl, W⟩ := hrel
    have HW := Lib.hid W
    clear W
    rename World => wr
    by_cases hlt : k < np
    · obtain ⟨p, hp⟩ : ∃ p, nd.props[k]? = some p := ⟨nd.props[k]'(by have := HPN.out; omega), List.getElem?_eq_getElem _⟩
      obtain ⟨bp, op, hAp, hbp, hcp⟩ := row2_at HROW.out hh (by omega)
      subst hAp
      have hg2 := propCells_get hp
      have HSof : Hid (∀ X, CB w next (some ⟨b, o, none⟩) n c X → Below w.heap.size w X ∧ X.cell? ⟨w.heap.size, 1, none⟩ = some (.slice (some ⟨b, o, none⟩) n c) ∧ X.cell? ⟨b, o + i * 7 + 4, none⟩ = some (.slice (some ⟨bp, op, none⟩) np cp) ∧ X.cell? ⟨bp, op + k * 2, none⟩ = some (.string p.1) ∧ X.cell? ⟨bp, op + k * 2 + 1, none⟩ = some (.string p.2)) := Lib.hid fun X hX => ⟨hX.bel, (hX.m.cell 1).trans rfl, HC4.out X hX.bel, hcp _ _ hg2.1 X hX.bel, hcp _ _ hg2.2 X hX.bel⟩
      have HPK := Lib.hid hp
      clear hcp hg2 hp
      obtain ⟨_, q1, q2, q3, q4⟩ := HSof.out _ HW.out.cb
      go_upto_region 17 with (fail)
      clear q1 q2 q3 q4
      have HD1 := Lib.hid (HW.out.after (below_more (Below.refl _ _) (.cells #[.string p.1, .string p.2] 83)))
      have HPB : Hid (∀ ob X', ((wr.alloc (.cells #[.string p.1, .string p.2] 83)).alloc ob).grownBy X' u12.ownBlock → Blk X' wr.heap.size 83 #[.string p.1, .string p.2]) := Lib.hid fun ob X' hg => HW.out.box ob hg
      have hb1 := Blk.new wr 83 #[.string p.1, .string p.2]
      have p10 := (hb1.cell 0).trans (show _ = some (.string p.1) from rfl)
      have p11 := (hb1.cell 1).trans (show _ = some (.string p.2) from rfl)
      clear hb1
      generalize wr.alloc (.cells #[.string p.1, .string p.2] 83) = X1 at HD1 HPB p10 p11 ⊢
      generalize wr.heap.size = gp at HPB p10 p11 ⊢
      obtain ⟨lt, HLT⟩ : ∃ lt, Hid (ltS p.1 name = lt) := ⟨_, Lib.hid rfl⟩
      obtain ⟨ne, HNE⟩ : ∃ ne, Hid ((p.1.toList == name.toList) = ne) := ⟨_, Lib.hid rfl⟩
      have hl1 : Op.bytesLess p.1.toList name.toList = lt := HLT.out
      have hn1 : (p.1.toList == name.toList) = ne := HNE.out
      have hn2 : (p.1.toList != name.toList) = !ne := by unfold bne; rw [hn1]
      cases bb with
      | true =>
        simp only [Bool.toNat_true] at hfl
        cases ne with
        | true =>
          simp only [Bool.not_true] at hn2
          go_wp2_with fail
          go_roundw
          case rel =>
            refine ⟨k + 1, true, fo, by omega, rfl, rfl, Lib.hid ?_, by simp; omega, HD1.out⟩
            rw [← HINV.out, layV_step name val _ nd.props HPK.out, HLT.out, HNE.out]
            simp
          case measure => simp [intOf]; omega
        | false =>
          simp only [Bool.not_false] at hn2
          go_wp2_with (at_builtin; (with_reducible show wpList _ _ _ (⟨some 79, _, _, _, _, _⟩ :: _) _ _); go_must (refine wpList_app _ rfl (.tmp 76) (.tmp 78) _ rfl (w5.heap.size + 1) 83 i0 _ 2 32 Try.underlying77 hi0 hz0 hz1 hz2 rfl (by omega) u12 fo.length (propCells fo) rfl (own_after HD1.out.own (below_more (Below.refl _ _) _)) X1.heap.size (X1.heap.size + 1) (some ⟨X1.heap.size, 0, none⟩) 1 1 [.string p.1, .string p.2] rfl (row_blk (n := 1) (Blk.new' rfl) rfl (Nat.le_refl _) (by unfold maxLen; omega)) (by simp [Value.oneCell']) (by skip; unfold maxLen; omega) (by skip; have := HPN.out; omega) (by have := HD1.out.o.lt; simp; omega) ?_); go_must (intro v9 w9 hown9 hg9 _; have HD3 := Lib.hid ((HD1.out.after (below_more (Below.refl _ _) _)).pushP HM5.out HO5.out hg9 hown9); clear hown9 hg9))
          go_roundw
          case rel =>
            refine ⟨k + 1, true, (fo ++ [(p.1, p.2)]), by omega, rfl, rfl, Lib.hid ?_, by simp; omega, HD3.out⟩
            rw [← HINV.out, layV_step name val _ nd.props HPK.out, HLT.out, HNE.out]
            simp
          case measure => simp [intOf]; omega
      | false =>
        simp only [Bool.toNat_false, Nat.add_zero] at hfl
        cases lt with
        | true =>
          cases ne with
          | true =>
            simp only [Bool.not_true] at hn2
            go_wp2_with fail
            go_roundw
            case rel =>
              refine ⟨k + 1, false, fo, by omega, rfl, rfl, Lib.hid ?_, by simp; omega, HD1.out⟩
              rw [← HINV.out, layV_step name val _ nd.props HPK.out, HLT.out, HNE.out]
              simp
            case measure => simp [intOf]; omega
          | false =>
            simp only [Bool.not_false] at hn2
            go_wp2_with (at_builtin; (with_reducible show wpList _ _ _ (⟨some 79, _, _, _, _, _⟩ :: _) _ _); go_must (refine wpList_app _ rfl (.tmp 76) (.tmp 78) _ rfl (w5.heap.size + 1) 83 i0 _ 2 32 Try.underlying77 hi0 hz0 hz1 hz2 rfl (by omega) u12 fo.length (propCells fo) rfl (own_after HD1.out.own (below_more (Below.refl _ _) _)) X1.heap.size (X1.heap.size + 1) (some ⟨X1.heap.size, 0, none⟩) 1 1 [.string p.1, .string p.2] rfl (row_blk (n := 1) (Blk.new' rfl) rfl (Nat.le_refl _) (by unfold maxLen; omega)) (by simp [Value.oneCell']) (by skip; unfold maxLen; omega) (by skip; have := HPN.out; omega) (by have := HD1.out.o.lt; simp; omega) ?_); go_must (intro v9 w9 hown9 hg9 _; have HD3 := Lib.hid ((HD1.out.after (below_more (Below.refl _ _) _)).pushP HM5.out HO5.out hg9 hown9); clear hown9 hg9))
            go_roundw
            case rel =>
              refine ⟨k + 1, false, (fo ++ [(p.1, p.2)]), by omega, rfl, rfl, Lib.hid ?_, by simp; omega, HD3.out⟩
              rw [← HINV.out, layV_step name val _ nd.props HPK.out, HLT.out, HNE.out]
              simp
            case measure => simp [intOf]; omega
        | false =>
          cases ne with
          | true =>
            simp only [Bool.not_true] at hn2
            go_wp2_with (at_builtin; (with_reducible show wpList _ _ _ (⟨some 71, _, _, _, _, _⟩ :: _) _ _); go_must (refine wpList_app _ rfl (.tmp 66) (.tmp 70) _ rfl (w5.heap.size + 1) 83 i0 _ 2 32 Try.underlying77 hi0 hz0 hz1 hz2 rfl (by omega) u12 fo.length (propCells fo) rfl (own_after HD1.out.own (below_more (Below.refl _ _) _)) X1.heap.size (X1.heap.size + 1) (some ⟨X1.heap.size, 0, none⟩) 1 1 [.string name, .string val] rfl (row_blk (n := 1) (Blk.new' rfl) rfl (Nat.le_refl _) (by unfold maxLen; omega)) (by simp [Value.oneCell']) (by skip; unfold maxLen; omega) (by skip; have := HPN.out; omega) (by have := HD1.out.o.lt; simp; omega) ?_); go_must (intro v8 w8 hown8 hg8 _; have HD2 := Lib.hid ((HD1.out.after (below_more (Below.refl _ _) _)).pushP HM5.out HO5.out hg8 hown8); have hbx := HPB.out _ _ hg8; have c80 := (hbx.cell 0).trans (show _ = some (.string p.1) from rfl); have c81 := (hbx.cell 1).trans (show _ = some (.string p.2) from rfl); clear hbx hown8 hg8))
            go_roundw
            case rel =>
              refine ⟨k + 1, true, (fo ++ [(name, val)]), by omega, rfl, rfl, Lib.hid ?_, by simp; omega, HD2.out⟩
              rw [← HINV.out, layV_step name val _ nd.props HPK.out, HLT.out, HNE.out]
              simp
            case measure => simp [intOf]; omega
          | false =>
            simp only [Bool.not_false] at hn2
            go_wp2_with (first | (at_builtin; (with_reducible show wpList _ _ _ (⟨some 71, _, _, _, _, _⟩ :: _) _ _); go_must (refine wpList_app _ rfl (.tmp 66) (.tmp 70) _ rfl (w5.heap.size + 1) 83 i0 _ 2 32 Try.underlying77 hi0 hz0 hz1 hz2 rfl (by omega) u12 fo.length (propCells fo) rfl (own_after HD1.out.own (below_more (Below.refl _ _) _)) X1.heap.size (X1.heap.size + 1) (some ⟨X1.heap.size, 0, none⟩) 1 1 [.string name, .string val] rfl (row_blk (n := 1) (Blk.new' rfl) rfl (Nat.le_refl _) (by unfold maxLen; omega)) (by simp [Value.oneCell']) (by skip; unfold maxLen; omega) (by skip; have := HPN.out; omega) (by have := HD1.out.o.lt; simp; omega) ?_); go_must (intro v8 w8 hown8 hg8 _; have HD2 := Lib.hid ((HD1.out.after (below_more (Below.refl _ _) _)).pushP HM5.out HO5.out hg8 hown8); have hbx := HPB.out _ _ hg8; have c80 := (hbx.cell 0).trans (show _ = some (.string p.1) from rfl); have c81 := (hbx.cell 1).trans (show _ = some (.string p.2) from rfl); obtain ⟨f2, hf2⟩ : ∃ f2, fo ++ [(name, val)] = f2 := ⟨_, rfl⟩; rw [hf2] at HD2; have hfl2 : f2.length ≤ k + 1 := (by rw [← hf2, List.length_append, List.length_singleton]; omega); have HF2 := Lib.hid hf2; clear hbx hown8 hg8 hf2)) | (at_builtin; (with_reducible show wpList _ _ _ (⟨some 79, _, _, _, _, _⟩ :: _) _ _); go_must (refine wpList_app _ rfl (.tmp 76) (.tmp 78) _ rfl (w5.heap.size + 1) 83 i0 _ 2 32 Try.underlying77 hi0 hz0 hz1 hz2 rfl (by omega) v8 f2.length (propCells f2) rfl (own_after HD2.out.own (below_more (Below.refl _ _) _)) w8.heap.size (w8.heap.size + 1) (some ⟨w8.heap.size, 0, none⟩) 1 1 [.string p.1, .string p.2] rfl (row_blk (n := 1) (Blk.new' rfl) rfl (Nat.le_refl _) (by unfold maxLen; omega)) (by simp [Value.oneCell']) (by skip; unfold maxLen; omega) (by skip; have := HPN.out; omega) (by have := HD2.out.o.lt; simp; omega) ?_); go_must (intro v9 w9 hown9 hg9 _; have HD3 := Lib.hid ((HD2.out.after (below_more (Below.refl _ _) _)).pushP HM5.out HO5.out hg9 hown9); clear hown9 hg9)))
            go_roundw
            case rel =>
              refine ⟨k + 1, true, (f2 ++ [(p.1, p.2)]), by omega, rfl, rfl, Lib.hid ?_, by simp; omega, HD3.out⟩
              rw [← HF2.out, ← HINV.out, layV_step name val _ nd.props HPK.out, HLT.out, HNE.out]
              simp
            case measure => simp [intOf]; omega
    · have hkn : k = np := by omega
      subst hkn
      obtain ⟨q, hq, hqn⟩ : ∃ q, l[i]? = some q ∧ q.1 = nd := by
        have h1 : (l.map (·.1))[i]? = some nd := by rw [HMP.out]; exact HND.out
        rw [List.getElem?_map] at h1
        cases hx : l[i]? with
        | none => rw [hx] at h1; cases h1
        | some q => rw [hx] at h1; exact ⟨q, rfl, by simpa using h1⟩
      obtain ⟨nd', M⟩ := q
      obtain rfl : nd' = nd := hqn
      have HQ := Lib.hid hq
      have m91 := (HW.out.cb.m.cell 1).trans (show _ = some (.slice (some ⟨b, o, none⟩) n c) from rfl)
      have q2 := HC4.out _ HW.out.cb.bel
      have hdn : nd'.props.drop k = [] := List.drop_eq_nil_of_le (by have := HPN.out; omega)
      cases bb with
      | true =>
        have HFE : Hid (fo = layV name val false nd'.props) := Lib.hid (by have := HINV.out; rw [hdn] at this; simpa [layV] using this)
        clear hq hdn HINV
        obtain ⟨Av, cv, hv⟩ := own_form HW.out.own
        subst hv
        have hcl := HW.out.om.cellIs HLN.out HQ.out (j := 4) (by omega) rfl
        have k9 := hcl.1
        have f9 := hcl.2
        simp only at k9
        have o90 := (HW.out.o.cell 0).trans (show _ = some (.int .i64 next) from rfl)
        have o91 := (HW.out.o.cell 1).trans (show _ = some (.slice (some ⟨g, 0, none⟩) n co) from rfl)
        obtain ⟨e1, e2, e3⟩ := HW.out.endP HM5.out.bel.size HLN.out HQ.out rfl (fun x hx => HSX.out x (by rw [← HFE.out]; exact hx))
        have m92 := (e1.r.frozen 0)
        have m93 := (e1.r.frozen 1)
        have m94 := (e1.r.cell 0).trans (show _ = some (.int .i64 0) from rfl)
        have m95 := (e1.r.cell 1).trans (show _ = some (.slice none 0 0) from rfl)
        have o92 := (e2.cell 0).trans (show _ = some (.int .i64 next) from rfl)
        have o93 := (e2.cell 1).trans (show _ = some (.slice (some ⟨g, 0, none⟩) n co) from rfl)
        have HE1 := Lib.hid e1
        have HE3 := Lib.hid e3
        clear e1 e2 e3 hcl
        go_wp2_with fail
        (try rw [Exit.noGoto_ret])
        (try simp only [Exit.inBlock, Exit.then])
        have hres : Try.f18.results = #[.cell 8 24, .tmp 9] := by kernel_rfl
        refine bodyPost_ret (v := .tuple #[.agg #[.int .i64 next, .slice (some ⟨g, 0, none⟩) n co], .int .i64 0]) ?hr rfl ?_
        case hr =>
          simp only [results, hres]
          go_simp
        refine ⟨next, some ⟨g, 0, none⟩, n, co, rfl, HE1.out.lay _ _, fun h => absurd rfl h, fun _ => ⟨rfl, _, HE1.out.laid HE3.out _ _, by rw [List.length_set]; exact HLN.out, ?_⟩⟩
        rw [List.map_set, HMP.out, HFE.out]
      | false =>
        simp only [Bool.toNat_false, Nat.add_zero] at hfl
        obtain ⟨f2, hf2⟩ : ∃ f2, fo ++ [(name, val)] = f2 := ⟨_, rfl⟩
        have HF2 := Lib.hid hf2
        have HFE : Hid (f2 = layV name val false nd'.props) := Lib.hid (by rw [← hf2]; have := HINV.out; rw [hdn] at this; simpa [layV] using this)
        clear hq hdn HINV hf2
        go_upto_region 24 with (at_builtin; (with_reducible show wpList _ _ _ (⟨some 87, _, _, _, _, _⟩ :: _) _ _); go_must (refine wpList_app _ rfl (.tmp 82) (.tmp 86) _ rfl (w5.heap.size + 1) 83 i0 _ 2 32 Try.underlying77 hi0 hz0 hz1 hz2 rfl (by omega) u12 fo.length (propCells fo) rfl (own_after HW.out.own (below_more (Below.refl _ _) _)) wr.heap.size (wr.heap.size + 1) (some ⟨wr.heap.size, 0, none⟩) 1 1 [.string name, .string val] rfl (row_blk (n := 1) (Blk.new' rfl) rfl (Nat.le_refl _) (by unfold maxLen; omega)) (by simp [Value.oneCell']) (by skip; unfold maxLen; omega) (by skip; have := HPN.out; omega) (by have := HW.out.o.lt; simp; omega) ?_); go_must (intro v8 w8 hown8 hg8 _; have HD2 := Lib.hid ((HW.out.after (below_more (Below.refl _ _) _)).pushP HM5.out HO5.out hg8 hown8); rw [HF2.out] at HD2; clear hown8 hg8))
        obtain ⟨Av, cv, hv⟩ := own_form HD2.out.own
        subst hv
        have hcl := HD2.out.om.cellIs HLN.out HQ.out (j := 4) (by omega) rfl
        have k9 := hcl.1
        have f9 := hcl.2
        simp only at k9
        have o90 := (HD2.out.o.cell 0).trans (show _ = some (.int .i64 next) from rfl)
        have o91 := (HD2.out.o.cell 1).trans (show _ = some (.slice (some ⟨g, 0, none⟩) n co) from rfl)
        obtain ⟨e1, e2, e3⟩ := HD2.out.endP HM5.out.bel.size HLN.out HQ.out rfl (fun x hx => HSX.out x (by rw [← HFE.out]; exact hx))
        have m92 := (e1.r.frozen 0)
        have m93 := (e1.r.frozen 1)
        have m94 := (e1.r.cell 0).trans (show _ = some (.int .i64 0) from rfl)
        have m95 := (e1.r.cell 1).trans (show _ = some (.slice none 0 0) from rfl)
        have o92 := (e2.cell 0).trans (show _ = some (.int .i64 next) from rfl)
        have o93 := (e2.cell 1).trans (show _ = some (.slice (some ⟨g, 0, none⟩) n co) from rfl)
        have HE1 := Lib.hid e1
        have HE3 := Lib.hid e3
        clear e1 e2 e3 hcl
        go_wp2_with fail
        (try rw [Exit.noGoto_ret])
        (try simp only [Exit.inBlock, Exit.then])
        have hres : Try.f18.results = #[.cell 8 24, .tmp 9] := by kernel_rfl
        refine bodyPost_ret (v := .tuple #[.agg #[.int .i64 next, .slice (some ⟨g, 0, none⟩) n co], .int .i64 0]) ?hr rfl ?_
        case hr =>
          simp only [results, hres]
          go_simp
        refine ⟨next, some ⟨g, 0, none⟩, n, co, rfl, HE1.out.lay _ _, fun h => absurd rfl h, fun _ => ⟨rfl, _, HE1.out.laid HE3.out _ _, by rw [List.length_set]; exact HLN.out, ?_⟩⟩
        rw [List.map_set, HMP.out, HFE.out]
set_option maxRecDepth 20000 in
set_option maxHeartbeats 1600000 in
theorem refAim_yes (w : World) (hi : Nat) (next id : Int) (A : Option Addr) (n c : Nat) (nds : List Nd) (name : ByteArray) (val : Int) (h : NodesIn w 0 hi A n c nds) (hh : hi ≤ w.heap.size) (hsn : name.size ≤ maxLen) (hrt : rightB next nds = true) (hwd : wordB name = true) (j : Nat) (hat : atV nds val = (j : Int)) (hr : Rise nds) (hn : n ≤ 4096) (hf : ∀ nd ∈ nds, Fits 1 nd)
    (i : Nat) (nd : Nd) (hav : atV nds id = (i : Int)) (hnd : nds[i]? = some nd) :
    Calls Try.prog 22 #[.agg #[.int .i64 next, .slice A n c], .int .i64 id, .string name, .int .i64 val] w (SetPost w next 0 (nds.set i { nd with refs := layV name val false nd.refs })) := by
  have hc := h.2.2.1
  have hnc := h.2.1
  unfold maxLen at hc
  have HL := Lib.hid h.1
  have hin : i < n := by rw [← h.1]; exact (List.getElem?_eq_some_iff.1 hnd).1
  obtain ⟨b, o, hA, _, hb, V, hV⟩ := h.all (by omega)
  subst hA
  have hat0 := (hV i nd hnd).1.c6
  have hlf := (hV i nd hnd).2
  generalize V i = L at hat0 hlf
  have hpn := hlf.rn
  have hrow := hlf.r
  have HSZ := Lib.hid hlf.sz.refs
  have HSN := Lib.hid hsn
  obtain ⟨⟨Ar, nr, cr⟩, ⟨Ak, nk, ck⟩, ⟨Ap, np, cp⟩⟩ := L
  simp only at hat0 hpn hrow
  have hck := hrow.2.2.1
  have hcn := hrow.2.1
  unfold maxLen at hck
  have hfit := (hf nd (List.mem_of_getElem? hnd)).r
  have hnp : np ≤ 5864062014805 := by omega
  have HAV := Lib.hid hav
  have HM0 := Lib.hid (CB.start w next (some ⟨b, o, none⟩) n c)
  have HRg := Lib.hid (refRight_any _ hi next (some ⟨b, o, none⟩) n c nds (h.below (HM0.out.bel.mono hh)) (Nat.le_trans hh HM0.out.bel.size))
  have HWd := Lib.hid fun (X : World) => refWord_any name X hsn
  have HAt : Hid (∀ X, CB w next (some ⟨b, o, none⟩) n c X → Calls Try.prog 49 #[.agg #[.int .i64 next, .slice (some ⟨b, o, none⟩) n c], .int .i64 id] X (Ret X (.int .i64 i))) := Lib.hid fun X hX => by
    have := refAt_any X hi next id _ n c nds (h.below (hX.bel.mono hh)) (Nat.le_trans hh hX.bel.size) hr hn
    rw [HAV.out] at this
    exact this
  have HBV := Lib.hid hat
  have HBt : Hid (∀ X, CB w next (some ⟨b, o, none⟩) n c X → Calls Try.prog 49 #[.agg #[.int .i64 next, .slice (some ⟨b, o, none⟩) n c], .int .i64 val] X (Ret X (.int .i64 j))) := Lib.hid fun X hX => by
    have := refAt_any X hi next val _ n c nds (h.below (hX.bel.mono hh)) (Nat.le_trans hh hX.bel.size) hr hn
    rw [HBV.out] at this
    exact this
  have hj0 : ¬ (j : Int) < 0 := by omega
  have HTw := Lib.hid fun (X : World) (hX : Below w.heap.size w X) => twin_any X hi next (some ⟨b, o, none⟩) n c nds (h.below (hX.mono hh)) (Nat.le_trans hh hX.size) hn hf
  have a0 := (HM0.out.m.cell 0).trans (show _ = some (.int .i64 next) from rfl)
  have a1 := (HM0.out.m.cell 1).trans (show _ = some (.slice (some ⟨b, o, none⟩) n c) from rfl)
  have HRT := Lib.hid hrt
  have HWT := Lib.hid hwd
  have HND := Lib.hid hnd
  have HPN := Lib.hid hpn
  have HROW := Lib.hid hrow
  have HSX := Lib.hid fun x (hx : x ∈ layV name val false nd.refs) => (layV_mem name val _ _ x hx).elim (fun h => HSZ.out x h) (fun hx => by rw [hx]; exact HSN.out)
  have HC4 : Hid (∀ X, Below w.heap.size w X → X.cell? ⟨b, o + i * 7 + 6, none⟩ = some (.slice Ap np cp)) := Lib.hid fun X hX => (hX.cell (p := ⟨b, _, none⟩) (Nat.lt_of_lt_of_le hb hh)).trans hat0
  have hi0' : ¬ (i : Int) < 0 := by omega
  obtain ⟨i0, hi0, hz0, hz1, hz2⟩ := info_parts refInfo
  clear h hrt hwd hr hf hnd hav hV hlf hat0 hpn hrow hsn hat
  go_enter Try.func22, Try.ntmps22
  go_upto_region 8 with (first | (go_at_call 47; go_must (refine HRg.out.mono ?_; rintro e w2 ⟨rfl, hb2⟩; rw [HRT.out]; have HM2 := Lib.hid (HM0.out.after hb2); have b0 := (HM2.out.m.cell 0).trans (show _ = some (.int .i64 next) from rfl); have b1 := (HM2.out.m.cell 1).trans (show _ = some (.slice (some ⟨b, o, none⟩) n c) from rfl); clear hb2)) | (go_at_call 48; go_must (refine (HWd.out _).mono ?_; rintro e w3 ⟨rfl, rfl⟩; rw [HWT.out])) | (go_at_call 49; (with_reducible refine (HAt.out _ HM2.out).mono ?_); go_must (rintro e w4 ⟨rfl, hb4⟩; have HM4 := Lib.hid (HM2.out.after hb4); have m40 := (HM4.out.m.cell 0).trans (show _ = some (.int .i64 next) from rfl); have m41 := (HM4.out.m.cell 1).trans (show _ = some (.slice (some ⟨b, o, none⟩) n c) from rfl); clear hb4)) | (go_at_call 49; (with_reducible refine (HBt.out _ HM4.out).mono ?_); go_must (rintro e w6 ⟨rfl, hb6⟩; have HM6 := Lib.hid (HM4.out.after hb6); have m60 := (HM6.out.m.cell 0).trans (show _ = some (.int .i64 next) from rfl); have m61 := (HM6.out.m.cell 1).trans (show _ = some (.slice (some ⟨b, o, none⟩) n c) from rfl); clear hb6)) | (go_at_call 53; (with_reducible refine (HTw.out _ HM6.out.bel).mono ?_); go_must (rintro e w5 ⟨ov, l, rfl, hown5, hmap5, hb5⟩; obtain ⟨Ao, co, hov⟩ := own_form hown5.own; have hln5 : l.length = n := (by have := congrArg List.length hmap5; rw [List.length_map, HL.out] at this; exact this); rw [hln5] at hov; subst hov; have HLN := Lib.hid hln5; have HM5 := Lib.hid (HM6.out.after hb5); have HO5 := Lib.hid (hown5.mono HM6.out.bel.size); have HMP := Lib.hid hmap5; clear hown5 hmap5 hb5 hln5)))
  obtain ⟨g, hgA⟩ := own_some HO5.out HLN.out (by omega)
  subst hgA
  have HD6 := Lib.hid (DL.start HM5.out HO5.out 85)
  generalize w5.alloc (.cells #[.int .i64 next, .slice (some ⟨g, 0, none⟩) n co] 24) = X6 at HD6 ⊢
  have m60 := (HD6.out.cb.m.cell 0).trans (show _ = some (.int .i64 next) from rfl)
  have m61 := (HD6.out.cb.m.cell 1).trans (show _ = some (.slice (some ⟨b, o, none⟩) n c) from rfl)
  go_wp2_with ((go_at_call 49; (with_reducible refine (HAt.out _ HD6.out.cb).mono ?_); go_must (rintro e w7 ⟨rfl, hb7⟩; have HD7 := Lib.hid (HD6.out.after hb7); clear hb7)))
  go_loopw [12, 13, 14] (fun v ld s14 wr => ∃ (k : Nat) (bb : Bool) (fo : List (ByteArray × Int)), k ≤ np ∧ ld = .bool bb ∧ s14 = .int .i64 k ∧ Hid (fo ++ layV name val bb (nd.refs.drop k) = layV name val false nd.refs) ∧ fo.length ≤ k + bb.toNat ∧ DL w w5 next (some ⟨b, o, none⟩) n c (.slice (some ⟨g, 0, none⟩) n co) l 85 v fo.length (refCells fo) wr) (fun _ _ v _ => np - (intOf v).toNat)
  case atStart => exact ⟨0, false, [], Nat.zero_le _, rfl, rfl, Lib.hid (by rw [List.drop_zero]; rfl), by simp, HD7.out⟩
  case round =>
    obtain ⟨k, bb, fo, hk, rfl, rfl, HINV, hfl, W⟩ := hrel
    have HW := Lib.hid W
    clear W
    rename World => wr
    by_cases hlt : k < np
    · obtain ⟨p, hp⟩ : ∃ p, nd.refs[k]? = some p := ⟨nd.refs[k]'(by have := HPN.out; omega), List.getElem?_eq_getElem _⟩
      obtain ⟨bp, op, hAp, hbp, hcp⟩ := row2_at HROW.out hh (by omega)
      subst hAp
      have hg2 := refCells_get hp
      have HSof : Hid (∀ X, CB w next (some ⟨b, o, none⟩) n c X → Below w.heap.size w X ∧ X.cell? ⟨w.heap.size, 1, none⟩ = some (.slice (some ⟨b, o, none⟩) n c) ∧ X.cell? ⟨b, o + i * 7 + 6, none⟩ = some (.slice (some ⟨bp, op, none⟩) np cp) ∧ X.cell? ⟨bp, op + k * 2, none⟩ = some (.string p.1) ∧ X.cell? ⟨bp, op + k * 2 + 1, none⟩ = some (.int .i64 p.2)) := Lib.hid fun X hX => ⟨hX.bel, (hX.m.cell 1).trans rfl, HC4.out X hX.bel, hcp _ _ hg2.1 X hX.bel, hcp _ _ hg2.2 X hX.bel⟩
      have HPK := Lib.hid hp
      clear hcp hg2 hp
      obtain ⟨_, q1, q2, q3, q4⟩ := HSof.out _ HW.out.cb
      go_upto_region 15 with (fail)
      clear q1 q2 q3 q4
      have HD1 := Lib.hid (HW.out.after (below_more (Below.refl _ _) (.cells #[.string p.1, .int .i64 p.2] 85)))
      have HPB : Hid (∀ ob X', ((wr.alloc (.cells #[.string p.1, .int .i64 p.2] 85)).alloc ob).grownBy X' u12.ownBlock → Blk X' wr.heap.size 85 #[.string p.1, .int .i64 p.2]) := Lib.hid fun ob X' hg => HW.out.box ob hg
      have hb1 := Blk.new wr 85 #[.string p.1, .int .i64 p.2]
      have p10 := (hb1.cell 0).trans (show _ = some (.string p.1) from rfl)
      have p11 := (hb1.cell 1).trans (show _ = some (.int .i64 p.2) from rfl)
      clear hb1
      generalize wr.alloc (.cells #[.string p.1, .int .i64 p.2] 85) = X1 at HD1 HPB p10 p11 ⊢
      generalize wr.heap.size = gp at HPB p10 p11 ⊢
      obtain ⟨lt, HLT⟩ : ∃ lt, Hid (ltS p.1 name = lt) := ⟨_, Lib.hid rfl⟩
      obtain ⟨ne, HNE⟩ : ∃ ne, Hid ((p.1.toList == name.toList) = ne) := ⟨_, Lib.hid rfl⟩
      have hl1 : Op.bytesLess p.1.toList name.toList = lt := HLT.out
      have hn1 : (p.1.toList == name.toList) = ne := HNE.out
      have hn2 : (p.1.toList != name.toList) = !ne := by unfold bne; rw [hn1]
      cases bb with
      | true =>
        simp only [Bool.toNat_true] at hfl
        cases ne with
        | true =>
          simp only [Bool.not_true] at hn2
          go_wp2_with fail
          go_roundw
          case rel =>
            refine ⟨k + 1, true, fo, by omega, rfl, rfl, Lib.hid ?_, by simp; omega, HD1.out⟩
            rw [← HINV.out, layV_step name val _ nd.refs HPK.out, HLT.out, HNE.out]
            simp
          case measure => simp [intOf]; omega
        | false =>
          simp only [Bool.not_false] at hn2
          go_wp2_with (at_builtin; (with_reducible show wpList _ _ _ (⟨some 81, _, _, _, _, _⟩ :: _) _ _); go_must (refine wpList_app _ rfl (.tmp 78) (.tmp 80) _ rfl (w5.heap.size + 1) 85 i0 _ 2 24 Try.underlying79 hi0 hz0 hz1 hz2 rfl (by omega) u12 fo.length (refCells fo) rfl (own_after HD1.out.own (below_more (Below.refl _ _) _)) X1.heap.size (X1.heap.size + 1) (some ⟨X1.heap.size, 0, none⟩) 1 1 [.string p.1, .int .i64 p.2] rfl (row_blk (n := 1) (Blk.new' rfl) rfl (Nat.le_refl _) (by unfold maxLen; omega)) (by simp [Value.oneCell']) (by skip; unfold maxLen; omega) (by skip; have := HPN.out; omega) (by have := HD1.out.o.lt; simp; omega) ?_); go_must (intro v9 w9 hown9 hg9 _; have HD3 := Lib.hid ((HD1.out.after (below_more (Below.refl _ _) _)).pushR HM5.out HO5.out hg9 hown9); clear hown9 hg9))
          go_roundw
          case rel =>
            refine ⟨k + 1, true, (fo ++ [(p.1, p.2)]), by omega, rfl, rfl, Lib.hid ?_, by simp; omega, HD3.out⟩
            rw [← HINV.out, layV_step name val _ nd.refs HPK.out, HLT.out, HNE.out]
            simp
          case measure => simp [intOf]; omega
      | false =>
        simp only [Bool.toNat_false, Nat.add_zero] at hfl
        cases lt with
        | true =>
          cases ne with
          | true =>
            simp only [Bool.not_true] at hn2
            go_wp2_with fail
            go_roundw
            case rel =>
              refine ⟨k + 1, false, fo, by omega, rfl, rfl, Lib.hid ?_, by simp; omega, HD1.out⟩
              rw [← HINV.out, layV_step name val _ nd.refs HPK.out, HLT.out, HNE.out]
              simp
            case measure => simp [intOf]; omega
          | false =>
            simp only [Bool.not_false] at hn2
            go_wp2_with (at_builtin; (with_reducible show wpList _ _ _ (⟨some 81, _, _, _, _, _⟩ :: _) _ _); go_must (refine wpList_app _ rfl (.tmp 78) (.tmp 80) _ rfl (w5.heap.size + 1) 85 i0 _ 2 24 Try.underlying79 hi0 hz0 hz1 hz2 rfl (by omega) u12 fo.length (refCells fo) rfl (own_after HD1.out.own (below_more (Below.refl _ _) _)) X1.heap.size (X1.heap.size + 1) (some ⟨X1.heap.size, 0, none⟩) 1 1 [.string p.1, .int .i64 p.2] rfl (row_blk (n := 1) (Blk.new' rfl) rfl (Nat.le_refl _) (by unfold maxLen; omega)) (by simp [Value.oneCell']) (by skip; unfold maxLen; omega) (by skip; have := HPN.out; omega) (by have := HD1.out.o.lt; simp; omega) ?_); go_must (intro v9 w9 hown9 hg9 _; have HD3 := Lib.hid ((HD1.out.after (below_more (Below.refl _ _) _)).pushR HM5.out HO5.out hg9 hown9); clear hown9 hg9))
            go_roundw
            case rel =>
              refine ⟨k + 1, false, (fo ++ [(p.1, p.2)]), by omega, rfl, rfl, Lib.hid ?_, by simp; omega, HD3.out⟩
              rw [← HINV.out, layV_step name val _ nd.refs HPK.out, HLT.out, HNE.out]
              simp
            case measure => simp [intOf]; omega
        | false =>
          cases ne with
          | true =>
            simp only [Bool.not_true] at hn2
            go_wp2_with (at_builtin; (with_reducible show wpList _ _ _ (⟨some 73, _, _, _, _, _⟩ :: _) _ _); go_must (refine wpList_app _ rfl (.tmp 68) (.tmp 72) _ rfl (w5.heap.size + 1) 85 i0 _ 2 24 Try.underlying79 hi0 hz0 hz1 hz2 rfl (by omega) u12 fo.length (refCells fo) rfl (own_after HD1.out.own (below_more (Below.refl _ _) _)) X1.heap.size (X1.heap.size + 1) (some ⟨X1.heap.size, 0, none⟩) 1 1 [.string name, .int .i64 val] rfl (row_blk (n := 1) (Blk.new' rfl) rfl (Nat.le_refl _) (by unfold maxLen; omega)) (by simp [Value.oneCell']) (by skip; unfold maxLen; omega) (by skip; have := HPN.out; omega) (by have := HD1.out.o.lt; simp; omega) ?_); go_must (intro v8 w8 hown8 hg8 _; have HD2 := Lib.hid ((HD1.out.after (below_more (Below.refl _ _) _)).pushR HM5.out HO5.out hg8 hown8); have hbx := HPB.out _ _ hg8; have c80 := (hbx.cell 0).trans (show _ = some (.string p.1) from rfl); have c81 := (hbx.cell 1).trans (show _ = some (.int .i64 p.2) from rfl); clear hbx hown8 hg8))
            go_roundw
            case rel =>
              refine ⟨k + 1, true, (fo ++ [(name, val)]), by omega, rfl, rfl, Lib.hid ?_, by simp; omega, HD2.out⟩
              rw [← HINV.out, layV_step name val _ nd.refs HPK.out, HLT.out, HNE.out]
              simp
            case measure => simp [intOf]; omega
          | false =>
            simp only [Bool.not_false] at hn2
            go_wp2_with (first | (at_builtin; (with_reducible show wpList _ _ _ (⟨some 73, _, _, _, _, _⟩ :: _) _ _); go_must (refine wpList_app _ rfl (.tmp 68) (.tmp 72) _ rfl (w5.heap.size + 1) 85 i0 _ 2 24 Try.underlying79 hi0 hz0 hz1 hz2 rfl (by omega) u12 fo.length (refCells fo) rfl (own_after HD1.out.own (below_more (Below.refl _ _) _)) X1.heap.size (X1.heap.size + 1) (some ⟨X1.heap.size, 0, none⟩) 1 1 [.string name, .int .i64 val] rfl (row_blk (n := 1) (Blk.new' rfl) rfl (Nat.le_refl _) (by unfold maxLen; omega)) (by simp [Value.oneCell']) (by skip; unfold maxLen; omega) (by skip; have := HPN.out; omega) (by have := HD1.out.o.lt; simp; omega) ?_); go_must (intro v8 w8 hown8 hg8 _; have HD2 := Lib.hid ((HD1.out.after (below_more (Below.refl _ _) _)).pushR HM5.out HO5.out hg8 hown8); have hbx := HPB.out _ _ hg8; have c80 := (hbx.cell 0).trans (show _ = some (.string p.1) from rfl); have c81 := (hbx.cell 1).trans (show _ = some (.int .i64 p.2) from rfl); obtain ⟨f2, hf2⟩ : ∃ f2, fo ++ [(name, val)] = f2 := ⟨_, rfl⟩; rw [hf2] at HD2; have hfl2 : f2.length ≤ k + 1 := (by rw [← hf2, List.length_append, List.length_singleton]; omega); have HF2 := Lib.hid hf2; clear hbx hown8 hg8 hf2)) | (at_builtin; (with_reducible show wpList _ _ _ (⟨some 81, _, _, _, _, _⟩ :: _) _ _); go_must (refine wpList_app _ rfl (.tmp 78) (.tmp 80) _ rfl (w5.heap.size + 1) 85 i0 _ 2 24 Try.underlying79 hi0 hz0 hz1 hz2 rfl (by omega) v8 f2.length (refCells f2) rfl (own_after HD2.out.own (below_more (Below.refl _ _) _)) w8.heap.size (w8.heap.size + 1) (some ⟨w8.heap.size, 0, none⟩) 1 1 [.string p.1, .int .i64 p.2] rfl (row_blk (n := 1) (Blk.new' rfl) rfl (Nat.le_refl _) (by unfold maxLen; omega)) (by simp [Value.oneCell']) (by skip; unfold maxLen; omega) (by skip; have := HPN.out; omega) (by have := HD2.out.o.lt; simp; omega) ?_); go_must (intro v9 w9 hown9 hg9 _; have HD3 := Lib.hid ((HD2.out.after (below_more (Below.refl _ _) _)).pushR HM5.out HO5.out hg9 hown9); clear hown9 hg9)))
            go_roundw
            case rel =>
              refine ⟨k + 1, true, (f2 ++ [(p.1, p.2)]), by omega, rfl, rfl, Lib.hid ?_, by simp; omega, HD3.out⟩
              rw [← HF2.out, ← HINV.out, layV_step name val _ nd.refs HPK.out, HLT.out, HNE.out]
              simp
            case measure => simp [intOf]; omega
    · have hkn : k = np := by omega
      subst hkn
      obtain ⟨q, hq, hqn⟩ : ∃ q, l[i]? = some q ∧ q.1 = nd := by
        have h1 : (l.map (·.1))[i]? = some nd := by rw [HMP.out]; exact HND.out
        rw [List.getElem?_map] at h1
        cases hx : l[i]? with
        | none => rw [hx] at h1; cases h1
        | some q => rw [hx] at h1; exact ⟨q, rfl, by simpa using h1⟩
      obtain ⟨nd', M⟩ := q
      obtain rfl : nd' = nd := hqn
      have HQ := Lib.hid hq
      have m91 := (HW.out.cb.m.cell 1).trans (show _ = some (.slice (some ⟨b, o, none⟩) n c) from rfl)
      have q2 := HC4.out _ HW.out.cb.bel
      have hdn : nd'.refs.drop k = [] := List.drop_eq_nil_of_le (by have := HPN.out; omega)
      cases bb with
      | true =>
        have HFE : Hid (fo = layV name val false nd'.refs) := Lib.hid (by have := HINV.out; rw [hdn] at this; simpa [layV] using this)
        clear hq hdn HINV
        obtain ⟨Av, cv, hv⟩ := own_form HW.out.own
        subst hv
        have hcl := HW.out.om.cellIs HLN.out HQ.out (j := 6) (by omega) rfl
        have k9 := hcl.1
        have f9 := hcl.2
        simp only at k9
        have o90 := (HW.out.o.cell 0).trans (show _ = some (.int .i64 next) from rfl)
        have o91 := (HW.out.o.cell 1).trans (show _ = some (.slice (some ⟨g, 0, none⟩) n co) from rfl)
        obtain ⟨e1, e2, e3⟩ := HW.out.endR HM5.out.bel.size HLN.out HQ.out rfl (fun x hx => HSX.out x (by rw [← HFE.out]; exact hx))
        have m92 := (e1.r.frozen 0)
        have m93 := (e1.r.frozen 1)
        have m94 := (e1.r.cell 0).trans (show _ = some (.int .i64 0) from rfl)
        have m95 := (e1.r.cell 1).trans (show _ = some (.slice none 0 0) from rfl)
        have o92 := (e2.cell 0).trans (show _ = some (.int .i64 next) from rfl)
        have o93 := (e2.cell 1).trans (show _ = some (.slice (some ⟨g, 0, none⟩) n co) from rfl)
        have HE1 := Lib.hid e1
        have HE3 := Lib.hid e3
        clear e1 e2 e3 hcl
        go_wp2_with fail
        (try rw [Exit.noGoto_ret])
        (try simp only [Exit.inBlock, Exit.then])
        have hres : Try.f22.results = #[.cell 8 24, .tmp 9] := by kernel_rfl
        refine bodyPost_ret (v := .tuple #[.agg #[.int .i64 next, .slice (some ⟨g, 0, none⟩) n co], .int .i64 0]) ?hr rfl ?_
        case hr =>
          simp only [results, hres]
          go_simp
        refine ⟨next, some ⟨g, 0, none⟩, n, co, rfl, HE1.out.lay _ _, fun h => absurd rfl h, fun _ => ⟨rfl, _, HE1.out.laid HE3.out _ _, by rw [List.length_set]; exact HLN.out, ?_⟩⟩
        rw [List.map_set, HMP.out, HFE.out]
      | false =>
        simp only [Bool.toNat_false, Nat.add_zero] at hfl
        obtain ⟨f2, hf2⟩ : ∃ f2, fo ++ [(name, val)] = f2 := ⟨_, rfl⟩
        have HF2 := Lib.hid hf2
        have HFE : Hid (f2 = layV name val false nd'.refs) := Lib.hid (by rw [← hf2]; have := HINV.out; rw [hdn] at this; simpa [layV] using this)
        clear hq hdn HINV hf2
        go_upto_region 22 with (at_builtin; (with_reducible show wpList _ _ _ (⟨some 89, _, _, _, _, _⟩ :: _) _ _); go_must (refine wpList_app _ rfl (.tmp 84) (.tmp 88) _ rfl (w5.heap.size + 1) 85 i0 _ 2 24 Try.underlying79 hi0 hz0 hz1 hz2 rfl (by omega) u12 fo.length (refCells fo) rfl (own_after HW.out.own (below_more (Below.refl _ _) _)) wr.heap.size (wr.heap.size + 1) (some ⟨wr.heap.size, 0, none⟩) 1 1 [.string name, .int .i64 val] rfl (row_blk (n := 1) (Blk.new' rfl) rfl (Nat.le_refl _) (by unfold maxLen; omega)) (by simp [Value.oneCell']) (by skip; unfold maxLen; omega) (by skip; have := HPN.out; omega) (by have := HW.out.o.lt; simp; omega) ?_); go_must (intro v8 w8 hown8 hg8 _; have HD2 := Lib.hid ((HW.out.after (below_more (Below.refl _ _) _)).pushR HM5.out HO5.out hg8 hown8); rw [HF2.out] at HD2; clear hown8 hg8))
        obtain ⟨Av, cv, hv⟩ := own_form HD2.out.own
        subst hv
        have hcl := HD2.out.om.cellIs HLN.out HQ.out (j := 6) (by omega) rfl
        have k9 := hcl.1
        have f9 := hcl.2
        simp only at k9
        have o90 := (HD2.out.o.cell 0).trans (show _ = some (.int .i64 next) from rfl)
        have o91 := (HD2.out.o.cell 1).trans (show _ = some (.slice (some ⟨g, 0, none⟩) n co) from rfl)
        obtain ⟨e1, e2, e3⟩ := HD2.out.endR HM5.out.bel.size HLN.out HQ.out rfl (fun x hx => HSX.out x (by rw [← HFE.out]; exact hx))
        have m92 := (e1.r.frozen 0)
        have m93 := (e1.r.frozen 1)
        have m94 := (e1.r.cell 0).trans (show _ = some (.int .i64 0) from rfl)
        have m95 := (e1.r.cell 1).trans (show _ = some (.slice none 0 0) from rfl)
        have o92 := (e2.cell 0).trans (show _ = some (.int .i64 next) from rfl)
        have o93 := (e2.cell 1).trans (show _ = some (.slice (some ⟨g, 0, none⟩) n co) from rfl)
        have HE1 := Lib.hid e1
        have HE3 := Lib.hid e3
        clear e1 e2 e3 hcl
        go_wp2_with fail
        (try rw [Exit.noGoto_ret])
        (try simp only [Exit.inBlock, Exit.then])
        have hres : Try.f22.results = #[.cell 8 24, .tmp 9] := by kernel_rfl
        refine bodyPost_ret (v := .tuple #[.agg #[.int .i64 next, .slice (some ⟨g, 0, none⟩) n co], .int .i64 0]) ?hr rfl ?_
        case hr =>
          simp only [results, hres]
          go_simp
        refine ⟨next, some ⟨g, 0, none⟩, n, co, rfl, HE1.out.lay _ _, fun h => absurd rfl h, fun _ => ⟨rfl, _, HE1.out.laid HE3.out _ _, by rw [List.length_set]; exact HLN.out, ?_⟩⟩
        rw [List.map_set, HMP.out, HFE.out]
end Go.Proofs.Yteccblmdfjbljaa
namespace Go.Proofs.Yteccblmdfjbljaa
open Go Go.RowKit Go.Sort
set_option linter.unusedVariables false
theorem set_err {w w' : World} {next er : Int} {nds' : List Nd} {e : Ending} (he : er ≠ 0) (h : e = .returned (.tuple #[.agg #[.int .i64 0, .slice none 0 0], .int .i64 er]) ∧ Below w.heap.size w w') : SetPost w next er nds' e w' :=
  ⟨0, none, 0, 0, h.1, h.2, fun _ => ⟨rfl, rfl, rfl, rfl⟩, fun h0 => absurd h0 he⟩
theorem nameE_no {next : Int} {nds : List Nd} {name : ByteArray} (h : rightB next nds = false) : nameE next nds name = 29 := by unfold nameE; rw [h]; rfl
theorem nameE_bad {next : Int} {nds : List Nd} {name : ByteArray} (h : rightB next nds = true) (hw : wordB name = false) : nameE next nds name = 2 := by unfold nameE; rw [h, hw]; rfl
theorem nameE_ok {next : Int} {nds : List Nd} {name : ByteArray} (h : rightB next nds = true) (hw : wordB name = true) : nameE next nds name = 0 := by unfold nameE; rw [h, hw]; rfl
theorem chE_told {told : Int} {nds : List Nd} {id : Int} (h : told ≠ 0) : chE told nds id = told := by unfold chE; rw [if_pos h]
theorem chE_none {nds : List Nd} {id : Int} (h : ixOf nds id = none) : chE 0 nds id = 20 := by unfold chE; rw [if_neg (by simp), h]; rfl
theorem chE_some {nds : List Nd} {id : Int} {i : Nat} (h : ixOf nds id = some i) : chE 0 nds id = 0 := by unfold chE; rw [if_neg (by simp), h]; rfl
theorem chL_some {nds : List Nd} {id : Int} {i : Nat} {nd : Nd} {f : Nd → Nd} (h : ixOf nds id = some i) (hn : nds[i]? = some nd) : chL nds id f = nds.set i (f nd) := by unfold chL; rw [h]; exact modify_set hn
theorem atV_none' {nds : List Nd} {id : Int} (h : ixOf nds id = none) : atV nds id = -1 := by unfold atV; rw [h]
theorem atV_some' {nds : List Nd} {id : Int} {i : Nat} (h : ixOf nds id = some i) : atV nds id = (i : Int) := by unfold atV; rw [h]
theorem drop_same {nd : Nd} {name : ByteArray} (hs : SortS (nd.props.map (·.1))) : { nd with props := leaveV name nd.props } = dropN nd name := by
  unfold dropN
  rw [leaveV_eq name nd.props hs]
  split <;> rfl
theorem loose_same {nd : Nd} {name : ByteArray} (hs : SortS (nd.refs.map (·.1))) : { nd with refs := leaveV name nd.refs } = looseN nd name := by
  unfold looseN
  rw [leaveV_eq name nd.refs hs]
  split <;> rfl
theorem put_same {nd : Nd} {name val : ByteArray} (hs : SortS (nd.props.map (·.1))) : { nd with props := layV name val false nd.props } = putN nd name val := by
  unfold putN
  rw [layV_eq name val nd.props hs]
theorem aim_same {nd : Nd} {name : ByteArray} {val : Int} (hs : SortS (nd.refs.map (·.1))) : { nd with refs := layV name val false nd.refs } = aimN nd name val := by
  unfold aimN
  rw [layV_eq name val nd.refs hs]
theorem refDrop_any (w : World) (hi : Nat) (next id : Int) (A : Option Addr) (n c : Nat) (nds : List Nd) (name : ByteArray) (h : NodesIn w 0 hi A n c nds) (hh : hi ≤ w.heap.size) (hsn : name.size ≤ maxLen) (hf : ∀ nd ∈ nds, Fits 1 nd) :
    Calls Try.prog 20 #[.agg #[.int .i64 next, .slice A n c], .int .i64 id, .string name] w (SetPost w next (chE (nameE next nds name) nds id) (chL nds id (fun nd => dropN nd name))) := by
  cases hrt : rightB next nds with
  | false =>
    rw [nameE_no hrt, chE_told (by decide)]
    exact (refDrop_e29 w hi next id A n c nds name h hh hsn hrt).mono fun e w' he => set_err (by decide) he
  | true =>
    have hR := rightM hrt
    have hn4 : n ≤ 4096 := by rw [← h.1]; exact hR.len
    cases hwd : wordB name with
    | false =>
      rw [nameE_bad hrt hwd, chE_told (by decide)]
      exact (refDrop_e2 w hi next id A n c nds name h hh hsn hrt hwd).mono fun e w' he => set_err (by decide) he
    | true =>
      rw [nameE_ok hrt hwd]
      cases hix : ixOf nds id with
      | none =>
        rw [chE_none hix]
        exact (refDrop_e20 w hi next id A n c nds name h hh hsn hrt hwd hR.rise hn4 (atV_none' hix)).mono fun e w' he => set_err (by decide) he
      | some i =>
        obtain ⟨nd, hnd⟩ := ixOf_get hix
        rw [chE_some hix, chL_some hix hnd, ← drop_same (right_sorts hrt nd (List.mem_of_getElem? hnd)).1]
        exact refDrop_yes w hi next id A n c nds name h hh hsn hrt hwd hR.rise hn4 hf i nd (atV_some' hix) hnd
theorem refLoose_any (w : World) (hi : Nat) (next id : Int) (A : Option Addr) (n c : Nat) (nds : List Nd) (name : ByteArray) (h : NodesIn w 0 hi A n c nds) (hh : hi ≤ w.heap.size) (hsn : name.size ≤ maxLen) (hf : ∀ nd ∈ nds, Fits 1 nd) :
    Calls Try.prog 24 #[.agg #[.int .i64 next, .slice A n c], .int .i64 id, .string name] w (SetPost w next (chE (nameE next nds name) nds id) (chL nds id (fun nd => looseN nd name))) := by
  cases hrt : rightB next nds with
  | false =>
    rw [nameE_no hrt, chE_told (by decide)]
    exact (refLoose_e29 w hi next id A n c nds name h hh hsn hrt).mono fun e w' he => set_err (by decide) he
  | true =>
    have hR := rightM hrt
    have hn4 : n ≤ 4096 := by rw [← h.1]; exact hR.len
    cases hwd : wordB name with
    | false =>
      rw [nameE_bad hrt hwd, chE_told (by decide)]
      exact (refLoose_e2 w hi next id A n c nds name h hh hsn hrt hwd).mono fun e w' he => set_err (by decide) he
    | true =>
      rw [nameE_ok hrt hwd]
      cases hix : ixOf nds id with
      | none =>
        rw [chE_none hix]
        exact (refLoose_e20 w hi next id A n c nds name h hh hsn hrt hwd hR.rise hn4 (atV_none' hix)).mono fun e w' he => set_err (by decide) he
      | some i =>
        obtain ⟨nd, hnd⟩ := ixOf_get hix
        rw [chE_some hix, chL_some hix hnd, ← loose_same (right_sorts hrt nd (List.mem_of_getElem? hnd)).2]
        exact refLoose_yes w hi next id A n c nds name h hh hsn hrt hwd hR.rise hn4 hf i nd (atV_some' hix) hnd
theorem refPut_any' (w : World) (hi : Nat) (next id : Int) (A : Option Addr) (n c : Nat) (nds : List Nd) (name : ByteArray) (h : NodesIn w 0 hi A n c nds) (hh : hi ≤ w.heap.size) (hsn : name.size ≤ maxLen) (hf : ∀ nd ∈ nds, Fits 1 nd) (val : ByteArray) :
    Calls Try.prog 18 #[.agg #[.int .i64 next, .slice A n c], .int .i64 id, .string name, .string val] w (SetPost w next (chE (putE next nds name val) nds id) (chL nds id (fun nd => putN nd name val))) := by
  cases hrt : rightB next nds with
  | false =>
    have e1 : putE next nds name val = 29 := by unfold putE; rw [nameE_no hrt]; rfl
    rw [e1, chE_told (by decide)]
    exact (refPut_e29 w hi next id A n c nds name val h hh hsn hrt).mono fun e w' he => set_err (by decide) he
  | true =>
    have hR := rightM hrt
    have hn4 : n ≤ 4096 := by rw [← h.1]; exact hR.len
    cases hwd : wordB name with
    | false =>
      have e1 : putE next nds name val = 2 := by unfold putE; rw [nameE_bad hrt hwd]; rfl
      rw [e1, chE_told (by decide)]
      exact (refPut_e2 w hi next id A n c nds name val h hh hsn hrt hwd).mono fun e w' he => set_err (by decide) he
    | true =>
      by_cases hlg : 4096 < val.size
      · have e1 : putE next nds name val = 3 := by unfold putE; rw [nameE_ok hrt hwd, if_pos rfl, if_pos hlg]
        rw [e1, chE_told (by decide)]
        exact (refPut_e3 w hi next id A n c nds name val h hh hsn hrt hwd hlg).mono fun e w' he => set_err (by decide) he
      · have e1 : putE next nds name val = 0 := by unfold putE; rw [nameE_ok hrt hwd, if_pos rfl, if_neg hlg]
        rw [e1]
        cases hix : ixOf nds id with
        | none =>
          rw [chE_none hix]
          exact (refPut_e20 w hi next id A n c nds name val h hh hsn hrt hwd hlg hR.rise hn4 (atV_none' hix)).mono fun e w' he => set_err (by decide) he
        | some i =>
          obtain ⟨nd, hnd⟩ := ixOf_get hix
          rw [chE_some hix, chL_some hix hnd, ← put_same (right_sorts hrt nd (List.mem_of_getElem? hnd)).1]
          exact refPut_yes w hi next id A n c nds name val h hh hsn hrt hwd hlg hR.rise hn4 hf i nd (atV_some' hix) hnd
theorem refAim_any' (w : World) (hi : Nat) (next id : Int) (A : Option Addr) (n c : Nat) (nds : List Nd) (name : ByteArray) (h : NodesIn w 0 hi A n c nds) (hh : hi ≤ w.heap.size) (hsn : name.size ≤ maxLen) (hf : ∀ nd ∈ nds, Fits 1 nd) (val : Int) :
    Calls Try.prog 22 #[.agg #[.int .i64 next, .slice A n c], .int .i64 id, .string name, .int .i64 val] w (SetPost w next (chE (aimE next nds name val) nds id) (chL nds id (fun nd => aimN nd name val))) := by
  cases hrt : rightB next nds with
  | false =>
    have e1 : aimE next nds name val = 29 := by unfold aimE; rw [nameE_no hrt]; rfl
    rw [e1, chE_told (by decide)]
    exact (refAim_e29 w hi next id A n c nds name val h hh hsn hrt).mono fun e w' he => set_err (by decide) he
  | true =>
    have hR := rightM hrt
    have hn4 : n ≤ 4096 := by rw [← h.1]; exact hR.len
    cases hwd : wordB name with
    | false =>
      have e1 : aimE next nds name val = 2 := by unfold aimE; rw [nameE_bad hrt hwd]; rfl
      rw [e1, chE_told (by decide)]
      exact (refAim_e2 w hi next id A n c nds name val h hh hsn hrt hwd).mono fun e w' he => set_err (by decide) he
    | true =>
      cases hix : ixOf nds id with
      | none =>
        have e1 : chE (aimE next nds name val) nds id = 20 := by
          unfold aimE
          rw [nameE_ok hrt hwd, if_pos rfl]
          split
          · exact chE_none hix
          · exact chE_told (by decide)
        rw [e1]
        exact (refAim_e20 w hi next id A n c nds name val h hh hsn hrt hwd hR.rise hn4 (atV_none' hix)).mono fun e w' he => set_err (by decide) he
      | some i =>
        cases hjx : ixOf nds val with
        | none =>
          have e1 : aimE next nds name val = 20 := by unfold aimE; rw [nameE_ok hrt hwd, if_pos rfl, hjx]; rfl
          rw [e1, chE_told (by decide)]
          exact (refAim_e20t w hi next id A n c nds name val h hh hsn hrt hwd hR.rise hn4 i (atV_some' hix) (atV_none' hjx)).mono fun e w' he => set_err (by decide) he
        | some j =>
          have e1 : aimE next nds name val = 0 := by unfold aimE; rw [nameE_ok hrt hwd, if_pos rfl, hjx]; rfl
          obtain ⟨nd, hnd⟩ := ixOf_get hix
          rw [e1, chE_some hix, chL_some hix hnd, ← aim_same (right_sorts hrt nd (List.mem_of_getElem? hnd)).2]
          exact refAim_yes w hi next id A n c nds name val h hh hsn hrt hwd j (atV_some' hjx) hR.rise hn4 hf i nd (atV_some' hix) hnd
/-- Next, the error, the nodes -/
def setR (next er : Int) (nds' : List Nd) : Int × Int × List Nd := if er = 0 then (next, 0, nds') else (0, er, [])
end Go.Proofs.Yteccblmdfjbljaa

/-
  WALKS over package sheet: ref; prop and ref, whatever has been read.
  WALKS over package sheet: stand, whatever has been read; node.
-/
import Derived.Test.YtjjlofaejpnnnaaGreatDoorZB23
namespace Go.Proofs.YtjjlofaejpnnnaaGreatDoor
open Go Go.RowKit
set_option linter.unusedVariables false
theorem refersV_some {st : RS} {nd : Nd} {a : ByteArray} {v : List UInt8} {y : Int} (h : numberV v st.next = some y) (h4 : ∀ p ∈ nd.refs.getLast?, p.1.data.toList < a.data.toList) : refersV st nd a.data.toList v = some (lastV st { nd with refs := nd.refs ++ [(a, y)] }) := by
  unfold refersV
  rw [h]
  simp only [bytesOf_is]
  rw [if_pos h4]
theorem refersV_no1 {st : RS} {nd : Nd} {a : ByteArray} {v : List UInt8} (h : numberV v st.next = none) : refersV st nd a.data.toList v = none := by
  unfold refersV
  rw [h]
theorem refersV_no2 {st : RS} {nd : Nd} {a : ByteArray} {v : List UInt8} (h4 : ¬ ∀ p ∈ nd.refs.getLast?, p.1.data.toList < a.data.toList) : refersV st nd a.data.toList v = none := by
  unfold refersV
  cases numberV v st.next with
  | none => rfl
  | some y =>
    simp only
    rw [if_neg h4]
set_option maxRecDepth 20000 in
set_option maxHeartbeats 6400000 in
theorem ref_last (w : World) (B0 B gr gm k n c g : Nat) (vw : Value) (l : List (Nd × Leaf)) (st : RS) (h : RIn B gr gm k (.slice (some ⟨g, 0, none⟩) n c) vw l st w) (h0 : st.next ≠ 0) (hB0 : B0 ≤ gr) (hB1 : B0 ≤ gm) (hn : st.nds.length = n) (hn0 : 0 < n)
    (nd : Nd) (K : Sl) (Pa Ra : Option Addr) (Pn Pc Rn Rc : Nat) (hl : st.nds.getLast? = some nd) (hi : l[n - 1]? = some (nd, ⟨⟨Pa, Pn, Pc⟩, K, ⟨Ra, Rn, Rc⟩⟩)) (d : Nat) (hd : d = st.deep.getLastD 0) (s : ByteArray) (hs : s.size ≤ 1048576) (hk : k + 1 ≤ 4194304) (hE : Env w) :
    Calls Tryz.prog 45 #[.pointer (some ⟨gr, 0, none⟩), .int .i64 d, .string s] w (LineQ B0 B gr gm k (refP st d s.data.toList) w) := by
  have H := Lib.hid h
  have HL := Lib.hid (last_yes w B gr gm k g n c vw l st h hn hn0 d hd)
  have HPV : Hid (refP st d s.data.toList = if wordL (cutA 61 s.data.toList) = true then refersV st nd (cutA 61 s.data.toList) (cutB 61 s.data.toList) else none) := Lib.hid (by
    unfold refP lastNd
    rw [if_pos hd, hl]; rfl)
  have hgB : B ≤ g := (World.ownsRow.lt h.np.own g rfl).1
  have hgw : g < w.heap.size := (World.ownsRow.lt h.np.own g rfl).2
  have hBw : B0 ≤ w.heap.size := Nat.le_trans hB0 (Nat.le_of_lt h.box.lt)
  have hlrm : gr < B ∧ gm < B := ⟨h.lr, h.lm⟩
  have HLX : Hid (l.length = n) := Lib.hid (by rw [h.len]; exact hn)
  have hlf := h.np.leaf _ (List.mem_of_getElem? hi)
  have HPN : Hid (Rn = nd.refs.length ∧ Rn ≤ k) := Lib.hid ⟨hlf.rn, by have := hlf.rn; have h2 := (h.ln nd (List.mem_of_getElem? (last_get hl).2)).2.2; simp only at this; omega⟩
  have hpk : Rn ≤ 4194304 := by have := HPN.out.2; omega
  have hokN := h.ok h0
  have hn1 := hokN.n1
  have hn2 := hokN.n2
  have hEw := Lib.hid hE
  have HI := Lib.hid hi
  have HCE : Hid (∀ Y, Below w.heap.size w Y → NodeAt Y g ((n - 1) * 7) nd ⟨⟨Pa, Pn, Pc⟩, K, ⟨Ra, Rn, Rc⟩⟩) := Lib.hid fun Y hY => (h.np.after hY).cells HLX.out hi
  have HPR : Hid (∀ Y, Below w.heap.size w Y → Y.ownsRow B 62 2 (.slice Ra Rn Rc) Rn (refCells nd.refs)) := Lib.hid fun Y hY => ((h.np.after hY).leaf _ (List.mem_of_getElem? hi)).r
  have HOX : Hid (∀ (X : World) {vw : Value} {ws : List Int}, NP B (.slice (some ⟨g, 0, none⟩) n c) vw l ws X → X.ownsRow B 62 2 (.slice Ra Rn Rc) Rn (refCells nd.refs)) := Lib.hid fun X vw ws hX => (hX.leaf _ (List.mem_of_getElem? hi)).r
  have HMID : Hid (∀ Y, Below w.heap.size w Y → MidE B0 B gr gm k st.next (rootV st) (.slice (some ⟨g, 0, none⟩) n c) vw l (wayI st.deep) (idsOf st) w Y) := Lib.hid fun Y hY => h.midE hBw hY
  have HFIN0 : Hid (∀ (y : Int) (a : ByteArray) (Az : Option Addr) (cz : Nat) (W : World), MidE B0 B gr gm k st.next (rootV st) (.slice (some ⟨g, 0, none⟩) n c) vw (l.set (n - 1) ({ nd with refs := nd.refs ++ [(a, y)] }, ⟨⟨Pa, Pn, Pc⟩, K, ⟨Az, Rn + 1, cz⟩⟩)) (wayI st.deep) (idsOf st) w W → RIn B gr gm (k + 1) (.slice (some ⟨g, 0, none⟩) n c) vw (l.set (n - 1) ({ nd with refs := nd.refs ++ [(a, y)] }, ⟨⟨Pa, Pn, Pc⟩, K, ⟨Az, Rn + 1, cz⟩⟩)) (lastV st { nd with refs := nd.refs ++ [(a, y)] }) W) := Lib.hid fun y a Az cz W hE => by
    have h2 := h.ln nd (List.mem_of_getElem? (last_get hl).2)
    exact h.lastSet h0 hl rfl hn hE.bx hE.set hE.np (by simp only [List.length_append, List.length_singleton]; omega) hk
  obtain ⟨i1, hi1, hz1, hs1, hb1⟩ := info_parts refInfo
  clear h hlf hl hn hd hE hokN
  by_cases hP : Rn = 0
  · have HLT0 : Hid (∀ a : ByteArray, ∀ p ∈ nd.refs.getLast?, p.1.data.toList < a.data.toList) := Lib.hid fun a p hp => by
      have : nd.refs = [] := List.eq_nil_of_length_eq_zero (by have := HPN.out.1; omega)
      rw [this] at hp; cases hp
    have hP0 : ¬ (0 : Int) < (Rn : Int) := by omega
    clear hP hi
    have HC0 : Hid (∀ Y, Below w.heap.size w Y → Y.cell? ⟨gr, 0, none⟩ = some (.int .i64 st.next)) := Lib.hid fun Y hY => (rd_cells (H.out.after hY).box).1
    have hw1 : IntKind.i64.wrap (st.next - 1) = st.next - 1 := IntWalk.i64_in _ (by omega)
    go_enter Tryz.func45, Tryz.ntmps45
    go_upto_region 4 with (go_at_call 82; refine HL.out.mono ?_; rintro e w1 ⟨rfl, hb1⟩; have HB1 := Lib.hid hb1; clear hb1)
    have HCU := Lib.hid (cut_any s 61 w1 (by omega))
    go_upto_region 5 with (go_at_call 18; refine HCU.out.mono ?_; rintro e w2 ⟨a, b, rfl, ha, hb, hza, hzb, hb2⟩; have HB2 : Hid (Below w.heap.size w w2) := Lib.hid (HB1.out.trans (hb2.mono HB1.out.size)); clear hb2)
    have HV : Hid (refP st d s.data.toList = if wordL a.data.toList = true then refersV st nd a.data.toList b.data.toList else none) := Lib.hid (by rw [HPV.out, ha, hb])
    clear ha hb
    cases hwl : wordL a.data.toList with
    | false =>
      have HW := Lib.hid (word_no a w2 (by omega) hwl)
      have HF : Hid (refP st d s.data.toList = none) := Lib.hid (by rw [HV.out, hwl]; rfl)
      clear hwl
      go_wp2_with (go_at_call 83; refine HW.out.mono ?_; rintro e w3 ⟨rfl, hb3⟩; have HB3 : Hid (Below w.heap.size w w3) := Lib.hid (HB2.out.trans (hb3.mono HB2.out.size)); have c4 := (HCE.out _ HB3.out).c6; clear hb3)
      go_ret
      exact lineQ_no HF.out (HB3.out.mono hBw)
    | true =>
    have HW := Lib.hid (word_yes a w2 (by omega) hwl)
    have HF : Hid (refP st d s.data.toList = refersV st nd a.data.toList b.data.toList) := Lib.hid (by rw [HV.out, hwl]; rfl)
    clear hwl
    have HNU : Hid (∀ Y, Below w.heap.size w Y → Calls Tryz.prog 76 #[.string b, .int .i64 (st.next - 1)] Y (NumP Y (numberV b.data.toList st.next))) := Lib.hid fun Y hY => by
      have := number_any b (st.next - 1) Y (by omega) (hEw.out.below hY)
      rwa [show st.next - 1 + 1 = st.next from by omega] at this
    have HLT := Lib.hid (HLT0.out a)
    cases hnv : numberV b.data.toList st.next with
    | none =>
      rw [hnv] at HNU
      have HNO : Hid (refP st d s.data.toList = none) := Lib.hid (by rw [HF.out]; exact refersV_no1 hnv)
      clear hnv
      go_wp2_with (first | (go_at_call 83; refine HW.out.mono ?_; rintro e w3 ⟨rfl, hb3⟩; have HB3 : Hid (Below w.heap.size w w3) := Lib.hid (HB2.out.trans (hb3.mono HB2.out.size)); have c4 := (HCE.out _ HB3.out).c6; have c0 := HC0.out _ HB3.out; clear hb3) | (go_at_call 76; refine (HNU.out _ HB3.out).mono ?_; rintro e w4 ⟨rfl, hb4⟩; have HB4 : Hid (Below w.heap.size w w4) := Lib.hid (HB3.out.trans (hb4.mono HB3.out.size)); clear hb4; (try simp only [Option.getD_some, Option.getD_none, Option.isSome_some, Option.isSome_none])))
      go_ret
      exact lineQ_no HNO.out (HB4.out.mono hBw)
    | some y =>
      rw [hnv] at HNU
      have HFY : Hid (refP st d s.data.toList = some (lastV st { nd with refs := nd.refs ++ [(a, y)] })) := Lib.hid (by rw [HF.out]; exact refersV_some hnv HLT.out)
      have HSZ : Hid (a.size ≤ maxLen) := Lib.hid (by unfold maxLen; omega)
      have HFIN := Lib.hid (HFIN0.out y a)
      clear hnv
      go_upto_region 12 with (first | (go_at_call 83; refine HW.out.mono ?_; rintro e w3 ⟨rfl, hb3⟩; have HB3 : Hid (Below w.heap.size w w3) := Lib.hid (HB2.out.trans (hb3.mono HB2.out.size)); have c4 := (HCE.out _ HB3.out).c6; have c0 := HC0.out _ HB3.out; clear hb3) | (go_at_call 76; refine (HNU.out _ HB3.out).mono ?_; rintro e w4 ⟨rfl, hb4⟩; have HB4 : Hid (Below w.heap.size w w4) := Lib.hid (HB3.out.trans (hb4.mono HB3.out.size)); clear hb4; (try simp only [Option.getD_some, Option.getD_none, Option.isSome_some, Option.isSome_none])))
      have HME := Lib.hid (HMID.out _ HB4.out)
      (try clear c4)
      have c9 := (HCE.out _ HB4.out).c6
      have HMD := Lib.hid (HME.out.after (W' := (w4.alloc (.cells #[.string a, .int .i64 y] 62))) ((Below.refl _ _).alloc (Nat.le_refl _) _))
      have HRq : Hid (Row (w4.alloc (.cells #[.string a, .int .i64 y] 62)) w4.heap.size (w4.heap.size + 1) 2 (some ⟨w4.heap.size, 0, none⟩) 1 1 [.string a, .int .i64 y]) := Lib.hid (row_blk (Blk.new _ _ _) rfl (Nat.le_refl _) (by unfold maxLen; omega))
      go_wp2_with (at_builtin; with_reducible show wpList _ _ _ (⟨some 79, _, _, _, _, _⟩ :: _) _ _; go_must (refine wpList_appS (o := ⟨some 79, _, _, _, _, _⟩) _ rfl (.tmp 74) (.tmp 78) _ rfl B 62 i1 _ 2 24 Tryz.underlying53 hi1 hz1 hs1 hb1 rfl (by omega) (.slice Ra Rn Rc) Rn (refCells nd.refs) (by go_simp) (HOX.out _ HMD.out.np) w4.heap.size (w4.heap.size + 1) (some ⟨w4.heap.size, 0, none⟩) 1 1 [.string a, .int .i64 y] (by go_simp) HRq.out (by simp [Value.oneCell']) (by unfold maxLen; omega) (by omega) HMD.out.np.hB ?_); go_must (intro A' c' Yn hownN hgrN hnewN; have HMX := Lib.hid (HMD.out.ref (y := (a, y)) hB0 hB1 hlrm.1 hlrm.2 HLX.out HI.out HSZ.out hownN hgrN hnewN); have HON2 := Lib.hid (HMD.out.np.keptN (HOX.out _ HMD.out.np) (by decide) hgrN); have s1 := (nodes_cells HLX.out HON2.out HI.out).c6; have s2 := nodes_frozen HLX.out HON2.out ((n - 1) * 7 + 6); clear hownN hgrN hnewN))
      go_ret
      exact lineQ_yes HFY.out HMX.out.bel (HFIN.out _ _ _ HMX.out)
  · have hpos : 0 < Rn := by omega
    obtain ⟨p, hp1, hp2⟩ := last_ndR HPN.out.1.symm hpos
    obtain ⟨gp, rfl, hgp⟩ := own_addrB (HPR.out w (Below.refl _ _)) hpos
    have hP0 : (0 : Int) < (Rn : Int) := by omega
    have hwr : IntKind.i64.wrap ((Rn : Int) - 1) = ((Rn - 1 : Nat) : Int) := by rw [IntWalk.i64_in _ (by omega)]; omega
    have hix : Rn - 1 < Rn := by omega
    have HXP : Hid (∀ Y, Below w.heap.size w Y → Y.cell? ⟨gp, (Rn - 1) * 2, none⟩ = some (.string p.1)) := Lib.hid fun Y hY => by
      rw [World.ownsRow.cellAt (HPR.out Y hY) ((Rn - 1) * 2) (by omega)]
      exact (refCells_get hp1).1
    have HP2 := Lib.hid hp2
    clear hP hp1 hp2 hi
    have HC0 : Hid (∀ Y, Below w.heap.size w Y → Y.cell? ⟨gr, 0, none⟩ = some (.int .i64 st.next)) := Lib.hid fun Y hY => (rd_cells (H.out.after hY).box).1
    have hw1 : IntKind.i64.wrap (st.next - 1) = st.next - 1 := IntWalk.i64_in _ (by omega)
    go_enter Tryz.func45, Tryz.ntmps45
    go_upto_region 4 with (go_at_call 82; refine HL.out.mono ?_; rintro e w1 ⟨rfl, hb1⟩; have HB1 := Lib.hid hb1; clear hb1)
    have HCU := Lib.hid (cut_any s 61 w1 (by omega))
    go_upto_region 5 with (go_at_call 18; refine HCU.out.mono ?_; rintro e w2 ⟨a, b, rfl, ha, hb, hza, hzb, hb2⟩; have HB2 : Hid (Below w.heap.size w w2) := Lib.hid (HB1.out.trans (hb2.mono HB1.out.size)); clear hb2)
    have HV : Hid (refP st d s.data.toList = if wordL a.data.toList = true then refersV st nd a.data.toList b.data.toList else none) := Lib.hid (by rw [HPV.out, ha, hb])
    clear ha hb
    cases hwl : wordL a.data.toList with
    | false =>
      have HW := Lib.hid (word_no a w2 (by omega) hwl)
      have HF : Hid (refP st d s.data.toList = none) := Lib.hid (by rw [HV.out, hwl]; rfl)
      clear hwl
      go_wp2_with (go_at_call 83; refine HW.out.mono ?_; rintro e w3 ⟨rfl, hb3⟩; have HB3 : Hid (Below w.heap.size w w3) := Lib.hid (HB2.out.trans (hb3.mono HB2.out.size)); have c4 := (HCE.out _ HB3.out).c6; clear hb3)
      go_ret
      exact lineQ_no HF.out (HB3.out.mono hBw)
    | true =>
    have HW := Lib.hid (word_yes a w2 (by omega) hwl)
    have HF : Hid (refP st d s.data.toList = refersV st nd a.data.toList b.data.toList) := Lib.hid (by rw [HV.out, hwl]; rfl)
    clear hwl
    have HNU : Hid (∀ Y, Below w.heap.size w Y → Calls Tryz.prog 76 #[.string b, .int .i64 (st.next - 1)] Y (NumP Y (numberV b.data.toList st.next))) := Lib.hid fun Y hY => by
      have := number_any b (st.next - 1) Y (by omega) (hEw.out.below hY)
      rwa [show st.next - 1 + 1 = st.next from by omega] at this
    cases hbl : (Op.bytesLess a.toList p.1.toList || a.toList == p.1.toList) with
    | true =>
      have HNO : Hid (refP st d s.data.toList = none) := Lib.hid (by
        rw [HF.out]
        refine refersV_no2 fun hc => ?_
        have h4 := (less_iff a p.1).2 (hc p (by rw [HP2.out]; rfl))
        rw [h4] at hbl; cases hbl)
      go_wp2_with (go_at_call 83; refine HW.out.mono ?_; rintro e w3 ⟨rfl, hb3⟩; have HB3 : Hid (Below w.heap.size w w3) := Lib.hid (HB2.out.trans (hb3.mono HB2.out.size)); have c4 := (HCE.out _ HB3.out).c6; have xp := HXP.out _ HB3.out; clear hb3)
      go_ret
      exact lineQ_no HNO.out (HB3.out.mono hBw)
    | false =>
      have HLT : Hid (∀ q ∈ nd.refs.getLast?, q.1.data.toList < a.data.toList) := Lib.hid fun q hq => by
        rw [HP2.out] at hq
        obtain rfl : p = q := Option.some.inj hq
        exact (less_iff a p.1).1 hbl
      cases hnv : numberV b.data.toList st.next with
      | none =>
        rw [hnv] at HNU
        have HNO : Hid (refP st d s.data.toList = none) := Lib.hid (by rw [HF.out]; exact refersV_no1 hnv)
        clear hnv
        go_wp2_with (first | (go_at_call 83; refine HW.out.mono ?_; rintro e w3 ⟨rfl, hb3⟩; have HB3 : Hid (Below w.heap.size w w3) := Lib.hid (HB2.out.trans (hb3.mono HB2.out.size)); have c4 := (HCE.out _ HB3.out).c6; have c0 := HC0.out _ HB3.out; have xp := HXP.out _ HB3.out; clear hb3) | (go_at_call 76; refine (HNU.out _ HB3.out).mono ?_; rintro e w4 ⟨rfl, hb4⟩; have HB4 : Hid (Below w.heap.size w w4) := Lib.hid (HB3.out.trans (hb4.mono HB3.out.size)); clear hb4; (try simp only [Option.getD_some, Option.getD_none, Option.isSome_some, Option.isSome_none])))
        go_ret
        exact lineQ_no HNO.out (HB4.out.mono hBw)
      | some y =>
        rw [hnv] at HNU
        have HFY : Hid (refP st d s.data.toList = some (lastV st { nd with refs := nd.refs ++ [(a, y)] })) := Lib.hid (by rw [HF.out]; exact refersV_some hnv HLT.out)
        have HSZ : Hid (a.size ≤ maxLen) := Lib.hid (by unfold maxLen; omega)
        have HFIN := Lib.hid (HFIN0.out y a)
        clear hnv
        go_upto_region 12 with (first | (go_at_call 83; refine HW.out.mono ?_; rintro e w3 ⟨rfl, hb3⟩; have HB3 : Hid (Below w.heap.size w w3) := Lib.hid (HB2.out.trans (hb3.mono HB2.out.size)); have c4 := (HCE.out _ HB3.out).c6; have c0 := HC0.out _ HB3.out; have xp := HXP.out _ HB3.out; clear hb3) | (go_at_call 76; refine (HNU.out _ HB3.out).mono ?_; rintro e w4 ⟨rfl, hb4⟩; have HB4 : Hid (Below w.heap.size w w4) := Lib.hid (HB3.out.trans (hb4.mono HB3.out.size)); clear hb4; (try simp only [Option.getD_some, Option.getD_none, Option.isSome_some, Option.isSome_none])))
        have HME := Lib.hid (HMID.out _ HB4.out)
        (try clear c4)
        have c9 := (HCE.out _ HB4.out).c6
        have HMD := Lib.hid (HME.out.after (W' := (w4.alloc (.cells #[.string a, .int .i64 y] 62))) ((Below.refl _ _).alloc (Nat.le_refl _) _))
        have HRq : Hid (Row (w4.alloc (.cells #[.string a, .int .i64 y] 62)) w4.heap.size (w4.heap.size + 1) 2 (some ⟨w4.heap.size, 0, none⟩) 1 1 [.string a, .int .i64 y]) := Lib.hid (row_blk (Blk.new _ _ _) rfl (Nat.le_refl _) (by unfold maxLen; omega))
        go_wp2_with (at_builtin; with_reducible show wpList _ _ _ (⟨some 79, _, _, _, _, _⟩ :: _) _ _; go_must (refine wpList_appS (o := ⟨some 79, _, _, _, _, _⟩) _ rfl (.tmp 74) (.tmp 78) _ rfl B 62 i1 _ 2 24 Tryz.underlying53 hi1 hz1 hs1 hb1 rfl (by omega) (.slice (some ⟨gp, 0, none⟩) Rn Rc) Rn (refCells nd.refs) (by go_simp) (HOX.out _ HMD.out.np) w4.heap.size (w4.heap.size + 1) (some ⟨w4.heap.size, 0, none⟩) 1 1 [.string a, .int .i64 y] (by go_simp) HRq.out (by simp [Value.oneCell']) (by unfold maxLen; omega) (by omega) HMD.out.np.hB ?_); go_must (intro A' c' Yn hownN hgrN hnewN; have HMX := Lib.hid (HMD.out.ref (y := (a, y)) hB0 hB1 hlrm.1 hlrm.2 HLX.out HI.out HSZ.out hownN hgrN hnewN); have HON2 := Lib.hid (HMD.out.np.keptN (HOX.out _ HMD.out.np) (by decide) hgrN); have s1 := (nodes_cells HLX.out HON2.out HI.out).c6; have s2 := nodes_frozen HLX.out HON2.out ((n - 1) * 7 + 6); clear hownN hgrN hnewN))
        go_ret
        exact lineQ_yes HFY.out HMX.out.bel (HFIN.out _ _ _ HMX.out)
/-- prop, ref: whatever has been read -/
theorem prop_any (w : World) (B0 B gr gm k : Nat) (v vw : Value) (l : List (Nd × Leaf)) (st : RS) (h : RIn B gr gm k v vw l st w) (h0 : st.next ≠ 0) (hB0 : B0 ≤ gr) (hB1 : B0 ≤ gm) (d : Nat) (s : ByteArray) (hs : s.size ≤ 1048576) (hk : k + 1 ≤ 4194304) :
    Calls Tryz.prog 44 #[.pointer (some ⟨gr, 0, none⟩), .int .i64 d, .string s] w (LineQ B0 B gr gm k (propP st d s.data.toList) w) := by
  cases hd : lastNd st d with
  | none =>
    have HL := Lib.hid (last_no w B gr gm k v vw l st h d hd)
    have HF : Hid (propP st d s.data.toList = none) := Lib.hid (by unfold propP; rw [hd]; rfl)
    have hBw : B0 ≤ w.heap.size := Nat.le_trans hB0 (Nat.le_of_lt h.box.lt)
    clear h hd
    go_enter Tryz.func44, Tryz.ntmps44
    go_wp2_with (go_at_call 82; refine HL.out.mono ?_; rintro e w1 ⟨rfl, rfl⟩)
    go_ret
    exact lineQ_no HF.out ((Below.refl _ _).mono hBw)
  | some nd =>
    obtain ⟨hd1, hd2⟩ := lastNd_some hd
    obtain ⟨h1, h2⟩ := last_get hd2
    obtain ⟨⟨⟨Pa, Pn, Pc⟩, K, ⟨Ra, Rn, Rc⟩⟩, hL⟩ := h.at_ h2
    obtain ⟨A, c, rfl, _, _⟩ := h.v_form
    have ho := h.np.own
    unfold OwnN at ho
    rw [h.len] at ho
    obtain ⟨g, rfl, _⟩ := own_addrB ho h1
    exact prop_last w B0 B gr gm k st.nds.length c g vw l st h h0 hB0 hB1 rfl h1 nd K Pa Ra Pn Pc Rn Rc hd2 hL d hd1 s hs hk
theorem ref_any (w : World) (B0 B gr gm k : Nat) (v vw : Value) (l : List (Nd × Leaf)) (st : RS) (h : RIn B gr gm k v vw l st w) (h0 : st.next ≠ 0) (hB0 : B0 ≤ gr) (hB1 : B0 ≤ gm) (d : Nat) (s : ByteArray) (hs : s.size ≤ 1048576) (hk : k + 1 ≤ 4194304) (hE : Env w) :
    Calls Tryz.prog 45 #[.pointer (some ⟨gr, 0, none⟩), .int .i64 d, .string s] w (LineQ B0 B gr gm k (refP st d s.data.toList) w) := by
  cases hd : lastNd st d with
  | none =>
    have HL := Lib.hid (last_no w B gr gm k v vw l st h d hd)
    have HF : Hid (refP st d s.data.toList = none) := Lib.hid (by unfold refP; rw [hd]; rfl)
    have hBw : B0 ≤ w.heap.size := Nat.le_trans hB0 (Nat.le_of_lt h.box.lt)
    clear h hd hE
    go_enter Tryz.func45, Tryz.ntmps45
    go_wp2_with (go_at_call 82; refine HL.out.mono ?_; rintro e w1 ⟨rfl, rfl⟩)
    go_ret
    exact lineQ_no HF.out ((Below.refl _ _).mono hBw)
  | some nd =>
    obtain ⟨hd1, hd2⟩ := lastNd_some hd
    obtain ⟨h1, h2⟩ := last_get hd2
    obtain ⟨⟨⟨Pa, Pn, Pc⟩, K, ⟨Ra, Rn, Rc⟩⟩, hL⟩ := h.at_ h2
    obtain ⟨A, c, rfl, _, _⟩ := h.v_form
    have ho := h.np.own
    unfold OwnN at ho
    rw [h.len] at ho
    obtain ⟨g, rfl, _⟩ := own_addrB ho h1
    exact ref_last w B0 B gr gm k st.nds.length c g vw l st h h0 hB0 hB1 rfl h1 nd K Pa Ra Pn Pc Rn Rc hd2 hL d hd1 s hs hk hE
end Go.Proofs.YtjjlofaejpnnnaaGreatDoor
namespace Go.Proofs.YtjjlofaejpnnnaaGreatDoor
open Go Go.RowKit
set_option linter.unusedVariables false
theorem stand_any (w : World) (B0 B gr gm k : Nat) (v vw : Value) (l : List (Nd × Leaf)) (st : RS) (h : RIn B gr gm k v vw l st w) (h0 : st.next ≠ 0) (hB0 : B0 ≤ gr) (hB1 : B0 ≤ gm) (n : Nd) (hn : n.par = 0 ∧ n.props = [] ∧ n.kids = [] ∧ n.refs = []) (hz : SzN n) (hid : 1 ≤ n.id ∧ n.id < st.next) (d : Nat) (hno : ¬ noStand st n.id d) (hk : k + 1 ≤ 4194304) :
    Calls Tryz.prog 86 #[.pointer (some ⟨gr, 0, none⟩), .int .i64 d, .agg #[.int .i64 n.id, .string n.con, .int .i64 n.par, .string n.role, .slice none 0 0, .slice none 0 0, .slice none 0 0]] w (StandQ B0 B gr gm k (stoodV st n d) w) := by
  have hok := h.ok h0
  obtain ⟨A, c, rfl, _, _⟩ := h.v_form
  rcases Nat.eq_zero_or_pos d with rfl | hd
  · rcases h.np.way.2 with ⟨rfl, _⟩ | ⟨gw, cap, cur, rfl, _⟩
    · exact stand0_nil w B0 B gr gm k _ c A l st h h0 hB0 hB1 n hn hz hid hno hk
    · exact stand0_some w B0 B gr gm k _ c gw _ cap A l st h h0 hB0 hB1 n hn hz hid hno hk
  · have hle : d ≤ st.deep.getLastD 0 := by
      rcases Nat.lt_or_ge (st.deep.getLastD 0) d with h1 | h1
      · exact absurd (.inr (.inr (.inl h1))) hno
      · exact h1
    obtain ⟨i, nd, hs⟩ := stood_at hok.dl hok.dk n hd hle
    obtain ⟨⟨P, ⟨Ka, Kn, Kc⟩, R⟩, hL⟩ := h.at_ hs.at_
    have ho := h.np.own
    unfold OwnN at ho
    rw [h.len] at ho
    have hilt := (List.getElem?_eq_some_iff.1 hs.at_).1
    obtain ⟨g, rfl, _⟩ := own_addrB ho (by omega)
    obtain ⟨Aw, cw, rfl, _, _⟩ := h.w_form
    have hw := h.np.way
    rw [wayI_len] at hw
    obtain ⟨gw, rfl, _⟩ := own_addrB hw (by omega)
    exact stand_pos w B0 B gr gm k _ c g gw _ cw l st h h0 hB0 hB1 n hn hz hid d hd hno hk i nd P R Ka Kn Kc hs hL
theorem nodeP_no {st : RS} {d : Nat} {s : List UInt8} (hl : st.deep.length = st.nds.length) (hk : DeepOk st.deep) (h : ∀ id, numberV (cutA 32 s) st.next = some id → noStand st id d) : nodeP st d s = none := by
  unfold nodeP
  cases hn : numberV (cutA 32 s) st.next with
  | none => rfl
  | some id =>
    have hno := h id hn
    simp only [Option.bind_some]
    split
    · simp only [Option.bind_some]
      split
      · rw [standsV_is hl hk, if_pos hno]
      · rfl
    · split
      · simp only [Option.bind_some]
        split
        · rw [standsV_is hl hk, if_pos hno]
        · rfl
      · rfl
/-- a node's line, behind its blanks, where the node may stand -/
theorem nodeP_0 {st : RS} {s : List UInt8} {id : Int} (hl : st.deep.length = st.nds.length) (hk : DeepOk st.deep) (h : numberV (cutA 32 s) st.next = some id) (hno : ¬ noStand st id 0) (c : ByteArray) (hc : c.data.toList = cutB 32 s) : nodeP st 0 s = if wordL c.data.toList = true then some (stoodV st ⟨id, c, 0, ⟨#[]⟩, [], [], []⟩ 0) else none := by
  unfold nodeP
  rw [h, Option.bind_some, if_pos rfl, Option.bind_some]
  simp only
  rw [← hc, bytesOf_is]
  split
  · rw [standsV_is hl hk, if_neg hno]; rfl
  · rfl
theorem nodeP_d {st : RS} {d : Nat} {s : List UInt8} {id : Int} (hd : 0 < d) (hl : st.deep.length = st.nds.length) (hk : DeepOk st.deep) (h : numberV (cutA 32 s) st.next = some id) (hno : ¬ noStand st id d) (r c : ByteArray) (hr : r.data.toList = cutA 32 (cutB 32 s)) (hc : c.data.toList = cutB 32 (cutB 32 s)) :
    nodeP st d s = if wordL r.data.toList = true then (if wordL c.data.toList = true then some (stoodV st ⟨id, c, 0, r, [], [], []⟩ d) else none) else none := by
  unfold nodeP
  rw [h, Option.bind_some, if_neg (by omega), ← hr, ← hc]
  split
  · rw [Option.bind_some]
    simp only
    rw [bytesOf_is, bytesOf_is]
    split
    · rw [standsV_is hl hk, if_neg hno]
    · rfl
  · rfl
theorem lineQ_stood {B0 B gr gm k : Nat} {r : Option RS} {st : RS} {w Y w' : World} (hr : r = some st) (hb : Below B0 w Y) (hs : Below B0 Y w' ∧ ∃ v vw l, RIn B gr gm (k + 1) v vw l st w') : LineQ B0 B gr gm k r w (.returned (.bool true)) w' := by
  obtain ⟨h1, v, vw, l, h2⟩ := hs
  exact lineQ_yes hr (hb.trans h1) h2
theorem szN0 {id : Int} {c r : ByteArray} (hc : c.size ≤ maxLen) (hr : r.size ≤ maxLen) : SzN ⟨id, c, 0, r, [], [], []⟩ := ⟨hc, hr, by simp, by simp⟩
set_option maxRecDepth 20000 in
set_option maxHeartbeats 6400000 in
theorem rdNode_any (w : World) (B0 B gr gm k : Nat) (v vw : Value) (l : List (Nd × Leaf)) (st : RS) (h : RIn B gr gm k v vw l st w) (h0 : st.next ≠ 0) (hB0 : B0 ≤ gr) (hB1 : B0 ≤ gm) (d : Nat) (s : ByteArray) (hs : s.size ≤ 1048576) (hd20 : d ≤ 1048576) (hk : k + 1 ≤ 4194304) (hE : Env w) :
    Calls Tryz.prog 46 #[.pointer (some ⟨gr, 0, none⟩), .int .i64 d, .string s] w (LineQ B0 B gr gm k (nodeP st d s.data.toList) w) := by
  have H := Lib.hid h
  have hok := h.ok h0
  have HOK := Lib.hid hok
  have hBw : B0 ≤ w.heap.size := Nat.le_trans hB0 (Nat.le_of_lt h.box.lt)
  have hgl := h.box.lt
  obtain ⟨A, c, rfl, hc1, hc2⟩ := h.v_form
  obtain ⟨Aw, cw, rfl, hw1, hw2⟩ := h.w_form
  obtain ⟨_, c1, _, _, c4⟩ := rd_cells h.box
  have HNOS : Hid (∀ (h : 4096 ≤ st.nds.length ∨ 64 ≤ d ∨ st.deep.getLastD 0 < d), nodeP st d s.data.toList = none) := Lib.hid fun hh => nodeP_no hok.dl hok.dk fun id _ => by
    unfold noStand
    rcases hh with h1 | h1 | h1
    · exact .inl h1
    · exact .inr (.inl h1)
    · exact .inr (.inr (.inl h1))
  have HNS : Hid (∀ id, st.nds.length < 4096 → d < 64 → d ≤ st.deep.getLastD 0 → ¬ (d = 0 ∧ id ≤ rootV st) → id ∉ idsOf st → ¬ noStand st id d) := Lib.hid fun id h1 h2 h3 h4 h5 hn => by
    unfold noStand at hn
    rcases hn with hn | hn | hn | hn | hn
    · omega
    · omega
    · omega
    · exact h5 hn
    · exact h4 hn
  have HFR : Hid (∀ (a : ByteArray) Y, a.size ≤ s.size → Below w.heap.size w Y → Calls Tryz.prog 85 #[.pointer (some ⟨gr, 0, none⟩), .int .i64 d, .string a] Y (NumP Y (freshV st d a.data.toList))) := Lib.hid fun a Y ha hY => fresh_any Y B gr gm k _ _ l st (h.after hY) h0 d a (by omega) (hE.below hY)
  have HST : Hid (∀ (id : Int) (cc rr : ByteArray) Y, cc.size ≤ s.size → rr.size ≤ s.size → 1 ≤ id ∧ id < st.next → ¬ noStand st id d → Below w.heap.size w Y → Calls Tryz.prog 86 #[.pointer (some ⟨gr, 0, none⟩), .int .i64 d, .agg #[.int .i64 id, .string cc, .int .i64 0, .string rr, .slice none 0 0, .slice none 0 0, .slice none 0 0]] Y (StandQ B0 B gr gm k (stoodV st ⟨id, cc, 0, rr, [], [], []⟩ d) Y)) := Lib.hid fun id cc rr Y h1 h2 h3 h4 hY => stand_any Y B0 B gr gm k _ _ l st (h.after hY) h0 hB0 hB1 ⟨id, cc, 0, rr, [], [], []⟩ ⟨rfl, rfl, rfl, rfl⟩ (szN0 (by unfold maxLen; omega) (by unfold maxLen; omega)) h3 d h4 hk
  clear h hok hE
  generalize hq : st.deep.getLastD 0 = q at c4 HNOS HNS hw1
  generalize hnl : st.nds.length = nl at c1 HNOS HNS hc1
  have HQ := Lib.hid hq
  clear hq hnl
  by_cases g1 : q < d
  · have g1' : (q : Int) < (d : Int) := by omega
    have HF := Lib.hid (HNOS.out (.inr (.inr g1)))
    go_enter Tryz.func46, Tryz.ntmps46
    go_wp2_with fail
    go_ret
    exact lineQ_no HF.out ((Below.refl _ _).mono hBw)
  · have g1' : ¬ (q : Int) < (d : Int) := by omega
    by_cases g2 : 64 ≤ d
    · have g2' : ¬ (d : Int) < 64 := by omega
      have g2'' : (64 : Int) ≤ (d : Int) := by omega
      have HF := Lib.hid (HNOS.out (.inr (.inl g2)))
      go_enter Tryz.func46, Tryz.ntmps46
      go_wp2_with fail
      go_ret
      exact lineQ_no HF.out ((Below.refl _ _).mono hBw)
    · have g2' : (d : Int) < 64 := by omega
      have g2'' : ¬ (64 : Int) ≤ (d : Int) := by omega
      by_cases g3 : 4096 ≤ nl
      · have g3' : ¬ (nl : Int) < 4096 := by omega
        have g3'' : (4096 : Int) ≤ (nl : Int) := by omega
        have HF := Lib.hid (HNOS.out (.inl g3))
        go_enter Tryz.func46, Tryz.ntmps46
        go_wp2_with fail
        go_ret
        exact lineQ_no HF.out ((Below.refl _ _).mono hBw)
      · have g3' : (nl : Int) < 4096 := by omega
        have g3'' : ¬ (4096 : Int) ≤ (nl : Int) := by omega
        have HCU := Lib.hid (cut_any s 32 w (by omega))
        go_enter Tryz.func46, Tryz.ntmps46
        go_upto_region 4 with (go_at_call 18; refine HCU.out.mono ?_; rintro e w1 ⟨a, b, rfl, ha, hb, hza, hzb, hb1⟩; have HB1 := Lib.hid hb1; clear hb1)
        have HFa := Lib.hid (HFR.out a w1 hza HB1.out)
        have HA := Lib.hid ha
        have HB := Lib.hid hb
        clear ha hb c1 c4
        cases hf : freshV st d a.data.toList with
        | none =>
          rw [hf] at HFa
          have HF : Hid (nodeP st d s.data.toList = none) := Lib.hid (nodeP_no HOK.out.dl HOK.out.dk fun id hid => by
            unfold freshV at hf
            rw [HA.out, hid, Option.bind_some] at hf
            split at hf
            · rename_i hx
              rcases hx with hx | hx
              · exact .inr (.inr (.inr (.inr hx)))
              · exact .inr (.inr (.inr (.inl hx)))
            · cases hf)
          clear hf
          go_wp2_with (go_at_call 85; refine HFa.out.mono ?_; rintro e w2 ⟨rfl, hb2⟩; have HB2 : Hid (Below w.heap.size w w2) := Lib.hid (HB1.out.trans (hb2.mono HB1.out.size)); clear hb2; (try simp only [Option.getD_none, Option.isSome_none]))
          go_ret
          exact lineQ_no HF.out (HB2.out.mono hBw)
        | some id =>
          rw [hf] at HFa
          have hfx : numberV (cutA 32 s.data.toList) st.next = some id ∧ ¬ (d = 0 ∧ id ≤ rootV st) ∧ id ∉ idsOf st := by
            unfold freshV at hf
            rw [HA.out] at hf
            obtain ⟨y, hy, hf⟩ := Option.bind_eq_some_iff.1 hf
            split at hf
            · cases hf
            · rename_i hx
              obtain rfl := Option.some.inj hf
              exact ⟨hy, fun h => hx (.inl h), fun h => hx (.inr h)⟩
          have HNU := Lib.hid hfx.1
          have HID := Lib.hid (numberV_some hfx.1).2
          have HNO := Lib.hid (HNS.out id (by omega) (by omega) (by omega) hfx.2.1 hfx.2.2)
          clear hf hfx HNS HNOS
          go_upto_region 7 with (go_at_call 85; refine HFa.out.mono ?_; rintro e w2 ⟨rfl, hb2⟩; have HB2 : Hid (Below w.heap.size w w2) := Lib.hid (HB1.out.trans (hb2.mono HB1.out.size)); clear hb2; (try simp only [Option.getD_some, Option.isSome_some]))
          have HN0 : Hid (Blk (w2.alloc (.cells #[.int .i64 id, .string ⟨#[]⟩, .int .i64 0, .string ⟨#[]⟩, .slice none 0 0, .slice none 0 0, .slice none 0 0] 55)) w2.heap.size 55 #[.int .i64 id, .string ⟨#[]⟩, .int .i64 0, .string ⟨#[]⟩, .slice none 0 0, .slice none 0 0, .slice none 0 0]) := Lib.hid (Blk.new _ _ _)
          have HB3 : Hid (Below w.heap.size w (w2.alloc (.cells #[.int .i64 id, .string ⟨#[]⟩, .int .i64 0, .string ⟨#[]⟩, .slice none 0 0, .slice none 0 0, .slice none 0 0] 55))) := Lib.hid (HB2.out.alloc HB2.out.size _)
          have HGN : Hid (w.heap.size ≤ w2.heap.size) := Lib.hid HB2.out.size
          by_cases hd : d = 0
          · subst hd
            have HFV : Hid (nodeP st 0 s.data.toList = if wordL b.data.toList = true then some (stoodV st ⟨id, b, 0, ⟨#[]⟩, [], [], []⟩ 0) else none) := Lib.hid (nodeP_0 HOK.out.dl HOK.out.dk HNU.out HNO.out b HB.out)
            go_upto_region 14 with (fail)
            generalize w2.alloc (.cells #[.int .i64 id, .string ⟨#[]⟩, .int .i64 0, .string ⟨#[]⟩, .slice none 0 0, .slice none 0 0, .slice none 0 0] 55) = W3 at HN0 HB3 ⊢
            generalize w2.heap.size = gn at HN0 HGN ⊢
            cases hwc : wordL b.data.toList with
            | false =>
              have HW9 := Lib.hid (word_no b W3 (by omega) hwc)
              have HF : Hid (nodeP st 0 s.data.toList = none) := Lib.hid (by rw [HFV.out, hwc]; rfl)
              clear hwc
              go_wp2_with (first | (go_at_call 83; refine HW9.out.mono ?_; rintro e w9 ⟨rfl, hb9⟩; have HB9 : Hid (Below w.heap.size w w9) := Lib.hid (HB3.out.trans (hb9.mono HB3.out.size)); have HN9 := Lib.hid (HN0.out.after hb9); have n1 := (HN9.out.cell 1).trans (show _ = some (.string ⟨#[]⟩) from rfl); have f1 := HN9.out.frozen 1; clear hb9) | (go_at_call 86; refine HST9.out.mono ?_; rintro e wz ⟨rfl, hz9⟩; have HZ9 := Lib.hid hz9; clear hz9))
              go_ret
              exact lineQ_no HF.out ((HB9.out.setCell (p := ⟨gn, 1, none⟩) HGN.out _).mono hBw)
            | true =>
              have HW9 := Lib.hid (word_yes b W3 (by omega) hwc)
              have HF : Hid (nodeP st 0 s.data.toList = some (stoodV st ⟨id, b, 0, ⟨#[]⟩, [], [], []⟩ 0)) := Lib.hid (by rw [HFV.out, hwc]; rfl)
              clear hwc
              go_upto_region 17 with (first | (go_at_call 83; refine HW9.out.mono ?_; rintro e w9 ⟨rfl, hb9⟩; have HB9 : Hid (Below w.heap.size w w9) := Lib.hid (HB3.out.trans (hb9.mono HB3.out.size)); have HN9 := Lib.hid (HN0.out.after hb9); have n1 := (HN9.out.cell 1).trans (show _ = some (.string ⟨#[]⟩) from rfl); have f1 := HN9.out.frozen 1; clear hb9) | (go_at_call 86; refine HST9.out.mono ?_; rintro e wz ⟨rfl, hz9⟩; have HZ9 := Lib.hid hz9; clear hz9))
              have HNX : Hid (Blk (w9.setCell ⟨gn, 1, none⟩ (.string b)) gn 55 #[.int .i64 id, .string b, .int .i64 0, .string ⟨#[]⟩, .slice none 0 0, .slice none 0 0, .slice none 0 0]) := Lib.hid (by have := HN9.out.set_ 1 (.string b); simpa using this)
              have HBX : Hid (Below w.heap.size w (w9.setCell ⟨gn, 1, none⟩ (.string b))) := Lib.hid (HB9.out.setCell (p := ⟨gn, 1, none⟩) HGN.out _)
              generalize w9.setCell ⟨gn, 1, none⟩ (.string b) = WX at HNX HBX ⊢
              clear n1 f1
              have m0 := (HNX.out.cell 0).trans (show _ = some (.int .i64 id) from rfl)
              have m1 := (HNX.out.cell 1).trans (show _ = some (.string b) from rfl)
              have m2 := (HNX.out.cell 2).trans (show _ = some (.int .i64 0) from rfl)
              have m3 := (HNX.out.cell 3).trans (show _ = some (.string ⟨#[]⟩) from rfl)
              have m4 := (HNX.out.cell 4).trans (show _ = some (.slice none 0 0) from rfl)
              have m5 := (HNX.out.cell 5).trans (show _ = some (.slice none 0 0) from rfl)
              have m6 := (HNX.out.cell 6).trans (show _ = some (.slice none 0 0) from rfl)
              have HST9 := Lib.hid (HST.out id b ⟨#[]⟩ WX (by omega) (by show 0 ≤ _; omega) HID.out HNO.out HBX.out)
              go_wp2_with (first | (go_at_call 83; refine HW9.out.mono ?_; rintro e w9 ⟨rfl, hb9⟩; have HB9 : Hid (Below w.heap.size w w9) := Lib.hid (HB3.out.trans (hb9.mono HB3.out.size)); have HN9 := Lib.hid (HN0.out.after hb9); have n1 := (HN9.out.cell 1).trans (show _ = some (.string ⟨#[]⟩) from rfl); have f1 := HN9.out.frozen 1; clear hb9) | (go_at_call 86; refine HST9.out.mono ?_; rintro e wz ⟨rfl, hz9⟩; have HZ9 := Lib.hid hz9; clear hz9))
              go_ret
              exact lineQ_stood HF.out (HBX.out.mono hBw) HZ9.out
          · have hd1 : (0 : Int) < (d : Int) := by omega
            have hdp : 0 < d := by omega
            go_upto_region 10 with (fail)
            generalize w2.alloc (.cells #[.int .i64 id, .string ⟨#[]⟩, .int .i64 0, .string ⟨#[]⟩, .slice none 0 0, .slice none 0 0, .slice none 0 0] 55) = W3 at HN0 HB3 ⊢
            generalize w2.heap.size = gn at HN0 HGN ⊢
            have HCV := Lib.hid (cut_any b 32 W3 (by omega))
            go_upto_region 11 with (go_at_call 18; refine HCV.out.mono ?_; rintro e w4 ⟨a2, b2, rfl, ha2, hb2, hza2, hzb2, hb4⟩; have HB4 : Hid (Below w.heap.size w w4) := Lib.hid (HB3.out.trans (hb4.mono HB3.out.size)); have HN4 := Lib.hid (HN0.out.after hb4); clear hb4)
            have HFV : Hid (nodeP st d s.data.toList = if wordL a2.data.toList = true then (if wordL b2.data.toList = true then some (stoodV st ⟨id, b2, 0, a2, [], [], []⟩ d) else none) else none) := Lib.hid (nodeP_d hdp HOK.out.dl HOK.out.dk HNU.out HNO.out a2 b2 (by rw [ha2, HB.out]) (by rw [hb2, HB.out]))
            clear ha2 hb2
            cases hwr : wordL a2.data.toList with
            | false =>
              have HW := Lib.hid (word_no a2 w4 (by omega) hwr)
              have HF : Hid (nodeP st d s.data.toList = none) := Lib.hid (by rw [HFV.out, hwr]; rfl)
              clear hwr
              go_wp2_with (go_at_call 83; refine HW.out.mono ?_; rintro e w5 ⟨rfl, hb5⟩; have HB5 : Hid (Below w.heap.size w w5) := Lib.hid (HB4.out.trans (hb5.mono HB4.out.size)); have HN5 := Lib.hid (HN4.out.after hb5); have n3 := (HN5.out.cell 3).trans (show _ = some (.string ⟨#[]⟩) from rfl); have f3 := HN5.out.frozen 3; clear hb5)
              go_ret
              exact lineQ_no HF.out ((HB5.out.setCell (p := ⟨gn, 3, none⟩) HGN.out _).mono hBw)
            | true =>
              have HW := Lib.hid (word_yes a2 w4 (by omega) hwr)
              have HFV2 : Hid (nodeP st d s.data.toList = if wordL b2.data.toList = true then some (stoodV st ⟨id, b2, 0, a2, [], [], []⟩ d) else none) := Lib.hid (by rw [HFV.out, hwr]; rfl)
              clear hwr
              go_upto_region 14 with (go_at_call 83; refine HW.out.mono ?_; rintro e w5 ⟨rfl, hb5⟩; have HB5 : Hid (Below w.heap.size w w5) := Lib.hid (HB4.out.trans (hb5.mono HB4.out.size)); have HN5 := Lib.hid (HN4.out.after hb5); have n3 := (HN5.out.cell 3).trans (show _ = some (.string ⟨#[]⟩) from rfl); have f3 := HN5.out.frozen 3; clear hb5)
              have HN6 : Hid (Blk (w5.setCell ⟨gn, 3, none⟩ (.string a2)) gn 55 #[.int .i64 id, .string ⟨#[]⟩, .int .i64 0, .string a2, .slice none 0 0, .slice none 0 0, .slice none 0 0]) := Lib.hid (by have := HN5.out.set_ 3 (.string a2); simpa using this)
              have HB6 : Hid (Below w.heap.size w (w5.setCell ⟨gn, 3, none⟩ (.string a2))) := Lib.hid (HB5.out.setCell (p := ⟨gn, 3, none⟩) HGN.out _)
              generalize w5.setCell ⟨gn, 3, none⟩ (.string a2) = W6 at HN6 HB6 ⊢
              clear n3 f3
              cases hwc : wordL b2.data.toList with
              | false =>
                have HW9 := Lib.hid (word_no b2 W6 (by omega) hwc)
                have HF : Hid (nodeP st d s.data.toList = none) := Lib.hid (by rw [HFV2.out, hwc]; rfl)
                clear hwc
                go_wp2_with (first | (go_at_call 83; refine HW9.out.mono ?_; rintro e w9 ⟨rfl, hb9⟩; have HB9 : Hid (Below w.heap.size w w9) := Lib.hid (HB6.out.trans (hb9.mono HB6.out.size)); have HN9 := Lib.hid (HN6.out.after hb9); have n1 := (HN9.out.cell 1).trans (show _ = some (.string ⟨#[]⟩) from rfl); have f1 := HN9.out.frozen 1; clear hb9) | (go_at_call 86; refine HST9.out.mono ?_; rintro e wz ⟨rfl, hz9⟩; have HZ9 := Lib.hid hz9; clear hz9))
                go_ret
                exact lineQ_no HF.out ((HB9.out.setCell (p := ⟨gn, 1, none⟩) HGN.out _).mono hBw)
              | true =>
                have HW9 := Lib.hid (word_yes b2 W6 (by omega) hwc)
                have HF : Hid (nodeP st d s.data.toList = some (stoodV st ⟨id, b2, 0, a2, [], [], []⟩ d)) := Lib.hid (by rw [HFV2.out, hwc]; rfl)
                clear hwc
                go_upto_region 17 with (first | (go_at_call 83; refine HW9.out.mono ?_; rintro e w9 ⟨rfl, hb9⟩; have HB9 : Hid (Below w.heap.size w w9) := Lib.hid (HB6.out.trans (hb9.mono HB6.out.size)); have HN9 := Lib.hid (HN6.out.after hb9); have n1 := (HN9.out.cell 1).trans (show _ = some (.string ⟨#[]⟩) from rfl); have f1 := HN9.out.frozen 1; clear hb9) | (go_at_call 86; refine HST9.out.mono ?_; rintro e wz ⟨rfl, hz9⟩; have HZ9 := Lib.hid hz9; clear hz9))
                have HNX : Hid (Blk (w9.setCell ⟨gn, 1, none⟩ (.string b2)) gn 55 #[.int .i64 id, .string b2, .int .i64 0, .string a2, .slice none 0 0, .slice none 0 0, .slice none 0 0]) := Lib.hid (by have := HN9.out.set_ 1 (.string b2); simpa using this)
                have HBX : Hid (Below w.heap.size w (w9.setCell ⟨gn, 1, none⟩ (.string b2))) := Lib.hid (HB9.out.setCell (p := ⟨gn, 1, none⟩) HGN.out _)
                generalize w9.setCell ⟨gn, 1, none⟩ (.string b2) = WX at HNX HBX ⊢
                clear n1 f1
                have m0 := (HNX.out.cell 0).trans (show _ = some (.int .i64 id) from rfl)
                have m1 := (HNX.out.cell 1).trans (show _ = some (.string b2) from rfl)
                have m2 := (HNX.out.cell 2).trans (show _ = some (.int .i64 0) from rfl)
                have m3 := (HNX.out.cell 3).trans (show _ = some (.string a2) from rfl)
                have m4 := (HNX.out.cell 4).trans (show _ = some (.slice none 0 0) from rfl)
                have m5 := (HNX.out.cell 5).trans (show _ = some (.slice none 0 0) from rfl)
                have m6 := (HNX.out.cell 6).trans (show _ = some (.slice none 0 0) from rfl)
                have HST9 := Lib.hid (HST.out id b2 a2 WX (by omega) (by omega) HID.out HNO.out HBX.out)
                go_wp2_with (first | (go_at_call 83; refine HW9.out.mono ?_; rintro e w9 ⟨rfl, hb9⟩; have HB9 : Hid (Below w.heap.size w w9) := Lib.hid (HB6.out.trans (hb9.mono HB6.out.size)); have HN9 := Lib.hid (HN6.out.after hb9); have n1 := (HN9.out.cell 1).trans (show _ = some (.string ⟨#[]⟩) from rfl); have f1 := HN9.out.frozen 1; clear hb9) | (go_at_call 86; refine HST9.out.mono ?_; rintro e wz ⟨rfl, hz9⟩; have HZ9 := Lib.hid hz9; clear hz9))
                go_ret
                exact lineQ_stood HF.out (HBX.out.mono hBw) HZ9.out
end Go.Proofs.YtjjlofaejpnnnaaGreatDoor

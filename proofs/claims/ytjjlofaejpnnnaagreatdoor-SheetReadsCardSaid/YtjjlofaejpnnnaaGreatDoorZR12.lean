/-
  WALKS over package sheet: ref; prop and ref, whatever has been read.
  THE DOCUMENT's READER in memory: UIn; the last node's copy, turned and stored back.
-/
import Derived.Test.YtjjlofaejpnnnaaGreatDoorZR11
namespace Go.Proofs.YtjjlofaejpnnnaaGreatDoor
open Go Go.RowKit
set_option linter.unusedVariables false
theorem refersV_some {st : RS} {nd : Nd} {a : ByteArray} {v : List UInt8} {y : Int} (h : numberV v st.next = some y) (h4 : ∀ p ∈ nd.refs.getLast?, p.1.data.toList < a.data.toList) : refersV st nd a.data.toList v = some (lastV st { nd with refs := nd.refs ++ [(a, y)] }) := by
  unfold refersV
  rw [h]
  simp only [bytesOf_is]
  rw [if_pos h4]
theorem refersV_no1 {st : RS} {nd : Nd} {a : ByteArray} {v : List UInt8} (h : numberV v st.next = none) : refersV st nd a.data.toList v = none := by
  unfold refersV
  rw [h]
theorem refersV_no2 {st : RS} {nd : Nd} {a : ByteArray} {v : List UInt8} (h4 : ¬ ∀ p ∈ nd.refs.getLast?, p.1.data.toList < a.data.toList) : refersV st nd a.data.toList v = none := by
  unfold refersV
  cases numberV v st.next with
  | none => rfl
  | some y =>
    simp only
    rw [if_neg h4]
set_option maxRecDepth 20000 in
set_option maxHeartbeats 6400000 in
theorem ref_last (w : World) (B0 B gr gm k n c g : Nat) (vw : Value) (l : List (Nd × Leaf)) (st : RS) (h : RIn B gr gm k (.slice (some ⟨g, 0, none⟩) n c) vw l st w) (h0 : st.next ≠ 0) (hB0 : B0 ≤ gr) (hB1 : B0 ≤ gm) (hn : st.nds.length = n) (hn0 : 0 < n)
    (nd : Nd) (K : Sl) (Pa Ra : Option Addr) (Pn Pc Rn Rc : Nat) (hl : st.nds.getLast? = some nd) (hi : l[n - 1]? = some (nd, ⟨⟨Pa, Pn, Pc⟩, K, ⟨Ra, Rn, Rc⟩⟩)) (d : Nat) (hd : d = st.deep.getLastD 0) (s : ByteArray) (hs : s.size ≤ 1048576) (hk : k + 1 ≤ 4194304) (hE : Env w) :
    Calls Tryz.prog 45 #[.pointer (some ⟨gr, 0, none⟩), .int .i64 d, .string s] w (LineQ B0 B gr gm k (refP st d s.data.toList) w) := by
  have H := Lib.hid h
  have HL := Lib.hid (last_yes w B gr gm k g n c vw l st h hn hn0 d hd)
  have HPV : Hid (refP st d s.data.toList = if wordL (cutA 61 s.data.toList) = true then refersV st nd (cutA 61 s.data.toList) (cutB 61 s.data.toList) else none) := Lib.hid (by
    unfold refP lastNd
    rw [if_pos hd, hl]; rfl)
  have hgB : B ≤ g := (World.ownsRow.lt h.np.own g rfl).1
  have hgw : g < w.heap.size := (World.ownsRow.lt h.np.own g rfl).2
  have hBw : B0 ≤ w.heap.size := Nat.le_trans hB0 (Nat.le_of_lt h.box.lt)
  have hlrm : gr < B ∧ gm < B := ⟨h.lr, h.lm⟩
  have HLX : Hid (l.length = n) := Lib.hid (by rw [h.len]; exact hn)
  have hlf := h.np.leaf _ (List.mem_of_getElem? hi)
  have HPN : Hid (Rn = nd.refs.length ∧ Rn ≤ k) := Lib.hid ⟨hlf.rn, by have := hlf.rn; have h2 := (h.ln nd (List.mem_of_getElem? (last_get hl).2)).2.2; simp only at this; omega⟩
  have hpk : Rn ≤ 4194304 := by have := HPN.out.2; omega
  have hokN := h.ok h0
  have hn1 := hokN.n1
  have hn2 := hokN.n2
  have hEw := Lib.hid hE
  have HI := Lib.hid hi
  have HCE : Hid (∀ Y, Below w.heap.size w Y → NodeAt Y g ((n - 1) * 7) nd ⟨⟨Pa, Pn, Pc⟩, K, ⟨Ra, Rn, Rc⟩⟩) := Lib.hid fun Y hY => (h.np.after hY).cells HLX.out hi
  have HPR : Hid (∀ Y, Below w.heap.size w Y → Y.ownsRow B 62 2 (.slice Ra Rn Rc) Rn (refCells nd.refs)) := Lib.hid fun Y hY => ((h.np.after hY).leaf _ (List.mem_of_getElem? hi)).r
  have HOX : Hid (∀ (X : World) {vw : Value} {ws : List Int}, NP B (.slice (some ⟨g, 0, none⟩) n c) vw l ws X → X.ownsRow B 62 2 (.slice Ra Rn Rc) Rn (refCells nd.refs)) := Lib.hid fun X vw ws hX => (hX.leaf _ (List.mem_of_getElem? hi)).r
  have HMID : Hid (∀ Y, Below w.heap.size w Y → MidE B0 B gr gm k st.next (rootV st) (.slice (some ⟨g, 0, none⟩) n c) vw l (wayI st.deep) (idsOf st) w Y) := Lib.hid fun Y hY => h.midE hBw hY
  have HFIN0 : Hid (∀ (y : Int) (a : ByteArray) (Az : Option Addr) (cz : Nat) (W : World), MidE B0 B gr gm k st.next (rootV st) (.slice (some ⟨g, 0, none⟩) n c) vw (l.set (n - 1) ({ nd with refs := nd.refs ++ [(a, y)] }, ⟨⟨Pa, Pn, Pc⟩, K, ⟨Az, Rn + 1, cz⟩⟩)) (wayI st.deep) (idsOf st) w W → RIn B gr gm (k + 1) (.slice (some ⟨g, 0, none⟩) n c) vw (l.set (n - 1) ({ nd with refs := nd.refs ++ [(a, y)] }, ⟨⟨Pa, Pn, Pc⟩, K, ⟨Az, Rn + 1, cz⟩⟩)) (lastV st { nd with refs := nd.refs ++ [(a, y)] }) W) := Lib.hid fun y a Az cz W hE => by
    have h2 := h.ln nd (List.mem_of_getElem? (last_get hl).2)
    exact h.lastSet h0 hl rfl hn hE.bx hE.set hE.np (by simp only [List.length_append, List.length_singleton]; omega) hk
  obtain ⟨i1, hi1, hz1, hs1, hb1⟩ := info_parts refInfo
  clear h hlf hl hn hd hE hokN
  by_cases hP : Rn = 0
  · have HLT0 : Hid (∀ a : ByteArray, ∀ p ∈ nd.refs.getLast?, p.1.data.toList < a.data.toList) := Lib.hid fun a p hp => by
      have : nd.refs = [] := List.eq_nil_of_length_eq_zero (by have := HPN.out.1; omega)
      rw [this] at hp; cases hp
    have hP0 : ¬ (0 : Int) < (Rn : Int) := by omega
    clear hP hi
    have HC0 : Hid (∀ Y, Below w.heap.size w Y → Y.cell? ⟨gr, 0, none⟩ = some (.int .i64 st.next)) := Lib.hid fun Y hY => (rd_cells (H.out.after hY).box).1
    have hw1 : IntKind.i64.wrap (st.next - 1) = st.next - 1 := IntWalk.i64_in _ (by omega)
    go_enter Tryz.func45, Tryz.ntmps45
    go_upto_region 4 with (go_at_call 82; refine HL.out.mono ?_; rintro e w1 ⟨rfl, hb1⟩; have HB1 := Lib.hid hb1; clear hb1)
    have HCU := Lib.hid (cut_any s 61 w1 (by omega))
    go_upto_region 5 with (go_at_call 18; refine HCU.out.mono ?_; rintro e w2 ⟨a, b, rfl, ha, hb, hza, hzb, hb2⟩; have HB2 : Hid (Below w.heap.size w w2) := Lib.hid (HB1.out.trans (hb2.mono HB1.out.size)); clear hb2)
    have HV : Hid (refP st d s.data.toList = if wordL a.data.toList = true then refersV st nd a.data.toList b.data.toList else none) := Lib.hid (by rw [HPV.out, ha, hb])
    clear ha hb
    cases hwl : wordL a.data.toList with
    | false =>
      have HW := Lib.hid (word_no a w2 (by omega) hwl)
      have HF : Hid (refP st d s.data.toList = none) := Lib.hid (by rw [HV.out, hwl]; rfl)
      clear hwl
      go_wp2_with (go_at_call 83; refine HW.out.mono ?_; rintro e w3 ⟨rfl, hb3⟩; have HB3 : Hid (Below w.heap.size w w3) := Lib.hid (HB2.out.trans (hb3.mono HB2.out.size)); have c4 := (HCE.out _ HB3.out).c6; clear hb3)
      go_ret
      exact lineQ_no HF.out (HB3.out.mono hBw)
    | true =>
    have HW := Lib.hid (word_yes a w2 (by omega) hwl)
    have HF : Hid (refP st d s.data.toList = refersV st nd a.data.toList b.data.toList) := Lib.hid (by rw [HV.out, hwl]; rfl)
    clear hwl
    have HNU : Hid (∀ Y, Below w.heap.size w Y → Calls Tryz.prog 76 #[.string b, .int .i64 (st.next - 1)] Y (NumP Y (numberV b.data.toList st.next))) := Lib.hid fun Y hY => by
      have := number_any b (st.next - 1) Y (by omega) (hEw.out.below hY)
      rwa [show st.next - 1 + 1 = st.next from by omega] at this
    have HLT := Lib.hid (HLT0.out a)
    cases hnv : numberV b.data.toList st.next with
    | none =>
      rw [hnv] at HNU
      have HNO : Hid (refP st d s.data.toList = none) := Lib.hid (by rw [HF.out]; exact refersV_no1 hnv)
      clear hnv
      go_wp2_with (first | (go_at_call 83; refine HW.out.mono ?_; rintro e w3 ⟨rfl, hb3⟩; have HB3 : Hid (Below w.heap.size w w3) := Lib.hid (HB2.out.trans (hb3.mono HB2.out.size)); have c4 := (HCE.out _ HB3.out).c6; have c0 := HC0.out _ HB3.out; clear hb3) | (go_at_call 76; refine (HNU.out _ HB3.out).mono ?_; rintro e w4 ⟨rfl, hb4⟩; have HB4 : Hid (Below w.heap.size w w4) := Lib.hid (HB3.out.trans (hb4.mono HB3.out.size)); clear hb4; (try simp only [Option.getD_some, Option.getD_none, Option.isSome_some, Option.isSome_none])))
      go_ret
      exact lineQ_no HNO.out (HB4.out.mono hBw)
    | some y =>
      rw [hnv] at HNU
      have HFY : Hid (refP st d s.data.toList = some (lastV st { nd with refs := nd.refs ++ [(a, y)] })) := Lib.hid (by rw [HF.out]; exact refersV_some hnv HLT.out)
      have HSZ : Hid (a.size ≤ maxLen) := Lib.hid (by unfold maxLen; omega)
      have HFIN := Lib.hid (HFIN0.out y a)
      clear hnv
      go_upto_region 12 with (first | (go_at_call 83; refine HW.out.mono ?_; rintro e w3 ⟨rfl, hb3⟩; have HB3 : Hid (Below w.heap.size w w3) := Lib.hid (HB2.out.trans (hb3.mono HB2.out.size)); have c4 := (HCE.out _ HB3.out).c6; have c0 := HC0.out _ HB3.out; clear hb3) | (go_at_call 76; refine (HNU.out _ HB3.out).mono ?_; rintro e w4 ⟨rfl, hb4⟩; have HB4 : Hid (Below w.heap.size w w4) := Lib.hid (HB3.out.trans (hb4.mono HB3.out.size)); clear hb4; (try simp only [Option.getD_some, Option.getD_none, Option.isSome_some, Option.isSome_none])))
      have HME := Lib.hid (HMID.out _ HB4.out)
      (try clear c4)
      have c9 := (HCE.out _ HB4.out).c6
      have HMD := Lib.hid (HME.out.after (W' := (w4.alloc (.cells #[.string a, .int .i64 y] 62))) ((Below.refl _ _).alloc (Nat.le_refl _) _))
      have HRq : Hid (Row (w4.alloc (.cells #[.string a, .int .i64 y] 62)) w4.heap.size (w4.heap.size + 1) 2 (some ⟨w4.heap.size, 0, none⟩) 1 1 [.string a, .int .i64 y]) := Lib.hid (row_blk (Blk.new _ _ _) rfl (Nat.le_refl _) (by unfold maxLen; omega))
      go_wp2_with (at_builtin; with_reducible show wpList _ _ _ (⟨some 79, _, _, _, _, _⟩ :: _) _ _; go_must (refine wpList_appS (o := ⟨some 79, _, _, _, _, _⟩) _ rfl (.tmp 74) (.tmp 78) _ rfl B 62 i1 _ 2 24 Tryz.underlying53 hi1 hz1 hs1 hb1 rfl (by omega) (.slice Ra Rn Rc) Rn (refCells nd.refs) (by go_simp) (HOX.out _ HMD.out.np) w4.heap.size (w4.heap.size + 1) (some ⟨w4.heap.size, 0, none⟩) 1 1 [.string a, .int .i64 y] (by go_simp) HRq.out (by simp [Value.oneCell']) (by unfold maxLen; omega) (by omega) HMD.out.np.hB ?_); go_must (intro A' c' Yn hownN hgrN hnewN; have HMX := Lib.hid (HMD.out.ref (y := (a, y)) hB0 hB1 hlrm.1 hlrm.2 HLX.out HI.out HSZ.out hownN hgrN hnewN); have HON2 := Lib.hid (HMD.out.np.keptN (HOX.out _ HMD.out.np) (by decide) hgrN); have s1 := (nodes_cells HLX.out HON2.out HI.out).c6; have s2 := nodes_frozen HLX.out HON2.out ((n - 1) * 7 + 6); clear hownN hgrN hnewN))
      go_ret
      exact lineQ_yes HFY.out HMX.out.bel (HFIN.out _ _ _ HMX.out)
  · have hpos : 0 < Rn := by omega
    obtain ⟨p, hp1, hp2⟩ := last_ndR HPN.out.1.symm hpos
    obtain ⟨gp, rfl, hgp⟩ := own_addrB (HPR.out w (Below.refl _ _)) hpos
    have hP0 : (0 : Int) < (Rn : Int) := by omega
    have hwr : IntKind.i64.wrap ((Rn : Int) - 1) = ((Rn - 1 : Nat) : Int) := by rw [IntWalk.i64_in _ (by omega)]; omega
    have hix : Rn - 1 < Rn := by omega
    have HXP : Hid (∀ Y, Below w.heap.size w Y → Y.cell? ⟨gp, (Rn - 1) * 2, none⟩ = some (.string p.1)) := Lib.hid fun Y hY => by
      rw [World.ownsRow.cellAt (HPR.out Y hY) ((Rn - 1) * 2) (by omega)]
      exact (refCells_get hp1).1
    have HP2 := Lib.hid hp2
    clear hP hp1 hp2 hi
    have HC0 : Hid (∀ Y, Below w.heap.size w Y → Y.cell? ⟨gr, 0, none⟩ = some (.int .i64 st.next)) := Lib.hid fun Y hY => (rd_cells (H.out.after hY).box).1
    have hw1 : IntKind.i64.wrap (st.next - 1) = st.next - 1 := IntWalk.i64_in _ (by omega)
    go_enter Tryz.func45, Tryz.ntmps45
    go_upto_region 4 with (go_at_call 82; refine HL.out.mono ?_; rintro e w1 ⟨rfl, hb1⟩; have HB1 := Lib.hid hb1; clear hb1)
    have HCU := Lib.hid (cut_any s 61 w1 (by omega))
    go_upto_region 5 with (go_at_call 18; refine HCU.out.mono ?_; rintro e w2 ⟨a, b, rfl, ha, hb, hza, hzb, hb2⟩; have HB2 : Hid (Below w.heap.size w w2) := Lib.hid (HB1.out.trans (hb2.mono HB1.out.size)); clear hb2)
    have HV : Hid (refP st d s.data.toList = if wordL a.data.toList = true then refersV st nd a.data.toList b.data.toList else none) := Lib.hid (by rw [HPV.out, ha, hb])
    clear ha hb
    cases hwl : wordL a.data.toList with
    | false =>
      have HW := Lib.hid (word_no a w2 (by omega) hwl)
      have HF : Hid (refP st d s.data.toList = none) := Lib.hid (by rw [HV.out, hwl]; rfl)
      clear hwl
      go_wp2_with (go_at_call 83; refine HW.out.mono ?_; rintro e w3 ⟨rfl, hb3⟩; have HB3 : Hid (Below w.heap.size w w3) := Lib.hid (HB2.out.trans (hb3.mono HB2.out.size)); have c4 := (HCE.out _ HB3.out).c6; clear hb3)
      go_ret
      exact lineQ_no HF.out (HB3.out.mono hBw)
    | true =>
    have HW := Lib.hid (word_yes a w2 (by omega) hwl)
    have HF : Hid (refP st d s.data.toList = refersV st nd a.data.toList b.data.toList) := Lib.hid (by rw [HV.out, hwl]; rfl)
    clear hwl
    have HNU : Hid (∀ Y, Below w.heap.size w Y → Calls Tryz.prog 76 #[.string b, .int .i64 (st.next - 1)] Y (NumP Y (numberV b.data.toList st.next))) := Lib.hid fun Y hY => by
      have := number_any b (st.next - 1) Y (by omega) (hEw.out.below hY)
      rwa [show st.next - 1 + 1 = st.next from by omega] at this
    cases hbl : (Op.bytesLess a.toList p.1.toList || a.toList == p.1.toList) with
    | true =>
      have HNO : Hid (refP st d s.data.toList = none) := Lib.hid (by
        rw [HF.out]
        refine refersV_no2 fun hc => ?_
        have h4 := (less_iff a p.1).2 (hc p (by rw [HP2.out]; rfl))
        rw [h4] at hbl; cases hbl)
      go_wp2_with (go_at_call 83; refine HW.out.mono ?_; rintro e w3 ⟨rfl, hb3⟩; have HB3 : Hid (Below w.heap.size w w3) := Lib.hid (HB2.out.trans (hb3.mono HB2.out.size)); have c4 := (HCE.out _ HB3.out).c6; have xp := HXP.out _ HB3.out; clear hb3)
      go_ret
      exact lineQ_no HNO.out (HB3.out.mono hBw)
    | false =>
      have HLT : Hid (∀ q ∈ nd.refs.getLast?, q.1.data.toList < a.data.toList) := Lib.hid fun q hq => by
        rw [HP2.out] at hq
        obtain rfl : p = q := Option.some.inj hq
        exact (less_iff a p.1).1 hbl
      cases hnv : numberV b.data.toList st.next with
      | none =>
        rw [hnv] at HNU
        have HNO : Hid (refP st d s.data.toList = none) := Lib.hid (by rw [HF.out]; exact refersV_no1 hnv)
        clear hnv
        go_wp2_with (first | (go_at_call 83; refine HW.out.mono ?_; rintro e w3 ⟨rfl, hb3⟩; have HB3 : Hid (Below w.heap.size w w3) := Lib.hid (HB2.out.trans (hb3.mono HB2.out.size)); have c4 := (HCE.out _ HB3.out).c6; have c0 := HC0.out _ HB3.out; have xp := HXP.out _ HB3.out; clear hb3) | (go_at_call 76; refine (HNU.out _ HB3.out).mono ?_; rintro e w4 ⟨rfl, hb4⟩; have HB4 : Hid (Below w.heap.size w w4) := Lib.hid (HB3.out.trans (hb4.mono HB3.out.size)); clear hb4; (try simp only [Option.getD_some, Option.getD_none, Option.isSome_some, Option.isSome_none])))
        go_ret
        exact lineQ_no HNO.out (HB4.out.mono hBw)
      | some y =>
        rw [hnv] at HNU
        have HFY : Hid (refP st d s.data.toList = some (lastV st { nd with refs := nd.refs ++ [(a, y)] })) := Lib.hid (by rw [HF.out]; exact refersV_some hnv HLT.out)
        have HSZ : Hid (a.size ≤ maxLen) := Lib.hid (by unfold maxLen; omega)
        have HFIN := Lib.hid (HFIN0.out y a)
        clear hnv
        go_upto_region 12 with (first | (go_at_call 83; refine HW.out.mono ?_; rintro e w3 ⟨rfl, hb3⟩; have HB3 : Hid (Below w.heap.size w w3) := Lib.hid (HB2.out.trans (hb3.mono HB2.out.size)); have c4 := (HCE.out _ HB3.out).c6; have c0 := HC0.out _ HB3.out; have xp := HXP.out _ HB3.out; clear hb3) | (go_at_call 76; refine (HNU.out _ HB3.out).mono ?_; rintro e w4 ⟨rfl, hb4⟩; have HB4 : Hid (Below w.heap.size w w4) := Lib.hid (HB3.out.trans (hb4.mono HB3.out.size)); clear hb4; (try simp only [Option.getD_some, Option.getD_none, Option.isSome_some, Option.isSome_none])))
        have HME := Lib.hid (HMID.out _ HB4.out)
        (try clear c4)
        have c9 := (HCE.out _ HB4.out).c6
        have HMD := Lib.hid (HME.out.after (W' := (w4.alloc (.cells #[.string a, .int .i64 y] 62))) ((Below.refl _ _).alloc (Nat.le_refl _) _))
        have HRq : Hid (Row (w4.alloc (.cells #[.string a, .int .i64 y] 62)) w4.heap.size (w4.heap.size + 1) 2 (some ⟨w4.heap.size, 0, none⟩) 1 1 [.string a, .int .i64 y]) := Lib.hid (row_blk (Blk.new _ _ _) rfl (Nat.le_refl _) (by unfold maxLen; omega))
        go_wp2_with (at_builtin; with_reducible show wpList _ _ _ (⟨some 79, _, _, _, _, _⟩ :: _) _ _; go_must (refine wpList_appS (o := ⟨some 79, _, _, _, _, _⟩) _ rfl (.tmp 74) (.tmp 78) _ rfl B 62 i1 _ 2 24 Tryz.underlying53 hi1 hz1 hs1 hb1 rfl (by omega) (.slice (some ⟨gp, 0, none⟩) Rn Rc) Rn (refCells nd.refs) (by go_simp) (HOX.out _ HMD.out.np) w4.heap.size (w4.heap.size + 1) (some ⟨w4.heap.size, 0, none⟩) 1 1 [.string a, .int .i64 y] (by go_simp) HRq.out (by simp [Value.oneCell']) (by unfold maxLen; omega) (by omega) HMD.out.np.hB ?_); go_must (intro A' c' Yn hownN hgrN hnewN; have HMX := Lib.hid (HMD.out.ref (y := (a, y)) hB0 hB1 hlrm.1 hlrm.2 HLX.out HI.out HSZ.out hownN hgrN hnewN); have HON2 := Lib.hid (HMD.out.np.keptN (HOX.out _ HMD.out.np) (by decide) hgrN); have s1 := (nodes_cells HLX.out HON2.out HI.out).c6; have s2 := nodes_frozen HLX.out HON2.out ((n - 1) * 7 + 6); clear hownN hgrN hnewN))
        go_ret
        exact lineQ_yes HFY.out HMX.out.bel (HFIN.out _ _ _ HMX.out)
/-- prop, ref: whatever has been read -/
theorem prop_any (w : World) (B0 B gr gm k : Nat) (v vw : Value) (l : List (Nd × Leaf)) (st : RS) (h : RIn B gr gm k v vw l st w) (h0 : st.next ≠ 0) (hB0 : B0 ≤ gr) (hB1 : B0 ≤ gm) (d : Nat) (s : ByteArray) (hs : s.size ≤ 1048576) (hk : k + 1 ≤ 4194304) :
    Calls Tryz.prog 44 #[.pointer (some ⟨gr, 0, none⟩), .int .i64 d, .string s] w (LineQ B0 B gr gm k (propP st d s.data.toList) w) := by
  cases hd : lastNd st d with
  | none =>
    have HL := Lib.hid (last_no w B gr gm k v vw l st h d hd)
    have HF : Hid (propP st d s.data.toList = none) := Lib.hid (by unfold propP; rw [hd]; rfl)
    have hBw : B0 ≤ w.heap.size := Nat.le_trans hB0 (Nat.le_of_lt h.box.lt)
    clear h hd
    go_enter Tryz.func44, Tryz.ntmps44
    go_wp2_with (go_at_call 82; refine HL.out.mono ?_; rintro e w1 ⟨rfl, rfl⟩)
    go_ret
    exact lineQ_no HF.out ((Below.refl _ _).mono hBw)
  | some nd =>
    obtain ⟨hd1, hd2⟩ := lastNd_some hd
    obtain ⟨h1, h2⟩ := last_get hd2
    obtain ⟨⟨⟨Pa, Pn, Pc⟩, K, ⟨Ra, Rn, Rc⟩⟩, hL⟩ := h.at_ h2
    obtain ⟨A, c, rfl, _, _⟩ := h.v_form
    have ho := h.np.own
    unfold OwnN at ho
    rw [h.len] at ho
    obtain ⟨g, rfl, _⟩ := own_addrB ho h1
    exact prop_last w B0 B gr gm k st.nds.length c g vw l st h h0 hB0 hB1 rfl h1 nd K Pa Ra Pn Pc Rn Rc hd2 hL d hd1 s hs hk
theorem ref_any (w : World) (B0 B gr gm k : Nat) (v vw : Value) (l : List (Nd × Leaf)) (st : RS) (h : RIn B gr gm k v vw l st w) (h0 : st.next ≠ 0) (hB0 : B0 ≤ gr) (hB1 : B0 ≤ gm) (d : Nat) (s : ByteArray) (hs : s.size ≤ 1048576) (hk : k + 1 ≤ 4194304) (hE : Env w) :
    Calls Tryz.prog 45 #[.pointer (some ⟨gr, 0, none⟩), .int .i64 d, .string s] w (LineQ B0 B gr gm k (refP st d s.data.toList) w) := by
  cases hd : lastNd st d with
  | none =>
    have HL := Lib.hid (last_no w B gr gm k v vw l st h d hd)
    have HF : Hid (refP st d s.data.toList = none) := Lib.hid (by unfold refP; rw [hd]; rfl)
    have hBw : B0 ≤ w.heap.size := Nat.le_trans hB0 (Nat.le_of_lt h.box.lt)
    clear h hd hE
    go_enter Tryz.func45, Tryz.ntmps45
    go_wp2_with (go_at_call 82; refine HL.out.mono ?_; rintro e w1 ⟨rfl, rfl⟩)
    go_ret
    exact lineQ_no HF.out ((Below.refl _ _).mono hBw)
  | some nd =>
    obtain ⟨hd1, hd2⟩ := lastNd_some hd
    obtain ⟨h1, h2⟩ := last_get hd2
    obtain ⟨⟨⟨Pa, Pn, Pc⟩, K, ⟨Ra, Rn, Rc⟩⟩, hL⟩ := h.at_ h2
    obtain ⟨A, c, rfl, _, _⟩ := h.v_form
    have ho := h.np.own
    unfold OwnN at ho
    rw [h.len] at ho
    obtain ⟨g, rfl, _⟩ := own_addrB ho h1
    exact ref_last w B0 B gr gm k st.nds.length c g vw l st h h0 hB0 hB1 rfl h1 nd K Pa Ra Pn Pc Rn Rc hd2 hL d hd1 s hs hk hE
end Go.Proofs.YtjjlofaejpnnnaaGreatDoor
namespace Go.Proofs.YtjjlofaejpnnnaaGreatDoor
open Go Go.RowKit Go.Sort
set_option linter.unusedVariables false
/-- a cell is written over by what it holds -/
theorem setCell_same {w : World} {g j : Nat} {t : TypeId} {cs : Array Value} {u : Value} (h : Blk w g t cs) (hu : cs[j]? = some u) : w.setCell ⟨g, j, none⟩ u = w := by
  have e : (w.setCell ⟨g, j, none⟩ u).heap = w.heap := by
    unfold World.setCell
    simp only [Option.isSome_none, Bool.false_eq_true, if_false]
    apply Array.ext_getElem?
    intro i
    rw [Array.getElem?_modify]
    by_cases hi : g = i
    · subst hi
      unfold Blk at h
      rw [if_pos rfl, h]
      simp only [Option.map_some, Option.some.injEq, Obj.cells.injEq, and_true]
      apply Array.ext_getElem?
      intro k
      rw [Array.getElem?_setIfInBounds]
      by_cases hk : j = k
      · subst hk
        rw [if_pos rfl, hu]
        have : j < cs.size := (Array.getElem?_eq_some_iff.1 hu).1
        rw [if_pos this]
      · rw [if_neg hk]
    · rw [if_neg hi]
  show { w with heap := (w.setCell ⟨g, j, none⟩ u).heap } = w
  rw [e]
theorem setCell_swap (w : World) {g g' : Nat} (hg : g ≠ g') (i j : Nat) (u v : Value) : (w.setCell ⟨g, i, none⟩ u).setCell ⟨g', j, none⟩ v = (w.setCell ⟨g', j, none⟩ v).setCell ⟨g, i, none⟩ u := by
  unfold World.setCell
  simp only [Option.isSome_none, Bool.false_eq_true, if_false]
  congr 1
  apply Array.ext_getElem?
  intro k
  simp only [Array.getElem?_modify]
  by_cases h1 : g = k
  · subst h1
    rw [if_neg (Ne.symm hg), if_pos rfl]
    simp [Ne.symm hg]
  · by_cases h2 : g' = k
    · subst h2
      simp [hg]
    · simp [h1, h2]
/-- a node's seven cells are stored -/
def seven (X : World) (g o : Nat) (a0 a1 a2 a3 a4 a5 a6 : Value) : World := ((((((X.setCell ⟨g, o, none⟩ a0).setCell ⟨g, o + 1, none⟩ a1).setCell ⟨g, o + 2, none⟩ a2).setCell ⟨g, o + 3, none⟩ a3).setCell ⟨g, o + 4, none⟩ a4).setCell ⟨g, o + 5, none⟩ a5).setCell ⟨g, o + 6, none⟩ a6
theorem seven_ref {X : World} {g o : Nat} {t : TypeId} {cs : Array Value} {a0 a1 a2 a3 a4 a5 a6 : Value} (h : Blk X g t cs) (h0 : X.cell? ⟨g, o, none⟩ = some a0) (h1 : X.cell? ⟨g, o + 1, none⟩ = some a1) (h2 : X.cell? ⟨g, o + 2, none⟩ = some a2) (h3 : X.cell? ⟨g, o + 3, none⟩ = some a3) (h4 : X.cell? ⟨g, o + 4, none⟩ = some a4) (h5 : X.cell? ⟨g, o + 5, none⟩ = some a5) :
    seven X g o a0 a1 a2 a3 a4 a5 a6 = X.setCell ⟨g, o + 6, none⟩ a6 := by
  rw [h.cell] at h0 h1 h2 h3 h4 h5
  unfold seven
  rw [setCell_same h h0, setCell_same h h1, setCell_same h h2, setCell_same h h3, setCell_same h h4, setCell_same h h5]
theorem seven_prop {X : World} {g o : Nat} {t : TypeId} {cs : Array Value} {a0 a1 a2 a3 a4 a5 a6 : Value} (h : Blk X g t cs) (h0 : X.cell? ⟨g, o, none⟩ = some a0) (h1 : X.cell? ⟨g, o + 1, none⟩ = some a1) (h2 : X.cell? ⟨g, o + 2, none⟩ = some a2) (h3 : X.cell? ⟨g, o + 3, none⟩ = some a3) (h5 : X.cell? ⟨g, o + 5, none⟩ = some a5) (h6 : X.cell? ⟨g, o + 6, none⟩ = some a6) :
    seven X g o a0 a1 a2 a3 a4 a5 a6 = X.setCell ⟨g, o + 4, none⟩ a4 := by
  rw [h.cell] at h0 h1 h2 h3 h5 h6
  have hn := h.set_ (o + 4) a4
  unfold seven
  rw [setCell_same h h0, setCell_same h h1, setCell_same h h2, setCell_same h h3,
    setCell_same hn (by rw [Array.getElem?_setIfInBounds_ne (by omega)]; exact h5), setCell_same hn (by rw [Array.getElem?_setIfInBounds_ne (by omega)]; exact h6)]
def deepI (deep : List Nat) : List Int := deep.map Int.ofNat
def udBox (next : Int) (v vd : Value) (c : Nat) : Array Value := #[.int .i64 next, v, vd, .int .i64 c]
/-- the document's reader: its box, its nodes, how deep each stands; c: how many lines it counts; k: how long a node's lists are -/
structure UIn (B gu c k : Nat) (v vd : Value) (l : List (Nd × Leaf)) (st : RS) (w : World) : Prop where
  box : Blk w gu 51 (udBox st.next v vd c)
  np : NP B v vd l (deepI st.deep) w
  nds : l.map (·.1) = st.nds
  ok : st.next ≠ 0 → RsOk st
  zr : st.next = 0 → st.nds = [] ∧ st.deep = []
  ln : ∀ nd ∈ st.nds, nd.props.length ≤ k ∧ nd.kids.length ≤ k ∧ nd.refs.length ≤ k
  lu : gu < B
  k1 : k ≤ 4194304
section
variable {B gu c k : Nat} {v vd : Value} {l : List (Nd × Leaf)} {st : RS} {w w' : World}
theorem UIn.after (h : UIn B gu c k v vd l st w) (hb : Below w.heap.size w w') : UIn B gu c k v vd l st w' := ⟨h.box.after hb, h.np.after hb, h.nds, h.ok, h.zr, h.ln, h.lu, h.k1⟩
theorem UIn.len (h : UIn B gu c k v vd l st w) : l.length = st.nds.length := by rw [← h.nds, List.length_map]
theorem UIn.more (h : UIn B gu c k v vd l st w) (hk : k + 1 ≤ 4194304) : UIn B gu c (k + 1) v vd l st w := ⟨h.box, h.np, h.nds, h.ok, h.zr, fun nd hnd => by have := h.ln nd hnd; omega, h.lu, hk⟩
theorem UIn.at_ (h : UIn B gu c k v vd l st w) {i : Nat} {nd : Nd} (hi : st.nds[i]? = some nd) : ∃ L, l[i]? = some (nd, L) := by
  rw [← h.nds, List.getElem?_map] at hi
  obtain ⟨⟨nd', L⟩, hq, rfl⟩ := Option.map_eq_some_iff.1 hi
  exact ⟨L, hq⟩
theorem UIn.v_form (h : UIn B gu c k v vd l st w) : ∃ A cp, v = .slice A st.nds.length cp ∧ st.nds.length ≤ cp ∧ cp ≤ maxLen := by
  have := h.np.own
  unfold OwnN at this
  rw [h.len] at this
  rcases this.2 with ⟨rfl, h0⟩ | ⟨g, cap, cur, rfl, hb, hg, h1, h2, _⟩
  · exact ⟨none, 0, by rw [h0], by omega, by unfold maxLen; omega⟩
  · exact ⟨_, _, rfl, h1, h2⟩
theorem UIn.d_form (h : UIn B gu c k v vd l st w) : ∃ A cp, vd = .slice A st.deep.length cp ∧ st.deep.length ≤ cp ∧ cp ≤ maxLen := by
  have := h.np.way
  rw [show (deepI st.deep).length = st.deep.length from List.length_map _] at this
  rcases this.2 with ⟨rfl, h0⟩ | ⟨g, cap, cur, rfl, hb, hg, h1, h2, _⟩
  · exact ⟨none, 0, by rw [h0], by omega, by unfold maxLen; omega⟩
  · exact ⟨_, _, rfl, h1, h2⟩
/-- the last node is turned -/
theorem UIn.lastSet {n cc g : Nat} {nd nd' : Nd} {L' : Leaf} (h : UIn B gu c k (.slice (some ⟨g, 0, none⟩) n cc) vd l st w) (h0 : st.next ≠ 0) (hl : st.nds.getLast? = some nd) (hi : nd'.id = nd.id) (hn : st.nds.length = n)
    (hbx : Blk w' gu 51 (udBox st.next (.slice (some ⟨g, 0, none⟩) n cc) vd c)) (hnp : NP B (.slice (some ⟨g, 0, none⟩) n cc) vd (l.set (n - 1) (nd', L')) (deepI st.deep) w')
    (hln : nd'.props.length ≤ k + 1 ∧ nd'.kids.length ≤ k + 1 ∧ nd'.refs.length ≤ k + 1) (hk : k + 1 ≤ 4194304) : UIn B gu c (k + 1) (.slice (some ⟨g, 0, none⟩) n cc) vd (l.set (n - 1) (nd', L')) (lastV st nd') w' := by
  have hR := (h.ok h0).last hl hi
  refine ⟨hbx, hnp, ?_, fun _ => hR, fun e => absurd e h0, ?_, h.lu, hk⟩
  · rw [List.map_set, h.nds, lastV_set hl, hn]
  · intro x hx
    rw [lastV_set hl] at hx
    rcases List.mem_or_eq_of_mem_set hx with hx | rfl
    · have := h.ln x hx; omega
    · exact hln
end
/-- what a line comes to: c lines are counted -/
def LineU (B0 B gu c k : Nat) (r : Option RS) (w : World) (e : Ending) (w' : World) : Prop :=
  e = .returned (.bool r.isSome) ∧ Below B0 w w' ∧ w'.cell? ⟨gu, 3, none⟩ = some (.int .i64 c) ∧ ∀ st', r = some st' → ∃ v vd l, UIn B gu c k v vd l st' w'
theorem lineU_no {B0 B gu c k : Nat} {r : Option RS} {w w' : World} (hr : r = none) (h : Below B0 w w') (hc : w'.cell? ⟨gu, 3, none⟩ = some (.int .i64 c)) : LineU B0 B gu c k r w (.returned (.bool false)) w' := by
  subst hr; exact ⟨rfl, h, hc, fun st' e => by cases e⟩
theorem lineU_yes {B0 B gu c k : Nat} {r : Option RS} {st : RS} {v vd : Value} {l : List (Nd × Leaf)} {w w' : World} (hr : r = some st) (h : Below B0 w w') (hU : UIn B gu c k v vd l st w') : LineU B0 B gu c k r w (.returned (.bool true)) w' := by
  subst hr; exact ⟨rfl, h, by rw [hU.box.cell]; rfl, fun st' e => by obtain rfl := Option.some.inj e; exact ⟨_, _, _, hU⟩⟩
/-- a node's copy in a box beside the reader -/
structure UMid (B0 B gu c gx : Nat) (next : Int) (v vd : Value) (l : List (Nd × Leaf)) (ws : List Int) (cs : Array Value) (w W : World) : Prop where
  bx : Blk W gu 51 (udBox next v vd c)
  np : NP B v vd l ws W
  bn : Blk W gx 55 cs
  bel : Below B0 w W
  l0 : B0 ≤ gu
  l2 : gu < B
  lx : B0 ≤ gx
  gv : v.ownBlock ≠ some gx
section
variable {B0 B gu c gx : Nat} {next : Int} {v vd : Value} {l : List (Nd × Leaf)} {ws : List Int} {cs : Array Value} {w W W' : World}
theorem UMid.hs (h : UMid B0 B gu c gx next v vd l ws cs w W) : B0 ≤ W.heap.size := Nat.le_trans h.l0 (Nat.le_of_lt h.bx.lt)
theorem UMid.after (h : UMid B0 B gu c gx next v vd l ws cs w W) (hb : Below W.heap.size W W') : UMid B0 B gu c gx next v vd l ws cs w W' :=
  ⟨h.bx.after hb, h.np.after hb, h.bn.after hb, h.bel.trans (hb.mono h.hs), h.l0, h.l2, h.lx, h.gv⟩
/-- the box and the row it leaves: stored back -/
structure UEnd (B0 B gu c : Nat) (next : Int) (v vd : Value) (l : List (Nd × Leaf)) (ws : List Int) (w W : World) : Prop where
  bx : Blk W gu 51 (udBox next v vd c)
  np : NP B v vd l ws W
  bel : Below B0 w W
theorem UMid.ref {n cc g i : Nat} {nd : Nd} {P K R : Sl} {Ar : Option Addr} {cr : Nat} {y : ByteArray × Int} (h : UMid B0 B gu c gx next (.slice (some ⟨g, 0, none⟩) n cc) vd l ws cs w W) (hl : l.length = n) (hi : l[i]? = some (nd, ⟨P, K, R⟩)) (hy : y.1.size ≤ maxLen)
    (ho : W'.ownsRow B 62 2 (.slice Ar (R.n + 1) cr) (R.n + 1) (refCells nd.refs ++ [.string y.1, .int .i64 y.2])) (hg : W.grownBy W' (Value.slice R.A R.n R.c).ownBlock) (hnew : (Value.slice Ar (R.n + 1) cr).ownBlock = (Value.slice R.A R.n R.c).ownBlock ∨ (Value.slice Ar (R.n + 1) cr).ownBlock = some W.heap.size) :
    UEnd B0 B gu c next (.slice (some ⟨g, 0, none⟩) n cc) vd (l.set i ({ nd with refs := nd.refs ++ [y] }, ⟨P, K, ⟨Ar, R.n + 1, cr⟩⟩)) ws w ((W'.setCell ⟨gx, 6, none⟩ (.slice Ar (R.n + 1) cr)).setCell ⟨g, i * 7 + 6, none⟩ (.slice Ar (R.n + 1) cr)) := by
  have hkr : W.ownsRow B 62 2 (.slice R.A R.n R.c) R.n (refCells nd.refs) := (h.np.leaf _ (List.mem_of_getElem? hi)).r
  have hgx : gx ≠ g := fun e => h.gv (by rw [e]; rfl)
  have hgB : B ≤ g := (World.ownsRow.lt h.np.own g rfl).1
  have hb := h.bx.grown hg (Ne.symm (own_blk_ne hkr h.bx (by decide)))
  have hx := h.bn.grown hg (Ne.symm (own_blk_ne hkr h.bn (by decide)))
  have hbel := below_own h.bel h.hs hg fun x hx => by have := (World.ownsRow.lt hkr x hx).1; have := h.l0; have := h.l2; omega
  have hgu : gu ≠ gx := h.bx.ne_ h.bn (by decide)
  have hnp := h.np.ref hl hi hy ho hg hnew
  refine ⟨(hb.far (p := ⟨gx, _, none⟩) hgu _).far (p := ⟨g, _, none⟩) (by have := h.l2; show gu ≠ g; omega) _, ?_, (hbel.setCell (p := ⟨gx, _, none⟩) h.lx _).setCell (p := ⟨g, _, none⟩) (by have := h.l0; have := h.l2; show B0 ≤ g; omega) _⟩
  rw [setCell_swap _ hgx]
  exact hnp.otherN (hx.far (p := ⟨g, _, none⟩) hgx _) h.gv
theorem UMid.prop {n cc g i : Nat} {nd : Nd} {P K R : Sl} {Ap : Option Addr} {cp : Nat} {y : ByteArray × ByteArray} (h : UMid B0 B gu c gx next (.slice (some ⟨g, 0, none⟩) n cc) vd l ws cs w W) (hl : l.length = n) (hi : l[i]? = some (nd, ⟨P, K, R⟩)) (hy : y.1.size ≤ maxLen ∧ y.2.size ≤ maxLen)
    (ho : W'.ownsRow B 60 2 (.slice Ap (P.n + 1) cp) (P.n + 1) (propCells nd.props ++ [.string y.1, .string y.2])) (hg : W.grownBy W' (Value.slice P.A P.n P.c).ownBlock) (hnew : (Value.slice Ap (P.n + 1) cp).ownBlock = (Value.slice P.A P.n P.c).ownBlock ∨ (Value.slice Ap (P.n + 1) cp).ownBlock = some W.heap.size) :
    UEnd B0 B gu c next (.slice (some ⟨g, 0, none⟩) n cc) vd (l.set i ({ nd with props := nd.props ++ [y] }, ⟨⟨Ap, P.n + 1, cp⟩, K, R⟩)) ws w ((W'.setCell ⟨gx, 4, none⟩ (.slice Ap (P.n + 1) cp)).setCell ⟨g, i * 7 + 4, none⟩ (.slice Ap (P.n + 1) cp)) := by
  have hkr : W.ownsRow B 60 2 (.slice P.A P.n P.c) P.n (propCells nd.props) := (h.np.leaf _ (List.mem_of_getElem? hi)).p
  have hgx : gx ≠ g := fun e => h.gv (by rw [e]; rfl)
  have hgB : B ≤ g := (World.ownsRow.lt h.np.own g rfl).1
  have hb := h.bx.grown hg (Ne.symm (own_blk_ne hkr h.bx (by decide)))
  have hx := h.bn.grown hg (Ne.symm (own_blk_ne hkr h.bn (by decide)))
  have hbel := below_own h.bel h.hs hg fun x hx => by have := (World.ownsRow.lt hkr x hx).1; have := h.l0; have := h.l2; omega
  have hgu : gu ≠ gx := h.bx.ne_ h.bn (by decide)
  have hnp := h.np.prop hl hi hy ho hg hnew
  refine ⟨(hb.far (p := ⟨gx, _, none⟩) hgu _).far (p := ⟨g, _, none⟩) (by have := h.l2; show gu ≠ g; omega) _, ?_, (hbel.setCell (p := ⟨gx, _, none⟩) h.lx _).setCell (p := ⟨g, _, none⟩) (by have := h.l0; have := h.l2; show B0 ≤ g; omega) _⟩
  rw [setCell_swap _ hgx]
  exact hnp.otherN (hx.far (p := ⟨g, _, none⟩) hgx _) h.gv
end
end Go.Proofs.YtjjlofaejpnnnaaGreatDoor

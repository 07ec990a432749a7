/-
  WALKS over package sheet: first, fresh, last.
-/
import Derived.Test.YtjjlofaejpnnnaaGreatDoorZB20
namespace Go.Proofs.YtjjlofaejpnnnaaGreatDoor
open Go Go.RowKit
set_option linter.unusedVariables false
/-- a line is read: what there is then, or nothing -/
def LineQ (B0 B gr gm k : Nat) (r : Option RS) (w : World) (e : Ending) (w' : World) : Prop :=
  e = .returned (.bool r.isSome) ∧ Below B0 w w' ∧ ∀ st', r = some st' → ∃ v vw l, RIn B gr gm (k + 1) v vw l st' w'
theorem lineQ_no {B0 B gr gm k : Nat} {r : Option RS} {w w' : World} (hr : r = none) (h : Below B0 w w') : LineQ B0 B gr gm k r w (.returned (.bool false)) w' := by
  subst hr
  exact ⟨rfl, h, fun st' e => by cases e⟩
theorem lineQ_yes {B0 B gr gm k : Nat} {r : Option RS} {st : RS} {v vw : Value} {l : List (Nd × Leaf)} {w w' : World} (hr : r = some st) (h : Below B0 w w') (hR : RIn B gr gm (k + 1) v vw l st w') : LineQ B0 B gr gm k r w (.returned (.bool true)) w' := by
  subst hr
  exact ⟨rfl, h, fun st' e => by cases e; exact ⟨_, _, _, hR⟩⟩
theorem prefix_no {s p : List UInt8} (h : s.take p.length ≠ p) : Lib.hasPrefix s p = false := by
  unfold Lib.hasPrefix
  cases hb : p.isPrefixOf s with
  | false => rfl
  | true =>
    exfalso
    rw [List.isPrefixOf_iff_prefix] at hb
    exact h (List.prefix_iff_eq_take.1 hb).symm
theorem prefix_yes {s p : List UInt8} (h : s.take p.length = p) : Lib.hasPrefix s p = true ∧ Lib.trimPrefix s p = s.drop p.length := by
  have hb : p.isPrefixOf s = true := by
    rw [List.isPrefixOf_iff_prefix]
    exact List.prefix_iff_eq_take.2 h.symm
  refine ⟨hb, ?_⟩
  unfold Lib.trimPrefix Lib.hasPrefix
  rw [if_pos hb]
/-- what is cut off ahead -/
def PreP (s p : ByteArray) (w : World) (e : Ending) (w' : World) : Prop :=
  ∃ r : ByteArray, e = .returned (.tuple #[.string r, .bool (decide (s.data.toList.take p.size = p.data.toList))]) ∧ (s.data.toList.take p.size = p.data.toList → r.data.toList = s.data.toList.drop p.size) ∧ r.size ≤ s.size ∧ w = w'
theorem pre_any (s p : ByteArray) (w : World) : Calls Tryz.prog 43 #[.string s, .string p] w (PreP s p w) := by
  refine (Tryz.strings_CutPrefix s p w).mono ?_
  rintro e w' ⟨rfl, rfl⟩
  have hp : p.data.toList.length = p.size := toList_eq p
  by_cases h : s.data.toList.take p.size = p.data.toList
  · obtain ⟨h1, h2⟩ := prefix_yes (s := s.data.toList) (p := p.data.toList) (by rw [hp]; exact h)
    refine ⟨_, by rw [h1, decide_eq_true h], fun _ => by rw [h2, hp], ?_, rfl⟩
    rw [h2]
    show (List.drop _ _).toArray.size ≤ _
    rw [List.size_toArray, List.length_drop, toList_eq]
    omega
  · have h1 := prefix_no (s := s.data.toList) (p := p.data.toList) (by rw [hp]; exact h)
    refine ⟨_, by rw [h1, decide_eq_false h], fun hh => absurd hh h, ?_, rfl⟩
    unfold Lib.trimPrefix
    rw [h1]
    show (s.data.toList).toArray.size ≤ _
    rw [List.size_toArray, toList_eq]
    exact Nat.le_refl _
/-- the reader's five cells -/
theorem rd_cells {w : World} {gr gm : Nat} {next root : Int} {v vw : Value} (h : Blk w gr 45 #[.int .i64 next, v, .map (some gm), .int .i64 root, vw]) :
    w.cell? ⟨gr, 0, none⟩ = some (.int .i64 next) ∧ w.cell? ⟨gr, 1, none⟩ = some v ∧ w.cell? ⟨gr, 2, none⟩ = some (.map (some gm)) ∧ w.cell? ⟨gr, 3, none⟩ = some (.int .i64 root) ∧ w.cell? ⟨gr, 4, none⟩ = some vw :=
  ⟨(h.cell 0).trans rfl, (h.cell 1).trans rfl, (h.cell 2).trans rfl, (h.cell 3).trans rfl, (h.cell 4).trans rfl⟩
set_option maxRecDepth 20000 in
set_option maxHeartbeats 1600000 in
theorem first_any (w : World) (B0 B gr gm k : Nat) (v vw : Value) (l : List (Nd × Leaf)) (st : RS) (h : RIn B gr gm k v vw l st w) (h0 : st.next = 0) (hB0 : B0 ≤ gr) (s : ByteArray) (hs : s.size ≤ 1048576) (hk : k + 1 ≤ 4194304) (hE : Env w) :
    Calls Tryz.prog 41 #[.pointer (some ⟨gr, 0, none⟩), .string s] w (LineQ B0 B gr gm k (firstP s.data.toList) w) := by
  have H := Lib.hid h
  have HP := Lib.hid (pre_any s ⟨#[110, 101, 120, 116, 32]⟩ w)
  have HB : Hid (B0 ≤ w.heap.size) := Lib.hid (Nat.le_trans hB0 (Nat.le_of_lt h.box.lt))
  have HN : Hid (∀ r : ByteArray, r.size ≤ s.size → Calls Tryz.prog 76 #[.string r, .int .i64 1048577] w (NumP w (numberV r.data.toList 1048578))) := Lib.hid fun r hr => number_any r 1048577 w (by omega) hE
  have hgl := h.box.lt
  clear h hE
  go_enter Tryz.func41, Tryz.ntmps41
  go_wp2_with fail
  refine HP.out.mono ?_
  rintro e w1 ⟨r, rfl, hr1, hr2, rfl⟩
  have HR := Lib.hid (HN.out r hr2)
  by_cases hp : s.data.toList.take 5 = [110, 101, 120, 116, 32]
  · have hd : decide (s.data.toList.take (⟨#[110, 101, 120, 116, 32]⟩ : ByteArray).size = (⟨#[110, 101, 120, 116, 32]⟩ : ByteArray).data.toList) = true := decide_eq_true hp
    rw [hd]
    have HRL : Hid (r.data.toList = s.data.toList.drop 5) := Lib.hid (hr1 hp)
    rw [HRL.out] at HR
    have HF : Hid (firstP s.data.toList = (numberV (s.data.toList.drop 5) 1048578).map fun n => ⟨n, [], []⟩) := Lib.hid (by unfold firstP; rw [if_pos hp])
    clear hd hr1 hr2 hp
    cases hn : numberV (s.data.toList.drop 5) 1048578 with
    | none =>
      rw [hn] at HR HF
      clear hn
      go_wp2_with (go_at_call 76; refine HR.out.mono ?_; rintro e w2 ⟨rfl, hb2⟩; have HB2 := Lib.hid (hb2.mono HB.out); clear hb2; (try simp only [Option.getD_none, Option.isSome_none]))
      go_ret
      exact lineQ_no HF.out HB2.out
    | some n =>
      rw [hn] at HR HF
      have HNN := Lib.hid (numberV_some hn).2
      clear hn
      go_upto_region 5 with (go_at_call 76; refine HR.out.mono ?_; rintro e w2 ⟨rfl, hb2⟩; have HB2 := Lib.hid (hb2.mono HB.out); have H2 := Lib.hid (H.out.after hb2); clear hb2; (try simp only [Option.getD_some, Option.isSome_some]))
      have cx := (rd_cells H2.out.box).1
      have fx := H2.out.box.frozen 0
      go_wp2_with fail
      go_ret
      have hz := H2.out.zr h0
      have hbox := H2.out.box.set_ 0 (.int .i64 n)
      have hroot : rootV st = rootV ⟨n, [], []⟩ := by unfold rootV; rw [hz.1, hz.2]
      rw [hroot] at hbox
      have hnp := H2.out.np.other H2.out.box (by decide) (by decide) (by decide) (by decide) 0 (.int .i64 n)
      rw [hz.2] at hnp
      have hst := (H2.out.set.set (p := ⟨gr, 0, none⟩) (H2.out.set.blk_ne H2.out.box) (.int .i64 n)).mono (Nat.le_succ k)
      rw [hz.1] at hst
      refine lineQ_yes HF.out (HB2.out.setCell (p := ⟨gr, 0, none⟩) hB0 _) (v := v) (vw := vw) (l := l) ⟨by simpa using hbox, hnp, hst, by rw [H2.out.nds, hz.1], fun _ => ⟨HNN.out.1, by have := HNN.out.2; simp only; omega, rfl, deepOk_nil, Nat.zero_le _, by simp, by simp⟩, fun _ => ⟨rfl, rfl⟩, by simp, H2.out.lr, H2.out.lm, hk⟩
  · have hd : decide (s.data.toList.take (⟨#[110, 101, 120, 116, 32]⟩ : ByteArray).size = (⟨#[110, 101, 120, 116, 32]⟩ : ByteArray).data.toList) = false := decide_eq_false hp
    rw [hd]
    have HF : Hid (firstP s.data.toList = none) := Lib.hid (by unfold firstP; rw [if_neg hp])
    clear hd hr1 hr2 hp
    go_wp2_with (go_at_call 76; refine HR.out.mono ?_; rintro e w2 ⟨rfl, hb2⟩; have HB2 := Lib.hid (hb2.mono HB.out); clear hb2)
    go_ret
    exact lineQ_no HF.out HB2.out
/-- may a node with this number stand here? -/
def freshV (st : RS) (d : Nat) (s : List UInt8) : Option Int := (numberV s st.next).bind fun id => if (d = 0 ∧ id ≤ rootV st) ∨ id ∈ idsOf st then none else some id
set_option maxRecDepth 20000 in
set_option maxHeartbeats 1600000 in
theorem fresh_any (w : World) (B gr gm k : Nat) (v vw : Value) (l : List (Nd × Leaf)) (st : RS) (h : RIn B gr gm k v vw l st w) (h0 : st.next ≠ 0) (d : Nat) (s : ByteArray) (hs : s.size ≤ 1048576) (hE : Env w) :
    Calls Tryz.prog 85 #[.pointer (some ⟨gr, 0, none⟩), .int .i64 d, .string s] w (NumP w (freshV st d s.data.toList)) := by
  have H := Lib.hid h
  have hok := h.ok h0
  have hn1 := hok.n1
  have hn2 := hok.n2
  have HN : Hid (Calls Tryz.prog 76 #[.string s, .int .i64 (st.next - 1)] w (NumP w (numberV s.data.toList st.next))) := Lib.hid (by
    have := number_any s (st.next - 1) w (by omega) hE
    rwa [show st.next - 1 + 1 = st.next from by omega] at this)
  have hgl := h.box.lt
  obtain ⟨c0, _, c2, c3, _⟩ := rd_cells h.box
  have hw1 : IntKind.i64.wrap (st.next - 1) = st.next - 1 := IntWalk.i64_in _ (by omega)
  clear h hE hok
  cases hn : numberV s.data.toList st.next with
  | none =>
    rw [hn] at HN
    have HF : Hid (freshV st d s.data.toList = none) := Lib.hid (by unfold freshV; rw [hn]; rfl)
    clear hn
    go_enter Tryz.func85, Tryz.ntmps85
    go_wp2_with (go_at_call 76; refine HN.out.mono ?_; rintro e w2 ⟨rfl, hb2⟩; (try simp only [Option.getD_none, Option.isSome_none]))
    go_ret2
    rw [HF.out]
    exact numP rfl rfl hb2
  | some id =>
    rw [hn] at HN
    have hid := (numberV_some hn).2
    have HFF : Hid (freshV st d s.data.toList = if (d = 0 ∧ id ≤ rootV st) ∨ id ∈ idsOf st then none else some id) := Lib.hid (by unfold freshV; rw [hn]; rfl)
    clear hn
    have hk1 : -9223372036854775808 ≤ id ∧ id ≤ 9223372036854775807 := by omega
    have HK1 := Lib.hid hk1
    clear hk1
    by_cases hd : d = 0
    · by_cases hr : id ≤ rootV st
      · have HF : Hid (freshV st d s.data.toList = none) := Lib.hid (by rw [HFF.out, if_pos (.inl ⟨hd, hr⟩)])
        have hd0 : ((d : Int) == 0) = true := by rw [beq_iff_eq]; omega
        clear hd HFF
        go_enter Tryz.func85, Tryz.ntmps85
        go_wp2_with (go_at_call 76; refine HN.out.mono ?_; rintro e w2 ⟨rfl, hb2⟩; (try simp only [Option.getD_some, Option.isSome_some]); have c3' := (hb2.cell (p := ⟨gr, 3, none⟩) hgl).trans c3)
        go_ret2
        rw [HF.out]
        exact numP rfl rfl hb2
      · have hd0 : ((d : Int) == 0) = true := by rw [beq_iff_eq]; omega
        cases hm : (idsOf st).contains id with
        | true =>
          have HF : Hid (freshV st d s.data.toList = none) := Lib.hid (by rw [HFF.out, if_pos (.inr (by simpa using hm))])
          have HM := Lib.hid hm
          clear hd HFF hm
          go_enter Tryz.func85, Tryz.ntmps85
          go_wp2_with (go_at_call 76; refine HN.out.mono ?_; rintro e w2 ⟨rfl, hb2⟩; (try simp only [Option.getD_some, Option.isSome_some]); have c3' := (hb2.cell (p := ⟨gr, 3, none⟩) hgl).trans c3; have c2' := (hb2.cell (p := ⟨gr, 2, none⟩) hgl).trans c2; have hlk := (H.out.set.after hb2).look HK1.out; rw [show st.nds.map (·.id) = idsOf st from rfl, HM.out] at hlk)
          go_ret2
          rw [HF.out]
          exact numP rfl rfl ((hb2.alloc hb2.size _))
        | false =>
          have HF : Hid (freshV st d s.data.toList = some id) := Lib.hid (by rw [HFF.out, if_neg (by exact fun h => h.elim (fun h => hr h.2) (fun h => absurd h (by simpa using hm)))])
          have HM := Lib.hid hm
          clear hd HFF hm
          go_enter Tryz.func85, Tryz.ntmps85
          go_wp2_with (go_at_call 76; refine HN.out.mono ?_; rintro e w2 ⟨rfl, hb2⟩; (try simp only [Option.getD_some, Option.isSome_some]); have c3' := (hb2.cell (p := ⟨gr, 3, none⟩) hgl).trans c3; have c2' := (hb2.cell (p := ⟨gr, 2, none⟩) hgl).trans c2; have hlk := (H.out.set.after hb2).look HK1.out; rw [show st.nds.map (·.id) = idsOf st from rfl, HM.out] at hlk)
          go_ret2
          rw [HF.out]
          exact numP rfl rfl ((hb2.alloc hb2.size _))
    · have hd0 : ((d : Int) == 0) = false := by rw [beq_eq_false_iff_ne]; omega
      cases hm : (idsOf st).contains id with
      | true =>
        have HF : Hid (freshV st d s.data.toList = none) := Lib.hid (by rw [HFF.out, if_pos (.inr (by simpa using hm))])
        have HM := Lib.hid hm
        clear hd HFF hm
        go_enter Tryz.func85, Tryz.ntmps85
        go_wp2_with (go_at_call 76; refine HN.out.mono ?_; rintro e w2 ⟨rfl, hb2⟩; (try simp only [Option.getD_some, Option.isSome_some]); have c2' := (hb2.cell (p := ⟨gr, 2, none⟩) hgl).trans c2; have hlk := (H.out.set.after hb2).look HK1.out; rw [show st.nds.map (·.id) = idsOf st from rfl, HM.out] at hlk)
        go_ret2
        rw [HF.out]
        exact numP rfl rfl ((hb2.alloc hb2.size _))
      | false =>
        have HF : Hid (freshV st d s.data.toList = some id) := Lib.hid (by rw [HFF.out, if_neg (by exact fun h => h.elim (fun h => hd h.1) (fun h => absurd h (by simpa using hm)))])
        have HM := Lib.hid hm
        clear hd HFF hm
        go_enter Tryz.func85, Tryz.ntmps85
        go_wp2_with (go_at_call 76; refine HN.out.mono ?_; rintro e w2 ⟨rfl, hb2⟩; (try simp only [Option.getD_some, Option.isSome_some]); have c2' := (hb2.cell (p := ⟨gr, 2, none⟩) hgl).trans c2; have hlk := (H.out.set.after hb2).look HK1.out; rw [show st.nds.map (·.id) = idsOf st from rfl, HM.out] at hlk)
        go_ret2
        rw [HF.out]
        exact numP rfl rfl ((hb2.alloc hb2.size _))
/-- the last node, in its place -/
theorem last_no (w : World) (B gr gm k : Nat) (v vw : Value) (l : List (Nd × Leaf)) (st : RS) (h : RIn B gr gm k v vw l st w) (d : Nat) (hd : lastNd st d = none) :
    Calls Tryz.prog 82 #[.pointer (some ⟨gr, 0, none⟩), .int .i64 d] w fun e w' => e = .returned (.tuple #[.pointer none, .bool false]) ∧ w = w' := by
  obtain ⟨A, c, rfl, hc1, hc2⟩ := h.v_form
  obtain ⟨Aw, cw, rfl, hw1, hw2⟩ := h.w_form
  obtain ⟨_, c1, _, _, c4⟩ := rd_cells h.box
  by_cases h0 : st.nds.length = 0
  · have d0 : ((st.nds.length : Int) == 0) = true := by rw [h0]; rfl
    clear hd h h0
    go_enter Tryz.func82, Tryz.ntmps82
    go_wp2_with fail
    go_ret2
    exact ⟨rfl, rfl⟩
  · have d0 : ((st.nds.length : Int) == 0) = false := by rw [beq_eq_false_iff_ne]; omega
    have hne : d ≠ st.deep.getLastD 0 := by
      intro e
      unfold lastNd at hd
      rw [if_pos e, List.getLast?_eq_getElem?, List.getElem?_eq_none_iff] at hd
      omega
    have d1 : ((d : Int) == (st.deep.getLastD 0 : Int)) = false := by rw [beq_eq_false_iff_ne]; omega
    have d2 : ((d : Int) != (st.deep.getLastD 0 : Int)) = true := by rw [bne_iff_ne]; omega
    clear hd h h0 hne
    generalize st.deep.getLastD 0 = q at c4 d1 d2 hw1
    go_enter Tryz.func82, Tryz.ntmps82
    go_wp2_with fail
    go_ret2
    exact ⟨rfl, rfl⟩
theorem last_yes (w : World) (B gr gm k g n c : Nat) (vw : Value) (l : List (Nd × Leaf)) (st : RS) (h : RIn B gr gm k (.slice (some ⟨g, 0, none⟩) n c) vw l st w) (hn : st.nds.length = n) (h0 : 0 < n) (d : Nat) (hd : d = st.deep.getLastD 0) :
    Calls Tryz.prog 82 #[.pointer (some ⟨gr, 0, none⟩), .int .i64 d] w fun e w' => e = .returned (.tuple #[.pointer (some ⟨g, (n - 1) * 7, none⟩), .bool true]) ∧ Below w.heap.size w w' := by
  obtain ⟨A, c', hv, hc1, hc2⟩ := h.v_form
  injection hv with hA hn' hc'
  subst hc'
  obtain ⟨Aw, cw, rfl, hw1, hw2⟩ := h.w_form
  obtain ⟨_, c1, _, _, c4⟩ := rd_cells h.box
  have hcm : c ≤ 9223372036854775807 := by unfold maxLen at hc2; omega
  have d0 : ((n : Int) == 0) = false := by rw [beq_eq_false_iff_ne]; omega
  have d1 : ((d : Int) == (st.deep.getLastD 0 : Int)) = true := by rw [beq_iff_eq]; omega
  have d2 : ((d : Int) != (st.deep.getLastD 0 : Int)) = false := by rw [hd]; simp
  have hwr : IntKind.i64.wrap ((n : Int) - 1) = ((n - 1 : Nat) : Int) := by rw [IntWalk.i64_in _ (by omega)]; omega
  have hix : n - 1 < n := by omega
  clear h hn hA hd hn'
  generalize st.deep.getLastD 0 = q at c4 d1 d2 hw1
  go_enter Tryz.func82, Tryz.ntmps82
  go_wp2_with fail
  go_quiet (fail)
  go_wp2_with fail
  go_ret2
  exact ⟨by first | rfl | (simp; done), below_drewN (Below.refl _ _) _⟩
end Go.Proofs.YtjjlofaejpnnnaaGreatDoor

/-
  WALKS over package sheet: first, fresh, last.
  A REGION THAT DRAWS ITS ORDER, AND ENDS IN OPERATIONS WHOSE ORDER IS FORCED: what comes ahead of them is walked under a condition on the world, what they do is walked behind it. No program stands in it.
  WALKS: a model lent, with marks in the room behind its lists.
-/
import Derived.Test.YtjjlofaejpnnnaaGreatDoorZR8
import Derived.WalkKit
import Derived.StillTail
import Derived.Deep.RegionHeld3
import Derived.Deep.RegionLaw
import Derived.Deep.DeepCutAuto
import Derived.Deep.DrawnRows
import Derived.Deep.DeepMust
namespace Go.Proofs.YtjjlofaejpnnnaaGreatDoor
open Go Go.RowKit
set_option linter.unusedVariables false
/-- a line is read: what there is then, or nothing -/
def LineQ (B0 B gr gm k : Nat) (r : Option RS) (w : World) (e : Ending) (w' : World) : Prop :=
  e = .returned (.bool r.isSome) ∧ Below B0 w w' ∧ ∀ st', r = some st' → ∃ v vw l, RIn B gr gm (k + 1) v vw l st' w'
theorem lineQ_no {B0 B gr gm k : Nat} {r : Option RS} {w w' : World} (hr : r = none) (h : Below B0 w w') : LineQ B0 B gr gm k r w (.returned (.bool false)) w' := by
  subst hr
  exact ⟨rfl, h, fun st' e => by cases e⟩
theorem lineQ_yes {B0 B gr gm k : Nat} {r : Option RS} {st : RS} {v vw : Value} {l : List (Nd × Leaf)} {w w' : World} (hr : r = some st) (h : Below B0 w w') (hR : RIn B gr gm (k + 1) v vw l st w') : LineQ B0 B gr gm k r w (.returned (.bool true)) w' := by
  subst hr
  exact ⟨rfl, h, fun st' e => by cases e; exact ⟨_, _, _, hR⟩⟩
theorem prefix_no {s p : List UInt8} (h : s.take p.length ≠ p) : Lib.hasPrefix s p = false := by
  unfold Lib.hasPrefix
  cases hb : p.isPrefixOf s with
  | false => rfl
  | true =>
    exfalso
    rw [List.isPrefixOf_iff_prefix] at hb
    exact h (List.prefix_iff_eq_take.1 hb).symm
theorem prefix_yes {s p : List UInt8} (h : s.take p.length = p) : Lib.hasPrefix s p = true ∧ Lib.trimPrefix s p = s.drop p.length := by
  have hb : p.isPrefixOf s = true := by
    rw [List.isPrefixOf_iff_prefix]
    exact List.prefix_iff_eq_take.2 h.symm
  refine ⟨hb, ?_⟩
  unfold Lib.trimPrefix Lib.hasPrefix
  rw [if_pos hb]
/-- what is cut off ahead -/
def PreP (s p : ByteArray) (w : World) (e : Ending) (w' : World) : Prop :=
  ∃ r : ByteArray, e = .returned (.tuple #[.string r, .bool (decide (s.data.toList.take p.size = p.data.toList))]) ∧ (s.data.toList.take p.size = p.data.toList → r.data.toList = s.data.toList.drop p.size) ∧ r.size ≤ s.size ∧ w = w'
theorem pre_any (s p : ByteArray) (w : World) : Calls Tryz.prog 43 #[.string s, .string p] w (PreP s p w) := by
  refine (Tryz.strings_CutPrefix s p w).mono ?_
  rintro e w' ⟨rfl, rfl⟩
  have hp : p.data.toList.length = p.size := toList_eq p
  by_cases h : s.data.toList.take p.size = p.data.toList
  · obtain ⟨h1, h2⟩ := prefix_yes (s := s.data.toList) (p := p.data.toList) (by rw [hp]; exact h)
    refine ⟨_, by rw [h1, decide_eq_true h], fun _ => by rw [h2, hp], ?_, rfl⟩
    rw [h2]
    show (List.drop _ _).toArray.size ≤ _
    rw [List.size_toArray, List.length_drop, toList_eq]
    omega
  · have h1 := prefix_no (s := s.data.toList) (p := p.data.toList) (by rw [hp]; exact h)
    refine ⟨_, by rw [h1, decide_eq_false h], fun hh => absurd hh h, ?_, rfl⟩
    unfold Lib.trimPrefix
    rw [h1]
    show (s.data.toList).toArray.size ≤ _
    rw [List.size_toArray, toList_eq]
    exact Nat.le_refl _
/-- the reader's five cells -/
theorem rd_cells {w : World} {gr gm : Nat} {next root : Int} {v vw : Value} (h : Blk w gr 45 #[.int .i64 next, v, .map (some gm), .int .i64 root, vw]) :
    w.cell? ⟨gr, 0, none⟩ = some (.int .i64 next) ∧ w.cell? ⟨gr, 1, none⟩ = some v ∧ w.cell? ⟨gr, 2, none⟩ = some (.map (some gm)) ∧ w.cell? ⟨gr, 3, none⟩ = some (.int .i64 root) ∧ w.cell? ⟨gr, 4, none⟩ = some vw :=
  ⟨(h.cell 0).trans rfl, (h.cell 1).trans rfl, (h.cell 2).trans rfl, (h.cell 3).trans rfl, (h.cell 4).trans rfl⟩
set_option maxRecDepth 20000 in
set_option maxHeartbeats 1600000 in
theorem first_any (w : World) (B0 B gr gm k : Nat) (v vw : Value) (l : List (Nd × Leaf)) (st : RS) (h : RIn B gr gm k v vw l st w) (h0 : st.next = 0) (hB0 : B0 ≤ gr) (s : ByteArray) (hs : s.size ≤ 1048576) (hk : k + 1 ≤ 4194304) (hE : Env w) :
    Calls Tryz.prog 41 #[.pointer (some ⟨gr, 0, none⟩), .string s] w (LineQ B0 B gr gm k (firstP s.data.toList) w) := by
  have H := Lib.hid h
  have HP := Lib.hid (pre_any s ⟨#[110, 101, 120, 116, 32]⟩ w)
  have HB : Hid (B0 ≤ w.heap.size) := Lib.hid (Nat.le_trans hB0 (Nat.le_of_lt h.box.lt))
  have HN : Hid (∀ r : ByteArray, r.size ≤ s.size → Calls Tryz.prog 76 #[.string r, .int .i64 1048577] w (NumP w (numberV r.data.toList 1048578))) := Lib.hid fun r hr => number_any r 1048577 w (by omega) hE
  have hgl := h.box.lt
  clear h hE
  go_enter Tryz.func41, Tryz.ntmps41
  go_wp2_with fail
  refine HP.out.mono ?_
  rintro e w1 ⟨r, rfl, hr1, hr2, rfl⟩
  have HR := Lib.hid (HN.out r hr2)
  by_cases hp : s.data.toList.take 5 = [110, 101, 120, 116, 32]
  · have hd : decide (s.data.toList.take (⟨#[110, 101, 120, 116, 32]⟩ : ByteArray).size = (⟨#[110, 101, 120, 116, 32]⟩ : ByteArray).data.toList) = true := decide_eq_true hp
    rw [hd]
    have HRL : Hid (r.data.toList = s.data.toList.drop 5) := Lib.hid (hr1 hp)
    rw [HRL.out] at HR
    have HF : Hid (firstP s.data.toList = (numberV (s.data.toList.drop 5) 1048578).map fun n => ⟨n, [], []⟩) := Lib.hid (by unfold firstP; rw [if_pos hp])
    clear hd hr1 hr2 hp
    cases hn : numberV (s.data.toList.drop 5) 1048578 with
    | none =>
      rw [hn] at HR HF
      clear hn
      go_wp2_with (go_at_call 76; refine HR.out.mono ?_; rintro e w2 ⟨rfl, hb2⟩; have HB2 := Lib.hid (hb2.mono HB.out); clear hb2; (try simp only [Option.getD_none, Option.isSome_none]))
      go_ret
      exact lineQ_no HF.out HB2.out
    | some n =>
      rw [hn] at HR HF
      have HNN := Lib.hid (numberV_some hn).2
      clear hn
      go_upto_region 5 with (go_at_call 76; refine HR.out.mono ?_; rintro e w2 ⟨rfl, hb2⟩; have HB2 := Lib.hid (hb2.mono HB.out); have H2 := Lib.hid (H.out.after hb2); clear hb2; (try simp only [Option.getD_some, Option.isSome_some]))
      have cx := (rd_cells H2.out.box).1
      have fx := H2.out.box.frozen 0
      go_wp2_with fail
      go_ret
      have hz := H2.out.zr h0
      have hbox := H2.out.box.set_ 0 (.int .i64 n)
      have hroot : rootV st = rootV ⟨n, [], []⟩ := by unfold rootV; rw [hz.1, hz.2]
      rw [hroot] at hbox
      have hnp := H2.out.np.other H2.out.box (by decide) (by decide) (by decide) (by decide) 0 (.int .i64 n)
      rw [hz.2] at hnp
      have hst := (H2.out.set.set (p := ⟨gr, 0, none⟩) (H2.out.set.blk_ne H2.out.box) (.int .i64 n)).mono (Nat.le_succ k)
      rw [hz.1] at hst
      refine lineQ_yes HF.out (HB2.out.setCell (p := ⟨gr, 0, none⟩) hB0 _) (v := v) (vw := vw) (l := l) ⟨by simpa using hbox, hnp, hst, by rw [H2.out.nds, hz.1], fun _ => ⟨HNN.out.1, by have := HNN.out.2; simp only; omega, rfl, deepOk_nil, Nat.zero_le _, by simp, by simp⟩, fun _ => ⟨rfl, rfl⟩, by simp, H2.out.lr, H2.out.lm, hk⟩
  · have hd : decide (s.data.toList.take (⟨#[110, 101, 120, 116, 32]⟩ : ByteArray).size = (⟨#[110, 101, 120, 116, 32]⟩ : ByteArray).data.toList) = false := decide_eq_false hp
    rw [hd]
    have HF : Hid (firstP s.data.toList = none) := Lib.hid (by unfold firstP; rw [if_neg hp])
    clear hd hr1 hr2 hp
    go_wp2_with (go_at_call 76; refine HR.out.mono ?_; rintro e w2 ⟨rfl, hb2⟩; have HB2 := Lib.hid (hb2.mono HB.out); clear hb2)
    go_ret
    exact lineQ_no HF.out HB2.out
/-- may a node with this number stand here? -/
def freshV (st : RS) (d : Nat) (s : List UInt8) : Option Int := (numberV s st.next).bind fun id => if (d = 0 ∧ id ≤ rootV st) ∨ id ∈ idsOf st then none else some id
set_option maxRecDepth 20000 in
set_option maxHeartbeats 1600000 in
theorem fresh_any (w : World) (B gr gm k : Nat) (v vw : Value) (l : List (Nd × Leaf)) (st : RS) (h : RIn B gr gm k v vw l st w) (h0 : st.next ≠ 0) (d : Nat) (s : ByteArray) (hs : s.size ≤ 1048576) (hE : Env w) :
    Calls Tryz.prog 85 #[.pointer (some ⟨gr, 0, none⟩), .int .i64 d, .string s] w (NumP w (freshV st d s.data.toList)) := by
  have H := Lib.hid h
  have hok := h.ok h0
  have hn1 := hok.n1
  have hn2 := hok.n2
  have HN : Hid (Calls Tryz.prog 76 #[.string s, .int .i64 (st.next - 1)] w (NumP w (numberV s.data.toList st.next))) := Lib.hid (by
    have := number_any s (st.next - 1) w (by omega) hE
    rwa [show st.next - 1 + 1 = st.next from by omega] at this)
  have hgl := h.box.lt
  obtain ⟨c0, _, c2, c3, _⟩ := rd_cells h.box
  have hw1 : IntKind.i64.wrap (st.next - 1) = st.next - 1 := IntWalk.i64_in _ (by omega)
  clear h hE hok
  cases hn : numberV s.data.toList st.next with
  | none =>
    rw [hn] at HN
    have HF : Hid (freshV st d s.data.toList = none) := Lib.hid (by unfold freshV; rw [hn]; rfl)
    clear hn
    go_enter Tryz.func85, Tryz.ntmps85
    go_wp2_with (go_at_call 76; refine HN.out.mono ?_; rintro e w2 ⟨rfl, hb2⟩; (try simp only [Option.getD_none, Option.isSome_none]))
    go_ret2
    rw [HF.out]
    exact numP rfl rfl hb2
  | some id =>
    rw [hn] at HN
    have hid := (numberV_some hn).2
    have HFF : Hid (freshV st d s.data.toList = if (d = 0 ∧ id ≤ rootV st) ∨ id ∈ idsOf st then none else some id) := Lib.hid (by unfold freshV; rw [hn]; rfl)
    clear hn
    have hk1 : -9223372036854775808 ≤ id ∧ id ≤ 9223372036854775807 := by omega
    have HK1 := Lib.hid hk1
    clear hk1
    by_cases hd : d = 0
    · by_cases hr : id ≤ rootV st
      · have HF : Hid (freshV st d s.data.toList = none) := Lib.hid (by rw [HFF.out, if_pos (.inl ⟨hd, hr⟩)])
        have hd0 : ((d : Int) == 0) = true := by rw [beq_iff_eq]; omega
        clear hd HFF
        go_enter Tryz.func85, Tryz.ntmps85
        go_wp2_with (go_at_call 76; refine HN.out.mono ?_; rintro e w2 ⟨rfl, hb2⟩; (try simp only [Option.getD_some, Option.isSome_some]); have c3' := (hb2.cell (p := ⟨gr, 3, none⟩) hgl).trans c3)
        go_ret2
        rw [HF.out]
        exact numP rfl rfl hb2
      · have hd0 : ((d : Int) == 0) = true := by rw [beq_iff_eq]; omega
        cases hm : (idsOf st).contains id with
        | true =>
          have HF : Hid (freshV st d s.data.toList = none) := Lib.hid (by rw [HFF.out, if_pos (.inr (by simpa using hm))])
          have HM := Lib.hid hm
          clear hd HFF hm
          go_enter Tryz.func85, Tryz.ntmps85
          go_wp2_with (go_at_call 76; refine HN.out.mono ?_; rintro e w2 ⟨rfl, hb2⟩; (try simp only [Option.getD_some, Option.isSome_some]); have c3' := (hb2.cell (p := ⟨gr, 3, none⟩) hgl).trans c3; have c2' := (hb2.cell (p := ⟨gr, 2, none⟩) hgl).trans c2; have hlk := (H.out.set.after hb2).look HK1.out; rw [show st.nds.map (·.id) = idsOf st from rfl, HM.out] at hlk)
          go_ret2
          rw [HF.out]
          exact numP rfl rfl ((hb2.alloc hb2.size _))
        | false =>
          have HF : Hid (freshV st d s.data.toList = some id) := Lib.hid (by rw [HFF.out, if_neg (by exact fun h => h.elim (fun h => hr h.2) (fun h => absurd h (by simpa using hm)))])
          have HM := Lib.hid hm
          clear hd HFF hm
          go_enter Tryz.func85, Tryz.ntmps85
          go_wp2_with (go_at_call 76; refine HN.out.mono ?_; rintro e w2 ⟨rfl, hb2⟩; (try simp only [Option.getD_some, Option.isSome_some]); have c3' := (hb2.cell (p := ⟨gr, 3, none⟩) hgl).trans c3; have c2' := (hb2.cell (p := ⟨gr, 2, none⟩) hgl).trans c2; have hlk := (H.out.set.after hb2).look HK1.out; rw [show st.nds.map (·.id) = idsOf st from rfl, HM.out] at hlk)
          go_ret2
          rw [HF.out]
          exact numP rfl rfl ((hb2.alloc hb2.size _))
    · have hd0 : ((d : Int) == 0) = false := by rw [beq_eq_false_iff_ne]; omega
      cases hm : (idsOf st).contains id with
      | true =>
        have HF : Hid (freshV st d s.data.toList = none) := Lib.hid (by rw [HFF.out, if_pos (.inr (by simpa using hm))])
        have HM := Lib.hid hm
        clear hd HFF hm
        go_enter Tryz.func85, Tryz.ntmps85
        go_wp2_with (go_at_call 76; refine HN.out.mono ?_; rintro e w2 ⟨rfl, hb2⟩; (try simp only [Option.getD_some, Option.isSome_some]); have c2' := (hb2.cell (p := ⟨gr, 2, none⟩) hgl).trans c2; have hlk := (H.out.set.after hb2).look HK1.out; rw [show st.nds.map (·.id) = idsOf st from rfl, HM.out] at hlk)
        go_ret2
        rw [HF.out]
        exact numP rfl rfl ((hb2.alloc hb2.size _))
      | false =>
        have HF : Hid (freshV st d s.data.toList = some id) := Lib.hid (by rw [HFF.out, if_neg (by exact fun h => h.elim (fun h => hd h.1) (fun h => absurd h (by simpa using hm)))])
        have HM := Lib.hid hm
        clear hd HFF hm
        go_enter Tryz.func85, Tryz.ntmps85
        go_wp2_with (go_at_call 76; refine HN.out.mono ?_; rintro e w2 ⟨rfl, hb2⟩; (try simp only [Option.getD_some, Option.isSome_some]); have c2' := (hb2.cell (p := ⟨gr, 2, none⟩) hgl).trans c2; have hlk := (H.out.set.after hb2).look HK1.out; rw [show st.nds.map (·.id) = idsOf st from rfl, HM.out] at hlk)
        go_ret2
        rw [HF.out]
        exact numP rfl rfl ((hb2.alloc hb2.size _))
/-- the last node, in its place -/
theorem last_no (w : World) (B gr gm k : Nat) (v vw : Value) (l : List (Nd × Leaf)) (st : RS) (h : RIn B gr gm k v vw l st w) (d : Nat) (hd : lastNd st d = none) :
    Calls Tryz.prog 82 #[.pointer (some ⟨gr, 0, none⟩), .int .i64 d] w fun e w' => e = .returned (.tuple #[.pointer none, .bool false]) ∧ w = w' := by
  obtain ⟨A, c, rfl, hc1, hc2⟩ := h.v_form
  obtain ⟨Aw, cw, rfl, hw1, hw2⟩ := h.w_form
  obtain ⟨_, c1, _, _, c4⟩ := rd_cells h.box
  by_cases h0 : st.nds.length = 0
  · have d0 : ((st.nds.length : Int) == 0) = true := by rw [h0]; rfl
    clear hd h h0
    go_enter Tryz.func82, Tryz.ntmps82
    go_wp2_with fail
    go_ret2
    exact ⟨rfl, rfl⟩
  · have d0 : ((st.nds.length : Int) == 0) = false := by rw [beq_eq_false_iff_ne]; omega
    have hne : d ≠ st.deep.getLastD 0 := by
      intro e
      unfold lastNd at hd
      rw [if_pos e, List.getLast?_eq_getElem?, List.getElem?_eq_none_iff] at hd
      omega
    have d1 : ((d : Int) == (st.deep.getLastD 0 : Int)) = false := by rw [beq_eq_false_iff_ne]; omega
    have d2 : ((d : Int) != (st.deep.getLastD 0 : Int)) = true := by rw [bne_iff_ne]; omega
    clear hd h h0 hne
    generalize st.deep.getLastD 0 = q at c4 d1 d2 hw1
    go_enter Tryz.func82, Tryz.ntmps82
    go_wp2_with fail
    go_ret2
    exact ⟨rfl, rfl⟩
theorem last_yes (w : World) (B gr gm k g n c : Nat) (vw : Value) (l : List (Nd × Leaf)) (st : RS) (h : RIn B gr gm k (.slice (some ⟨g, 0, none⟩) n c) vw l st w) (hn : st.nds.length = n) (h0 : 0 < n) (d : Nat) (hd : d = st.deep.getLastD 0) :
    Calls Tryz.prog 82 #[.pointer (some ⟨gr, 0, none⟩), .int .i64 d] w fun e w' => e = .returned (.tuple #[.pointer (some ⟨g, (n - 1) * 7, none⟩), .bool true]) ∧ Below w.heap.size w w' := by
  obtain ⟨A, c', hv, hc1, hc2⟩ := h.v_form
  injection hv with hA hn' hc'
  subst hc'
  obtain ⟨Aw, cw, rfl, hw1, hw2⟩ := h.w_form
  obtain ⟨_, c1, _, _, c4⟩ := rd_cells h.box
  have hcm : c ≤ 9223372036854775807 := by unfold maxLen at hc2; omega
  have d0 : ((n : Int) == 0) = false := by rw [beq_eq_false_iff_ne]; omega
  have d1 : ((d : Int) == (st.deep.getLastD 0 : Int)) = true := by rw [beq_iff_eq]; omega
  have d2 : ((d : Int) != (st.deep.getLastD 0 : Int)) = false := by rw [hd]; simp
  have hwr : IntKind.i64.wrap ((n : Int) - 1) = ((n - 1 : Nat) : Int) := by rw [IntWalk.i64_in _ (by omega)]; omega
  have hix : n - 1 < n := by omega
  clear h hn hA hd hn'
  generalize st.deep.getLastD 0 = q at c4 d1 d2 hw1
  go_enter Tryz.func82, Tryz.ntmps82
  go_wp2_with fail
  go_quiet (fail)
  go_wp2_with fail
  go_ret2
  exact ⟨by first | rfl | (simp; done), below_drewN (Below.refl _ _) _⟩
end Go.Proofs.YtjjlofaejpnnnaaGreatDoor
namespace Go.Proofs.YtjjlofaejpnnnaaGreatDoor
open Go Go.RowKit
set_option linter.unusedVariables false
/-- Q, but K where the region goes on -/
def tailQ (Q : Exit → Act → World → Prop) (K : Act → World → Prop) : Exit → Act → World → Prop
  | .normal, a, w => K a w
  | e, a, w => Q e a w
section
variable {P : Program} {Q : Exit → Act → World → Prop} {K : Act → World → Prop} {md : Region.Mode} {S : World → Prop}
theorem lets_tail (h : LetsOut (tailQ Q K)) : LetsOut Q := h
theorem oper_tail {o : Oper} {a : Act} {w : World} {next : Act → World → Prop} (h : Oper.wp P o a w next (tailQ Q K)) : Oper.wp P o a w next Q := by
  unfold Oper.wp at *
  generalize (execOp a.eval o).run P w = r at *
  cases r with
  | ok n w' =>
    cases n <;> simp only [Oper.upon] at h ⊢ <;>
      first
        | exact h
        | exact Calls.mono h (fun e w'' he => by cases e <;> exact he)
  | halt x w' => cases x <;> simp only [Oper.upon] at h ⊢ <;> exact h
/-- each operation ahead of number n is asked for whatever comes, and waits for earlier ones alone -/
def aheadB (md : Region.Mode) (ops : Array Oper) (n : Nat) : Bool :=
  (List.range n).all fun j => match ops[j]? with
    | some o => o.guard.isNone && o.after.all fun e => !Region.binds md e || decide (e.on < j)
    | none => false
theorem aheadB_spec {ops : Array Oper} {n : Nat} (h : aheadB md ops n = true) {j : Nat} (hj : j < n) : ∃ o, ops[j]? = some o ∧ o.guard = none ∧ ∀ e ∈ o.after, Region.binds md e = true → e.on < j := by
  have h1 := List.all_eq_true.1 h j (List.mem_range.2 hj)
  cases ho : ops[j]? with
  | none => simp [ho] at h1
  | some o =>
    rw [ho] at h1
    simp only [Bool.and_eq_true, Option.isNone_iff_eq_none] at h1
    refine ⟨o, rfl, h1.1, fun e he hb => ?_⟩
    have := Array.all_eq_true_iff_forall_mem.1 h1.2 e he
    rw [hb] at this
    simpa using this
theorem wpAny_more {ops : Array Oper} {listed : Array Bool} : ∀ (f : Nat) (listed : Array Bool) (a : Act) (w : World), wpAny P md ops Q f listed a w → wpAny P md ops Q (f + 1) listed a w
  | 0, _, _, _, h => ⟨fun _ => h.2, fun i hi => by rw [h.1] at hi; cases hi⟩
  | f + 1, _, _, _, h => ⟨h.1, fun i hi => wpOp_mono (fun a' w' h' => wpAny_more (listed := listed) f _ a' w' h') (h.2 i hi)⟩
theorem wpAny_more' {ops : Array Oper} {listed : Array Bool} {a : Act} {w : World} {g : Nat} (h : wpAny P md ops Q g listed a w) : ∀ f, wpAny P md ops Q (f + g) listed a w
  | 0 => by rw [Nat.zero_add]; exact h
  | f + 1 => by rw [show f + 1 + g = (f + g) + 1 from by omega]; exact wpAny_more (listed := listed) _ _ _ _ (wpAny_more' h f)
variable {hops : Array Oper} {ops : Array Oper} {n g : Nat}
theorem getD_app {L R : Array Bool} {j : Nat} {d : Bool} (hj : j < L.size) : (L ++ R).getD j d = L.getD j d := by
  simp [Array.getD_eq_getD_getElem?, Array.getElem?_append_left hj]
theorem ready_head (hs : hops.size = n) (hh : ∀ j, j < n → hops[j]? = ops[j]?) (hB : aheadB md ops n = true) {L R : Array Bool} (hL : L.size = n) {j : Nat} (hj : j < n) :
    j ∈ Region.ready md ops (L ++ R) ↔ j ∈ Region.ready md hops L := by
  rw [mem_ready, mem_ready, hh j hj, getD_app (by omega)]
  obtain ⟨o, ho, _, hd⟩ := aheadB_spec hB hj
  refine and_congr_right fun _ => ?_
  refine exists_congr fun o' => and_congr_right fun ho' => forall_congr' fun e => forall_congr' fun he => forall_congr' fun hb => ?_
  have : o' = o := Option.some.inj (ho'.symm.trans ho)
  subst this
  rw [getD_app (by have := hd e he hb; omega)]
theorem some_ready (hs : hops.size = n) (hh : ∀ j, j < n → hops[j]? = ops[j]?) (hB : aheadB md ops n = true) {L : Array Bool} (hL : L.size = n) : ∀ (j : Nat), j < n → L.getD j true = false → ∃ i, i < n ∧ i ∈ Region.ready md hops L := by
  intro j
  induction j using Nat.strongRecOn with
  | _ j ih =>
    intro hj hun
    obtain ⟨o, ho, _, hd⟩ := aheadB_spec hB hj
    by_cases h : ∃ e ∈ o.after, Region.binds md e = true ∧ L.getD e.on false = false
    · obtain ⟨e, he, hb, hl⟩ := h
      have hlt := hd e he hb
      exact ih e.on hlt (by omega) (getD_in (by omega) hl)
    · refine ⟨j, hj, mem_ready.2 ⟨hun, o, by rw [hh j hj]; exact ho, fun e he hb => ?_⟩⟩
      cases hl : L.getD e.on false with
      | true => rfl
      | false => exact absurd ⟨e, he, hb, hl⟩ h
theorem op_head (hh : ∀ j, j < n → hops[j]? = ops[j]?) (hB : aheadB md ops n = true) {i : Nat} (hi : i < n) {K1 K2 : Act → World → Prop} {a : Act} {w : World} (hK : ∀ a w, K1 a w → K2 a w)
    (h : wpOp P hops (tailQ Q K) i K1 a w) : wpOp P ops Q i K2 a w := by
  obtain ⟨o, ho, hg, _⟩ := aheadB_spec hB hi
  unfold wpOp at *
  rw [hh i hi] at h
  simp only [ho] at h ⊢
  have hw : ∀ y, Region.wanted o y = true := fun y => by simp [Region.wanted, hg]
  rw [hw, if_pos rfl] at h ⊢
  exact h.imp (fun h => oper_tail (Oper.wp_mono hK h)) (fun h => ⟨h.1, lets_tail h.2⟩)
theorem head_tail {l : List Oper} (hs : hops.size = n) (hh : ∀ j, j < n → hops[j]? = ops[j]?) (hB : aheadB md ops n = true) (hsk : Region.sinkB md ops n = true) (hch : Region.chainB md ops n = true) (hn : n < ops.size)
    (hl : ∀ j, l[j]? = ops[n + j]?) (hseq : Region.seqB md ops l.length n (Array.replicate n true ++ Array.replicate l.length false) = true) (hsize : ops.size = n + l.length) :
    ∀ (fuel : Nat) (L : Array Bool) (a : Act) (w : World), L.size = n → HeadInv md ops n (L ++ Array.replicate l.length false) →
      wpAnyH P md hops (tailQ Q (wpList P ops Q l)) S fuel L a w → wpAny P md ops Q (fuel + l.length) (L ++ Array.replicate l.length false) a w := by
  intro fuel
  induction fuel with
  | zero =>
    intro L a w hL inv h
    have hall : ∀ j, j < n → L.getD j true = true := fun j hj => by
      cases hx : L.getD j true with
      | true => rfl
      | false =>
        obtain ⟨i, _, hi⟩ := some_ready hs hh hB hL j hj hx
        rw [h.1] at hi; cases hi
    have hLe : L = Array.replicate n true := by
      refine Array.ext (by simp [hL]) fun j h1 h2 => ?_
      have := hall j (by omega)
      rw [Array.getElem_replicate]
      simpa [h1] using this
    rw [Nat.zero_add, hLe]
    exact wpAny_of_seq l n _ a w hl hseq h.2
  | succ fuel ih =>
    intro L a w hL inv h
    by_cases hun : ∃ j, j < n ∧ L.getD j true = false
    · obtain ⟨j, hj, hx⟩ := hun
      obtain ⟨i, hin, hi⟩ := some_ready hs hh hB hL j hj hx
      have hif := (ready_head (R := Array.replicate l.length false) hs hh hB hL hin).2 hi
      rw [show fuel + 1 + l.length = (fuel + l.length) + 1 from by omega]
      refine ⟨fun h0 => (by rw [h0] at hif; cases hif), fun k hk => ?_⟩
      have hkn : k < n := by
        rcases Nat.lt_or_ge k n with h | h
        · exact h
        · exact absurd hk (tail_waits hsk hch hn inv _ j rfl hj (by rw [getD_app (by omega)]; exact hx) k h)
      have hkh := (ready_head hs hh hB hL hkn).1 hk
      refine op_head hh hB hkn (fun a' w' h' => ?_) (h.2 k hkh)
      have e : (L ++ Array.replicate l.length false).setIfInBounds k true = L.setIfInBounds k true ++ Array.replicate l.length false := by
        rw [Array.setIfInBounds_append_left (by omega)]
      rw [e]
      exact ih _ a' w' (by simpa using hL) (by rw [← e]; exact inv.set hk hkn) h'.2
    · have hall : ∀ j, j < n → L.getD j true = true := fun j hj => by
        cases hx : L.getD j true with
        | true => rfl
        | false => exact absurd ⟨j, hj, hx⟩ hun
      have hLe : L = Array.replicate n true := by
        refine Array.ext (by simp [hL]) fun j h1 h2 => ?_
        have := hall j (by omega)
        rw [Array.getElem_replicate]
        simpa [h1] using this
      have hr0 : Region.ready md hops L = [] := by
        rcases hx : Region.ready md hops L with _ | ⟨i, rs⟩
        · rfl
        · have hi : i ∈ Region.ready md hops L := by rw [hx]; exact List.mem_cons_self
          obtain ⟨h1, o, ho, _⟩ := mem_ready.1 hi
          have hin : i < n := by rw [← hs]; exact (Array.getElem?_eq_some_iff.1 ho).1
          rw [hall i hin] at h1; cases h1
      refine wpAny_more' ?_ (fuel + 1)
      rw [hLe]
      exact wpAny_of_seq l n _ a w hl hseq (h.1 hr0)
/-- what the kernel looks at -/
def tailB (ops : Array Oper) (n : Nat) : Bool :=
  aheadB .any ops n && Region.sinkB .any ops n && Region.chainB .any ops n && decide (n < ops.size) && Region.seqB .any ops (ops.size - n) n (Array.replicate n true ++ Array.replicate (ops.size - n) false)
/-- **the beginning**: n operations in whatever order, under S; then the others as they stand -/
theorem wp_region_held_tail {id : Nat} {a : Act} {w : World} {l : List Oper} (n : Nat) (S : World → Prop) (hm : P.follows .mixedOrders = true) (hB : tailB l.toArray n = true) (hS : S w.drew)
    (h : S w.drew → wpAnyH P .any (l.take n).toArray (tailQ Q (wpList P l.toArray Q (l.drop n))) S n (Array.replicate n false) a w.drew) : (Code.region id l.toArray true).wp P Q a w := by
  simp only [tailB, Bool.and_eq_true, decide_eq_true_eq] at hB
  obtain ⟨⟨⟨⟨h1, h2⟩, h3⟩, h4⟩, h5⟩ := hB
  have hn : n < l.length := by simpa using h4
  have hdl : l.toArray.size - n = (l.drop n).length := by simp
  have hsz : l.toArray.size = n + (l.drop n).length := by simp; omega
  refine wp_region_any hm ?_
  have := head_tail (P := P) (Q := Q) (S := S) (hops := (l.take n).toArray) (ops := l.toArray) (n := n) (md := .any) (l := l.drop n) (by simp; omega) (fun j hj => by simp [hj]) h1 h2 h3 h4 (fun j => by simp [List.getElem?_drop]) (by rw [← hdl]; exact h5) hsz
    n (Array.replicate n false) a w.drew (by simp) ?_ (h hS)
  · rw [← hsz] at this
    have e : Array.replicate n false ++ Array.replicate (l.drop n).length false = Array.replicate l.toArray.size false := by
      rw [Array.replicate_append_replicate, ← hsz]
    rw [e] at this
    exact this
  · refine ⟨by simp; omega, fun j oj _ hl => ?_, fun t ht ht' => ?_⟩
    · rw [Array.replicate_append_replicate, getD_replicate_false] at hl; cases hl
    · rw [Array.replicate_append_replicate]
      exact getD_in (by rw [← hsz]; simpa using ht') (getD_replicate_false _ _)
end
end Go.Proofs.YtjjlofaejpnnnaaGreatDoor
namespace Go.Proofs.YtjjlofaejpnnnaaGreatDoor
open Go Go.RowKit Go.Sort
set_option linter.unusedVariables false
attribute [local go_sem ↓] Go.wp_at_zero Go.wp_at_succ
theorem propInfo : (Tryz.prog.info? 60).map (fun i => (i.zero, i.size, i.bytes)) = some (some (.agg #[.string ByteArray.empty, .string ByteArray.empty]), 2, 32) := by kernel_rfl
theorem refInfo : (Tryz.prog.info? 62).map (fun i => (i.zero, i.size, i.bytes)) = some (some (.agg #[.string ByteArray.empty, .int .i64 0]), 2, 24) := by kernel_rfl
theorem nodeInfo : (Tryz.prog.info? 55).map (fun i => (i.zero, i.size, i.bytes)) = some (some (.agg #[.int .i64 0, .string ByteArray.empty, .int .i64 0, .string ByteArray.empty, .slice none 0 0, .slice none 0 0, .slice none 0 0]), 7, 120) := by kernel_rfl
def markS : ByteArray := ⟨#[109, 97, 114, 107]⟩
/-- the slice s of n elements holds xs, and behind its end, in its room, the mark -/
def MarkIn (w : World) (B : Nat) (e : TypeId) (size : Nat) (s : Sl) (n : Nat) (xs mark : List Value) : Prop :=
  s.n = n ∧ s.A ≠ none ∧ w.ownsRow B e size (.slice s.A (n + 1) s.c) (n + 1) (xs ++ mark)
theorem MarkIn.after {w w' : World} {B : Nat} {e : TypeId} {size n : Nat} {s : Sl} {xs mark : List Value} (h : MarkIn w B e size s n xs mark) (hb : Below w.heap.size w w') : MarkIn w' B e size s n xs mark := ⟨h.1, h.2.1, own_after h.2.2 hb⟩
theorem MarkIn.other {w : World} {B : Nat} {e : TypeId} {size n : Nat} {s : Sl} {xs mark : List Value} (h : MarkIn w B e size s n xs mark) {g : Nat} {t : TypeId} {cs : Array Value} (hg : Blk w g t cs) (hne : e ≠ t) (i : Nat) (u : Value) : MarkIn (w.setCell ⟨g, i, none⟩ u) B e size s n xs mark := ⟨h.1, h.2.1, own_other h.2.2 hg hne i u⟩
theorem MarkIn.kept {w w' : World} {B : Nat} {e : TypeId} {size n : Nat} {s : Sl} {xs mark : List Value} (h : MarkIn w B e size s n xs mark) {row : Option Nat} (hg : w.grownBy w' row) (hne : Value.ownBlock (.slice s.A (n + 1) s.c) ≠ row) : MarkIn w' B e size s n xs mark := ⟨h.1, h.2.1, World.ownsRow.kept h.2.2 hg (.inr hne)⟩
theorem MarkIn.len {w : World} {B : Nat} {e : TypeId} {size n n' : Nat} {s : Sl} {xs mark : List Value} (h : MarkIn w B e size s n xs mark) (hn : n = n') : MarkIn w B e size s n' xs mark := hn ▸ h
theorem MarkIn.mono {w : World} {B B' : Nat} {e : TypeId} {size n : Nat} {s : Sl} {xs mark : List Value} (h : MarkIn w B e size s n xs mark) (hB : B' ≤ B) : MarkIn w B' e size s n xs mark := ⟨h.1, h.2.1, own_mono h.2.2 hB⟩
theorem MarkIn.ne {w : World} {B : Nat} {e : TypeId} {size n : Nat} {s : Sl} {xs mark : List Value} (h : MarkIn w B e size s n xs mark) {B' : Nat} {e' : TypeId} {size' n' : Nat} {v' : Value} {xs' : List Value} (h' : w.ownsRow B' e' size' v' n' xs') (hne : e ≠ e') : Value.ownBlock (.slice s.A (n + 1) s.c) ≠ v'.ownBlock := by
  rcases own_own_ne h.2.2 h' hne with h0 | h0
  · rcases h.2.2.2 with ⟨_, h1⟩ | ⟨g, cap, cur, hv, _⟩
    · omega
    · rw [hv] at h0; simp [Value.ownBlock] at h0
  · exact h0
structure LentLeaf (w : World) (B : Nat) (nd : Nd) (L : Leaf) : Prop where
  p : MarkIn w B 60 2 L.p nd.props.length (propCells nd.props) [.string markS, .string ⟨#[]⟩]
  k : MarkIn w B 3 1 L.k nd.kids.length (intCells nd.kids) [.int .i64 (-7)]
  r : MarkIn w B 62 2 L.r nd.refs.length (refCells nd.refs) [.string markS, .int .i64 0]
  sz : SzN nd
theorem LentLeaf.after {w w' : World} {B : Nat} {nd : Nd} {L : Leaf} (h : LentLeaf w B nd L) (hb : Below w.heap.size w w') : LentLeaf w' B nd L := ⟨h.p.after hb, h.k.after hb, h.r.after hb, h.sz⟩
theorem LentLeaf.other {w : World} {B : Nat} {nd : Nd} {L : Leaf} (h : LentLeaf w B nd L) {g : Nat} {t : TypeId} {cs : Array Value} (hg : Blk w g t cs) (h1 : 60 ≠ t) (h2 : 3 ≠ t) (h3 : 62 ≠ t) (i : Nat) (u : Value) : LentLeaf (w.setCell ⟨g, i, none⟩ u) B nd L := ⟨h.p.other hg h1 i u, h.k.other hg h2 i u, h.r.other hg h3 i u, h.sz⟩
theorem LentLeaf.kept {w w' : World} {B : Nat} {nd : Nd} {L : Leaf} (h : LentLeaf w B nd L) {B' : Nat} {size' n' : Nat} {v' : Value} {xs' : List Value} (h' : w.ownsRow B' 55 size' v' n' xs') (hg : w.grownBy w' v'.ownBlock) : LentLeaf w' B nd L :=
  ⟨h.p.kept hg (h.p.ne h' (by decide)), h.k.kept hg (h.k.ne h' (by decide)), h.r.kept hg (h.r.ne h' (by decide)), h.sz⟩
theorem Blk.drew {w : World} {g : Nat} {t : TypeId} {cs : Array Value} (h : Blk w g t cs) : Blk w.drew g t cs := h
theorem below_grows {W w' w'' : World} (h : Below W.heap.size W w') {v : Value} (hg : w'.grownBy w'' v.ownBlock) {e : TypeId} {size n B : Nat} {xs : List Value} (hown : w'.ownsRow B e size v n xs) (hB : W.heap.size ≤ B) : Below W.heap.size W w'' :=
  h.grown hg h.size (fun k hk => Nat.le_trans hB (World.ownsRow.lt hown k hk).1)
/-- what holds in lent, but for the list that grows -/
structure LE (w : World) (next : Int) (A : Option Addr) (n c : Nat) (ov : Value) (l : List (Nd × Leaf)) (wr : World) : Prop where
  md : Blk wr w.heap.size 25 #[.int .i64 next, .slice A n c]
  rs : Blk wr (w.heap.size + 1) 25 #[.int .i64 0, .slice none 0 0]
  out : Blk wr (w.heap.size + 2) 25 #[.int .i64 next, ov]
  leaf : ∀ p ∈ l, LentLeaf wr w.heap.size p.1 p.2
  bel : Below w.heap.size w wr
/-- what holds in the loop of lent -/
structure LW (w : World) (next : Int) (A : Option Addr) (n c : Nat) (ov : Value) (l : List (Nd × Leaf)) (wr : World) : Prop where
  e : LE w next A n c ov l wr
  own : OwnN wr w.heap.size ov l
section
variable {w : World} {next : Int} {A : Option Addr} {n c : Nat} {ov : Value} {l : List (Nd × Leaf)} {X X' : World}
theorem LE.after (h : LE w next A n c ov l X) (hb : Below X.heap.size X X') : LE w next A n c ov l X' :=
  ⟨h.md.after hb, h.rs.after hb, h.out.after hb, fun p hp => (h.leaf p hp).after hb, h.bel.trans (hb.mono h.bel.size)⟩
theorem LW.after (h : LW w next A n c ov l X) (hb : Below X.heap.size X X') : LW w next A n c ov l X' := ⟨h.e.after hb, own_after h.own hb⟩
/-- the list has grown -/
theorem LE.kept (h : LE w next A n c ov l X) (hown : OwnN X w.heap.size ov l) (hg : X.grownBy X' ov.ownBlock) : LE w next A n c ov l X' :=
  ⟨h.md.grown hg (Ne.symm (own_blk_ne hown h.md (by decide))), h.rs.grown hg (Ne.symm (own_blk_ne hown h.rs (by decide))), h.out.grown hg (Ne.symm (own_blk_ne hown h.out (by decide))),
    fun p hp => (h.leaf p hp).kept hown hg, below_grows h.bel hg hown (Nat.le_refl _)⟩
theorem LE.out_set (h : LE w next A n c ov l X) (u : Value) : LE w next A n c u l (X.setCell ⟨w.heap.size + 2, 1, none⟩ u) :=
  ⟨h.md.far (by simp) u, h.rs.far (by simp) u, by simpa using h.out.set_ 1 u,
    fun p hp => (h.leaf p hp).other h.out (by decide) (by decide) (by decide) 1 u, h.bel.setCell (p := ⟨w.heap.size + 2, 1, none⟩) (by simp) u⟩
theorem LW.push {p : Nd × Leaf} {v' : Value} (h : LW w next A n c ov l X) (hg : X.grownBy X' ov.ownBlock) (hown : X'.ownsRow w.heap.size 55 7 v' (l.length + 1) (allCells l ++ ndCells p))
    (hp : LentLeaf X w.heap.size p.1 p.2) : LW w next A n c v' (l ++ [p]) (X'.setCell ⟨w.heap.size + 2, 1, none⟩ v') := by
  have h1 := h.e.kept h.own hg
  have h2 := hp.kept h.own hg
  have h3 := h1.out_set v'
  refine ⟨⟨h3.md, h3.rs, h3.out, fun q hq => ?_, h3.bel⟩, ?_⟩
  · rcases List.mem_append.1 hq with hq | hq
    · exact h3.leaf q hq
    · obtain rfl : q = p := by simpa using hq
      exact h2.other h1.out (by decide) (by decide) (by decide) 1 v'
  · have : OwnN X' w.heap.size v' (l ++ [p]) := by
      unfold OwnN
      have e : allCells (l ++ [p]) = allCells l ++ ndCells p := by simp [allCells]
      rw [e, List.length_append, List.length_singleton]
      exact hown
    exact own_other this h1.out (by decide) 1 v'
end
end Go.Proofs.YtjjlofaejpnnnaaGreatDoor

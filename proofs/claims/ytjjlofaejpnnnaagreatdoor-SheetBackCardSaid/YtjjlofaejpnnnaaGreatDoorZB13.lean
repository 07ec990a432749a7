/-
  WALKS over package sheet: number, word; strings.Cut at one byte.
  THE LAW SheetOrder, in plain mathematics: line by line, the numbers told are those of document order.
  A REGION THAT DRAWS ITS ORDER, AND ENDS IN OPERATIONS WHOSE ORDER IS FORCED: what comes ahead of them is walked under a condition on the world, what they do is walked behind it. No program stands in it.
  WALKS: what is done at each node: a function value that is called at nodes in document order.
  WALKS: a model lent, with marks in the room behind its lists.
  WALKS: over.
  WALKS: the closures that list the nodes at which they are called.
  WALKS: plain of the document.
-/
import Derived.Test.YtjjlofaejpnnnaaGreatDoorZB12
import Derived.Lib.IndexLaws
import Derived.WalkKit
import Derived.StillTail
import Derived.Deep.RegionHeld3
import Derived.Deep.DrawnRows
import Derived.Deep.RegionLaw
import Derived.Deep.DeepCutAuto
import Derived.Deep.DeepMust
namespace Go.Proofs.YtjjlofaejpnnnaaGreatDoor
open Go Go.RowKit
set_option linter.unusedVariables false
theorem index_cut (c : UInt8) : ∀ l : List UInt8, Lib.indexByte l c = if l.contains c = true then ((cutA c l).length : Int) else -1
  | [] => rfl
  | b :: l => by
    have ih := index_cut c l
    unfold Lib.indexByte
    by_cases hb : b = c
    · subst hb
      have e : cutA b (b :: l) = [] := by unfold cutA; rw [List.takeWhile_cons]; simp
      rw [e]
      simp
    · have hbc : (b == c) = false := by simpa using hb
      have hcb : (c == b) = false := by simpa using fun e : c = b => hb e.symm
      have e : cutA c (b :: l) = b :: cutA c l := by unfold cutA; rw [List.takeWhile_cons, if_pos (by simpa using hb)]
      rw [hbc, e, ih, List.contains_cons, hcb, Bool.false_or]
      by_cases hc : l.contains c = true
      · rw [if_pos hc, if_pos hc, List.length_cons]
        have : (((cutA c l).length : Int) == -1) = false := by rw [beq_eq_false_iff_ne]; omega
        rw [this]
        simp
      · rw [if_neg hc, if_neg hc]
        simp
theorem cutA_take (c : UInt8) (l : List UInt8) : cutA c l = l.take (cutA c l).length := List.prefix_iff_eq_take.1 (List.takeWhile_prefix _)
theorem cutA_lt {c : UInt8} {l : List UInt8} (h : l.contains c = true) : (cutA c l).length < l.length := by
  have hm : c ∈ l := by simpa using h
  rcases Nat.lt_or_ge (cutA c l).length l.length with hl | hl
  · exact hl
  · exfalso
    have e := cutA_take c l
    rw [List.take_of_length_le hl] at e
    rw [← e] at hm
    have := takeWhile_mem hm
    simp at this
theorem cut_no {c : UInt8} {l : List UInt8} (h : ¬ l.contains c = true) : cutA c l = l ∧ cutB c l = [] := cut_all fun x hx e => h (by subst e; simpa using hx)
/-- is the byte there? -/
def hasS (l : List UInt8) (c : UInt8) : Bool := l.contains c
/-- cut at one byte -/
def CutP (c : UInt8) (s : ByteArray) (w : World) (e : Ending) (w' : World) : Prop :=
  ∃ a b : ByteArray, e = .returned (.tuple #[.string a, .string b, .bool (hasS s.data.toList c)]) ∧ a.data.toList = cutA c s.data.toList ∧ b.data.toList = cutB c s.data.toList ∧ a.size ≤ s.size ∧ b.size ≤ s.size ∧ Below w.heap.size w w'
theorem sz_of {a : ByteArray} {l : List UInt8} (h : a.data.toList = l) : a.size = l.length := by rw [← h, toList_eq]
theorem cutA_le (c : UInt8) (l : List UInt8) : (cutA c l).length ≤ l.length := by rw [cutA_take]; exact List.length_take_le' _ _
theorem cutB_le (c : UInt8) (l : List UInt8) : (cutB c l).length ≤ l.length := by unfold cutB; rw [List.length_drop, List.length_drop]; omega
theorem cutP {c : UInt8} {s a b : ByteArray} {w w' : World} {x : Bool} (hx : x = hasS s.data.toList c) (ha : a.data.toList = cutA c s.data.toList) (hb : b.data.toList = cutB c s.data.toList) (h : Below w.heap.size w w') : CutP c s w (.returned (.tuple #[.string a, .string b, .bool x])) w' :=
  ⟨a, b, by rw [hx], ha, hb, by rw [sz_of ha, ← toList_eq]; exact cutA_le _ _, by rw [sz_of hb, ← toList_eq]; exact cutB_le _ _, h⟩
set_option maxHeartbeats 1600000 in
theorem lcut_any (s : ByteArray) (c : UInt8) (w : World) (hs : s.size ≤ 281474976710656) : Calls Tryz.prog 40 #[.string s, .string ⟨#[c]⟩] w (CutP c s w) := by
  have HI := Lib.hid (Tryz.stringslite_Index_one s c w)
  rw [index_cut] at HI
  by_cases hc : s.data.toList.contains c = true
  · rw [if_pos hc] at HI
    have hlt := cutA_lt hc
    rw [toList_eq] at hlt
    have HA := Lib.hid (cutA_take c s.data.toList)
    have HC := Lib.hid hc
    obtain ⟨k, hk⟩ : ∃ k, (cutA c s.data.toList).length = k := ⟨_, rfl⟩
    have HK := Lib.hid hk
    rw [hk] at HI hlt
    clear hc hk
    have h0 : (0 : Int) ≤ (k : Int) := by omega
    have hw1 : IntKind.i64.wrap ((k : Int) + 1) = (k : Int) + 1 := IntWalk.i64_in _ (by omega)
    have hb1 : (0 : Int) ≤ (k : Int) ∧ (k : Int) ≤ (s.size : Int) := by omega
    have hb2 : (0 : Int) ≤ (k : Int) + 1 ∧ (k : Int) + 1 ≤ (s.size : Int) := by omega
    go_enter Tryz.func40, Tryz.ntmps40
    go_wp2_with (go_at_call 75; refine HI.out.mono ?_; rintro e w' ⟨rfl, rfl⟩)
    go_quiet (fail)
    go_wp2_with fail
    go_ret3
    refine cutP HC.out.symm ?_ ?_ ?_
    · rw [HA.out, HK.out, Lib.extract_data]; simp
    · unfold cutB
      rw [HK.out, List.drop_drop, Lib.extract_data]
      rw [List.take_of_length_le (by rw [List.length_drop, toList_eq]; omega)]
    · exact below_drewN (Below.refl _ _) _
  · rw [if_neg hc] at HI
    have HC := Lib.hid (cut_no hc)
    have HF : Hid (s.data.toList.contains c = false) := Lib.hid (by simpa using hc)
    clear hc
    go_enter Tryz.func40, Tryz.ntmps40
    go_wp2_with (go_at_call 75; refine HI.out.mono ?_; rintro e w' ⟨rfl, rfl⟩)
    go_ret3
    exact cutP HF.out.symm HC.out.1.symm HC.out.2.symm (Below.refl _ _)
theorem cut_any (s : ByteArray) (c : UInt8) (w : World) (hs : s.size ≤ 281474976710656) : Calls Tryz.prog 18 #[.string s, .string ⟨#[c]⟩] w (CutP c s w) := by
  have HI := Lib.hid (lcut_any s c w hs)
  go_enter Tryz.func18, Tryz.ntmps18
  go_wp2_with (go_at_call 40; refine HI.out.mono ?_; rintro e w' ⟨a, b, rfl, ha, hb, h1, h2, h3⟩)
  go_ret3
  exact ⟨a, b, rfl, ha, hb, h1, h2, h3⟩
/-- a number, or none -/
def NumP (w : World) (r : Option Int) (e : Ending) (w' : World) : Prop := e = .returned (.tuple #[.int .i64 (r.getD 0), .bool r.isSome]) ∧ Below w.heap.size w w'
theorem numP {w w' : World} {r : Option Int} {n : Int} {b : Bool} (hn : n = r.getD 0) (hb : b = r.isSome) (h : Below w.heap.size w w') : NumP w r (.returned (.tuple #[.int .i64 n, .bool b])) w' := by subst hn hb; exact ⟨rfl, h⟩
theorem int_none {s : ByteArray} {w : World} (hs : s.size ≤ 281474976710656) (hE : Env w) (h : intT s.data.toList = none) : Calls Tryz.prog 39 #[.string s] w fun e w' => e = .returned (.tuple #[.int .i64 0, .int .i64 2]) ∧ Below w.heap.size w w' := by
  have := int_any s w hs hE
  rw [h] at this
  exact this
theorem int_some {s : ByteArray} {w : World} {n : Int} (hs : s.size ≤ 281474976710656) (hE : Env w) (h : intT s.data.toList = some n) : Calls Tryz.prog 39 #[.string s] w fun e w' => e = .returned (.tuple #[.int .i64 n, .int .i64 0]) ∧ Below w.heap.size w w' := by
  have := int_any s w hs hE
  rw [h] at this
  exact this
set_option maxHeartbeats 800000 in
theorem number_any (s : ByteArray) (most : Int) (w : World) (hs : s.size ≤ 281474976710656) (hE : Env w) : Calls Tryz.prog 76 #[.string s, .int .i64 most] w (NumP w (numberV s.data.toList (most + 1))) := by
  cases hi : intT s.data.toList with
  | none =>
    have HI := Lib.hid (int_none hs hE hi)
    have HR : Hid (numberV s.data.toList (most + 1) = none) := Lib.hid (by unfold numberV; rw [hi])
    clear hi hE
    rw [HR.out]
    go_enter Tryz.func76, Tryz.ntmps76
    go_wp2_with (go_at_call 39; refine HI.out.mono ?_; rintro e w' ⟨rfl, hb⟩)
    go_ret2
    exact numP rfl rfl hb
  | some n =>
    have HI := Lib.hid (int_some hs hE hi)
    by_cases h1 : n < 1
    · have HR : Hid (numberV s.data.toList (most + 1) = none) := Lib.hid (by unfold numberV; rw [hi]; simp only; rw [if_neg (by omega)])
      clear hi hE
      rw [HR.out]
      go_enter Tryz.func76, Tryz.ntmps76
      go_wp2_with (go_at_call 39; refine HI.out.mono ?_; rintro e w' ⟨rfl, hb⟩)
      go_ret2
      exact numP rfl rfl hb
    · by_cases h2 : most < n
      · have HR : Hid (numberV s.data.toList (most + 1) = none) := Lib.hid (by unfold numberV; rw [hi]; simp only; rw [if_neg (by omega)])
        clear hi hE
        rw [HR.out]
        go_enter Tryz.func76, Tryz.ntmps76
        go_wp2_with (go_at_call 39; refine HI.out.mono ?_; rintro e w' ⟨rfl, hb⟩)
        go_ret2
        exact numP rfl rfl hb
      · have HR : Hid (numberV s.data.toList (most + 1) = some n) := Lib.hid (by unfold numberV; rw [hi]; simp only; rw [if_pos (by omega)])
        clear hi hE
        rw [HR.out]
        go_enter Tryz.func76, Tryz.ntmps76
        go_wp2_with (go_at_call 39; refine HI.out.mono ?_; rintro e w' ⟨rfl, hb⟩)
        go_ret2
        exact numP rfl rfl hb
/-- a word in memory of its own, or none -/
def WordP (w : World) (s : ByteArray) (e : Ending) (w' : World) : Prop := e = .returned (.tuple #[.string (if wordL s.data.toList = true then s else ⟨#[]⟩), .bool (wordL s.data.toList)]) ∧ Below w.heap.size w w'
theorem wpList_convS {w w' : World} {ops : Array Oper} {rest : List Oper} {o : Oper} {a : Act} {Q : Exit → Act → World → Prop} (hgd : o.guard = none) {src dst : TypeId} (x : Operand) (ho : o.op = .convert src dst x)
    {v v' : Value} (hx : a.eval x = v) (hr : (convert src dst v).run Tryz.prog w = .ok v' w') (h : wpList Tryz.prog ops Q rest (a.put o.dst v') w') : wpList Tryz.prog ops Q (o :: rest) a w :=
  wpList_plain hgd fun K hK => by
    unfold Oper.wp execOp
    simp only [ho, hx, Sem.run_bind, Sem.run_pure, Result.andThen_ok, hr]
    exact hK _ _ h
theorem ba_listS (s : ByteArray) : (⟨s.data.toList.toArray⟩ : ByteArray) = s := by apply ByteArray.ext; simp
set_option maxHeartbeats 800000 in
theorem wordS_any (s : ByteArray) (w : World) (hs : s.size ≤ 140737488355328) : Calls Tryz.prog 83 #[.string s] w (WordP w s) := by
  have HW := Lib.hid (word_any s w (by unfold maxLen; omega))
  unfold wordB at HW
  unfold WordP
  cases hb : wordL s.data.toList with
  | false =>
    rw [hb] at HW
    clear hb
    go_enter Tryz.func83, Tryz.ntmps83
    go_wp2_with (go_at_call 64; refine HW.out.mono ?_; rintro e w' ⟨rfl, rfl⟩)
    go_ret2
    exact ⟨rfl, Below.refl _ _⟩
  | true =>
    rw [hb] at HW
    clear hb
    rw [if_pos rfl]
    obtain ⟨v, w1, hr1, ho1, hb1⟩ := conv_bytes w s hs
    have hr2 := conv_F ho1
    rw [ba_listS] at hr2
    have HR1 := Lib.hid hr1
    have HR2 := Lib.hid hr2
    have HB1 := Lib.hid hb1
    clear hr1 hr2 ho1 hb1 hs
    go_enter Tryz.func83, Tryz.ntmps83
    go_wp2_with (first | (go_at_call 64; refine HW.out.mono ?_; rintro e w' ⟨rfl, rfl⟩) | ((with_reducible show wpList _ _ _ (Oper.mk _ (Op.convert 9 63 _) _ _ _ _ :: _) _ _); go_must (refine wpList_convS rfl _ rfl rfl HR1.out ?_)) | ((with_reducible show wpList _ _ _ (Oper.mk _ (Op.convert 63 9 _) _ _ _ _ :: _) _ _); go_must (refine wpList_convS rfl _ rfl rfl HR2.out ?_)))
    go_ret2
    exact ⟨rfl, HB1.out⟩
end Go.Proofs.YtjjlofaejpnnnaaGreatDoor
namespace Go.Proofs.YtjjlofaejpnnnaaGreatDoor
open Go Go.RowKit
set_option linter.unusedVariables false
theorem bytesOf_list (l : List UInt8) : (bytesOf l).data.toList = l := rfl
/-- a line taken: what is read still hangs together -/
theorem line_step {st st' : RS} {l : List UInt8} (h0 : st.next = 0 → st.nds = []) (h1 : st.next ≠ 0 → RsOk st ∧ RsTree st) (h : takesV st l = some st') : st'.next ≠ 0 ∧ RsOk st' ∧ RsTree st' ∧ idsOf st <+: idsOf st' := by
  have hok : RsOk st' := line_ok (fun h => (h1 h).1) (by rw [← takesV_line]; exact h)
  have hn : st'.next ≠ 0 := by have := hok.n1; omega
  have e : takesV st (bytesOf l).data.toList = some st' := h
  by_cases hz : st.next = 0
  · obtain ⟨_, ht⟩ := line_first hz e
    refine ⟨hn, hok, ht, ?_⟩
    unfold idsOf
    rw [h0 hz]
    exact List.nil_prefix
  · obtain ⟨ht, hi⟩ := line_told (h1 hz).1 (h1 hz).2 hz e
    refine ⟨hn, hok, ht, ?_⟩
    rcases hi with ⟨h2, _⟩ | ⟨h2, _⟩
    · rw [h2]; exact List.prefix_append _ _
    · rw [h2]; exact List.prefix_refl _
theorem lines_fin : ∀ (f : Nat) (st : RS) (c : Nat) (l : List UInt8) (fin : RS), (st.next = 0 → st.nds = []) → (st.next ≠ 0 → RsOk st ∧ RsTree st) → linesV f st c l = .inl fin → fin.next ≠ 0 ∧ RsOk fin ∧ RsTree fin ∧ idsOf st <+: idsOf fin
  | 0, _, _, _, _, _, _, h => by cases h
  | f + 1, st, c, l, fin, h0, h1, h => by
    have e : linesV (f + 1) st c l = match takesV st (cutA 10 l), l.drop (cutA 10 l).length with
      | some st', _ :: rest => if rest = [] then .inl st' else linesV f st' (c + 1) rest
      | _, _ => .inr (c + 1) := rfl
    rw [e] at h
    cases ht : takesV st (cutA 10 l) with
    | none => rw [ht] at h; cases h
    | some st' =>
      rw [ht] at h
      cases hd : l.drop (cutA 10 l).length with
      | nil => rw [hd] at h; cases h
      | cons x rest =>
        rw [hd] at h
        simp only at h
        obtain ⟨a1, a2, a3, a4⟩ := line_step h0 h1 ht
        split at h
        · obtain rfl := Sum.inl.inj h
          exact ⟨a1, a2, a3, a4⟩
        · obtain ⟨b1, b2, b3, b4⟩ := lines_fin f st' (c + 1) rest fin (fun h => absurd h a1) (fun _ => ⟨a2, a3⟩) h
          exact ⟨b1, b2, b3, a4.trans b4⟩
/-- what is read, whole -/
theorem read_fin {l : List UInt8} {f : Nat} {fin : RS} (h : linesV f ⟨0, [], []⟩ 0 l = .inl fin) : fin.next ≠ 0 ∧ RsOk fin ∧ RsTree fin := by
  obtain ⟨h1, h2, h3, _⟩ := lines_fin f _ 0 l fin (fun _ => rfl) (fun h => absurd rfl h) h
  exact ⟨h1, h2, h3⟩
/-- ahead of a line: how many numbers have been told -/
structure OrdS (s : ByteArray) (fr c at_ : Nat) (st : RS) : Prop where
  left : LeftU (s.data.toList.length + 1) s fr c st
  zero : c = 0 → st.next = 0 ∧ st.nds = [] ∧ fr = 0
  pos : 1 ≤ c → st.next ≠ 0 ∧ RsOk st ∧ RsTree st
  at_ : at_ = st.nds.length
section
variable {s : ByteArray} {fr c a i : Nat} {st fin : RS}
theorem OrdS.start (s : ByteArray) : OrdS s 0 0 0 ⟨0, [], []⟩ := ⟨LeftU.start s, fun _ => ⟨rfl, rfl, rfl⟩, fun h => by omega, rfl⟩
theorem OrdS.h0 (h : OrdS s fr c a st) : st.next = 0 → st.nds = [] := fun hz => by
  rcases Nat.eq_zero_or_pos c with h1 | h1
  · exact (h.zero h1).2.1
  · exact absurd hz (h.pos h1).1
theorem OrdS.h1 (h : OrdS s fr c a st) : st.next ≠ 0 → RsOk st ∧ RsTree st := fun hz => by
  rcases Nat.eq_zero_or_pos c with h1 | h1
  · exact absurd (h.zero h1).1 hz
  · exact (h.pos h1).2
theorem OrdS.pre (h : OrdS s fr c a st) (hfin : linesV (s.data.toList.length + 1) ⟨0, [], []⟩ 0 s.data.toList = .inl fin) : idsOf st <+: idsOf fin := by
  by_cases hgo : fr < s.size ∨ c = 0
  · obtain ⟨f, _, hL⟩ := h.left.go hgo
    rw [hfin] at hL
    exact (lines_fin f st c _ fin h.h0 h.h1 hL.symm).2.2.2
  · have := h.left.done hgo
    rw [hfin] at this
    obtain rfl := Sum.inl.inj this
    exact List.prefix_refl _
/-- a line's end -/
theorem OrdS.line (h : OrdS s fr c a st) (hfin : linesV (s.data.toList.length + 1) ⟨0, [], []⟩ 0 s.data.toList = .inl fin) (he : fr + (cutA 10 (s.data.toList.drop fr)).length = i) (hi : i < s.size) (hfr : fr ≤ i) :
    (c = 0 ∧ ∃ st', OrdS s (i + 1) (c + 1) a st') ∨ (1 ≤ c ∧ toldN (s.extract fr i).data.toList = 0 ∧ ∃ st', OrdS s (i + 1) (c + 1) a st') ∨ (1 ≤ c ∧ 1 ≤ toldN (s.extract fr i).data.toList ∧ a < (idsOf fin).length ∧ (idsOf fin)[a]? = some (toldN (s.extract fr i).data.toList) ∧ ∃ st', OrdS s (i + 1) (c + 1) (a + 1) st') := by
  have hgo : fr < s.size ∨ c = 0 := .inl (by omega)
  cases ht : takesV st (s.extract fr i).data.toList with
  | none =>
    have := h.left.no hgo he (by omega) (.inl ht)
    rw [hfin] at this; cases this
  | some st' =>
    have hL := h.left.next hgo he hi ht
    obtain ⟨a1, a2, a3, _⟩ := line_step h.h0 h.h1 ht
    rcases Nat.eq_zero_or_pos c with hc | hc
    · obtain ⟨z1, z2, _⟩ := h.zero hc
      obtain ⟨b1, _⟩ := line_first z1 ht
      exact .inl ⟨hc, st', hL, fun hx => by omega, fun _ => ⟨a1, a2, a3⟩, by rw [h.at_, z2, b1]⟩
    · obtain ⟨p1, p2, p3⟩ := h.pos hc
      obtain ⟨_, hi2⟩ := line_told p2 p3 p1 ht
      have hlen : ∀ (x : RS), (idsOf x).length = x.nds.length := fun x => by unfold idsOf; rw [List.length_map]
      rcases hi2 with ⟨h2, h3⟩ | ⟨h2, h3⟩
      · have hO : OrdS s (i + 1) (c + 1) (a + 1) st' := ⟨hL, fun hx => by omega, fun _ => ⟨a1, a2, a3⟩, by
          have := congrArg List.length h2
          rw [List.length_append, hlen, hlen] at this
          rw [h.at_, this]; rfl⟩
        have hp := hO.pre hfin
        rw [h2] at hp
        obtain ⟨t, ht2⟩ := hp
        have ha : a = (idsOf st).length := by rw [hlen]; exact h.at_
        refine .inr (.inr ⟨hc, h3, ?_, ?_, st', hO⟩)
        · rw [← ht2, ha]; simp
        · rw [← ht2, ha]; simp
      · refine .inr (.inl ⟨hc, h3, st', hL, fun hx => by omega, fun _ => ⟨a1, a2, a3⟩, ?_⟩)
        have := congrArg List.length h2
        rw [hlen, hlen] at this
        rw [h.at_, this]
end
end Go.Proofs.YtjjlofaejpnnnaaGreatDoor
namespace Go.Proofs.YtjjlofaejpnnnaaGreatDoor
open Go Go.RowKit
set_option linter.unusedVariables false
/-- Q, but K where the region goes on -/
def tailQ (Q : Exit → Act → World → Prop) (K : Act → World → Prop) : Exit → Act → World → Prop
  | .normal, a, w => K a w
  | e, a, w => Q e a w
section
variable {P : Program} {Q : Exit → Act → World → Prop} {K : Act → World → Prop} {md : Region.Mode} {S : World → Prop}
theorem lets_tail (h : LetsOut (tailQ Q K)) : LetsOut Q := h
theorem oper_tail {o : Oper} {a : Act} {w : World} {next : Act → World → Prop} (h : Oper.wp P o a w next (tailQ Q K)) : Oper.wp P o a w next Q := by
  unfold Oper.wp at *
  generalize (execOp a.eval o).run P w = r at *
  cases r with
  | ok n w' =>
    cases n <;> simp only [Oper.upon] at h ⊢ <;>
      first
        | exact h
        | exact Calls.mono h (fun e w'' he => by cases e <;> exact he)
  | halt x w' => cases x <;> simp only [Oper.upon] at h ⊢ <;> exact h
/-- each operation ahead of number n is asked for whatever comes, and waits for earlier ones alone -/
def aheadB (md : Region.Mode) (ops : Array Oper) (n : Nat) : Bool :=
  (List.range n).all fun j => match ops[j]? with
    | some o => o.guard.isNone && o.after.all fun e => !Region.binds md e || decide (e.on < j)
    | none => false
theorem aheadB_spec {ops : Array Oper} {n : Nat} (h : aheadB md ops n = true) {j : Nat} (hj : j < n) : ∃ o, ops[j]? = some o ∧ o.guard = none ∧ ∀ e ∈ o.after, Region.binds md e = true → e.on < j := by
  have h1 := List.all_eq_true.1 h j (List.mem_range.2 hj)
  cases ho : ops[j]? with
  | none => simp [ho] at h1
  | some o =>
    rw [ho] at h1
    simp only [Bool.and_eq_true, Option.isNone_iff_eq_none] at h1
    refine ⟨o, rfl, h1.1, fun e he hb => ?_⟩
    have := Array.all_eq_true_iff_forall_mem.1 h1.2 e he
    rw [hb] at this
    simpa using this
theorem wpAny_more {ops : Array Oper} {listed : Array Bool} : ∀ (f : Nat) (listed : Array Bool) (a : Act) (w : World), wpAny P md ops Q f listed a w → wpAny P md ops Q (f + 1) listed a w
  | 0, _, _, _, h => ⟨fun _ => h.2, fun i hi => by rw [h.1] at hi; cases hi⟩
  | f + 1, _, _, _, h => ⟨h.1, fun i hi => wpOp_mono (fun a' w' h' => wpAny_more (listed := listed) f _ a' w' h') (h.2 i hi)⟩
theorem wpAny_more' {ops : Array Oper} {listed : Array Bool} {a : Act} {w : World} {g : Nat} (h : wpAny P md ops Q g listed a w) : ∀ f, wpAny P md ops Q (f + g) listed a w
  | 0 => by rw [Nat.zero_add]; exact h
  | f + 1 => by rw [show f + 1 + g = (f + g) + 1 from by omega]; exact wpAny_more (listed := listed) _ _ _ _ (wpAny_more' h f)
variable {hops : Array Oper} {ops : Array Oper} {n g : Nat}
theorem getD_app {L R : Array Bool} {j : Nat} {d : Bool} (hj : j < L.size) : (L ++ R).getD j d = L.getD j d := by
  simp [Array.getD_eq_getD_getElem?, Array.getElem?_append_left hj]
theorem ready_head (hs : hops.size = n) (hh : ∀ j, j < n → hops[j]? = ops[j]?) (hB : aheadB md ops n = true) {L R : Array Bool} (hL : L.size = n) {j : Nat} (hj : j < n) :
    j ∈ Region.ready md ops (L ++ R) ↔ j ∈ Region.ready md hops L := by
  rw [mem_ready, mem_ready, hh j hj, getD_app (by omega)]
  obtain ⟨o, ho, _, hd⟩ := aheadB_spec hB hj
  refine and_congr_right fun _ => ?_
  refine exists_congr fun o' => and_congr_right fun ho' => forall_congr' fun e => forall_congr' fun he => forall_congr' fun hb => ?_
  have : o' = o := Option.some.inj (ho'.symm.trans ho)
  subst this
  rw [getD_app (by have := hd e he hb; omega)]
theorem some_ready (hs : hops.size = n) (hh : ∀ j, j < n → hops[j]? = ops[j]?) (hB : aheadB md ops n = true) {L : Array Bool} (hL : L.size = n) : ∀ (j : Nat), j < n → L.getD j true = false → ∃ i, i < n ∧ i ∈ Region.ready md hops L := by
  intro j
  induction j using Nat.strongRecOn with
  | _ j ih =>
    intro hj hun
    obtain ⟨o, ho, _, hd⟩ := aheadB_spec hB hj
    by_cases h : ∃ e ∈ o.after, Region.binds md e = true ∧ L.getD e.on false = false
    · obtain ⟨e, he, hb, hl⟩ := h
      have hlt := hd e he hb
      exact ih e.on hlt (by omega) (getD_in (by omega) hl)
    · refine ⟨j, hj, mem_ready.2 ⟨hun, o, by rw [hh j hj]; exact ho, fun e he hb => ?_⟩⟩
      cases hl : L.getD e.on false with
      | true => rfl
      | false => exact absurd ⟨e, he, hb, hl⟩ h
theorem op_head (hh : ∀ j, j < n → hops[j]? = ops[j]?) (hB : aheadB md ops n = true) {i : Nat} (hi : i < n) {K1 K2 : Act → World → Prop} {a : Act} {w : World} (hK : ∀ a w, K1 a w → K2 a w)
    (h : wpOp P hops (tailQ Q K) i K1 a w) : wpOp P ops Q i K2 a w := by
  obtain ⟨o, ho, hg, _⟩ := aheadB_spec hB hi
  unfold wpOp at *
  rw [hh i hi] at h
  simp only [ho] at h ⊢
  have hw : ∀ y, Region.wanted o y = true := fun y => by simp [Region.wanted, hg]
  rw [hw, if_pos rfl] at h ⊢
  exact h.imp (fun h => oper_tail (Oper.wp_mono hK h)) (fun h => ⟨h.1, lets_tail h.2⟩)
theorem head_tail {l : List Oper} (hs : hops.size = n) (hh : ∀ j, j < n → hops[j]? = ops[j]?) (hB : aheadB md ops n = true) (hsk : Region.sinkB md ops n = true) (hch : Region.chainB md ops n = true) (hn : n < ops.size)
    (hl : ∀ j, l[j]? = ops[n + j]?) (hseq : Region.seqB md ops l.length n (Array.replicate n true ++ Array.replicate l.length false) = true) (hsize : ops.size = n + l.length) :
    ∀ (fuel : Nat) (L : Array Bool) (a : Act) (w : World), L.size = n → HeadInv md ops n (L ++ Array.replicate l.length false) →
      wpAnyH P md hops (tailQ Q (wpList P ops Q l)) S fuel L a w → wpAny P md ops Q (fuel + l.length) (L ++ Array.replicate l.length false) a w := by
  intro fuel
  induction fuel with
  | zero =>
    intro L a w hL inv h
    have hall : ∀ j, j < n → L.getD j true = true := fun j hj => by
      cases hx : L.getD j true with
      | true => rfl
      | false =>
        obtain ⟨i, _, hi⟩ := some_ready hs hh hB hL j hj hx
        rw [h.1] at hi; cases hi
    have hLe : L = Array.replicate n true := by
      refine Array.ext (by simp [hL]) fun j h1 h2 => ?_
      have := hall j (by omega)
      rw [Array.getElem_replicate]
      simpa [h1] using this
    rw [Nat.zero_add, hLe]
    exact wpAny_of_seq l n _ a w hl hseq h.2
  | succ fuel ih =>
    intro L a w hL inv h
    by_cases hun : ∃ j, j < n ∧ L.getD j true = false
    · obtain ⟨j, hj, hx⟩ := hun
      obtain ⟨i, hin, hi⟩ := some_ready hs hh hB hL j hj hx
      have hif := (ready_head (R := Array.replicate l.length false) hs hh hB hL hin).2 hi
      rw [show fuel + 1 + l.length = (fuel + l.length) + 1 from by omega]
      refine ⟨fun h0 => (by rw [h0] at hif; cases hif), fun k hk => ?_⟩
      have hkn : k < n := by
        rcases Nat.lt_or_ge k n with h | h
        · exact h
        · exact absurd hk (tail_waits hsk hch hn inv _ j rfl hj (by rw [getD_app (by omega)]; exact hx) k h)
      have hkh := (ready_head hs hh hB hL hkn).1 hk
      refine op_head hh hB hkn (fun a' w' h' => ?_) (h.2 k hkh)
      have e : (L ++ Array.replicate l.length false).setIfInBounds k true = L.setIfInBounds k true ++ Array.replicate l.length false := by
        rw [Array.setIfInBounds_append_left (by omega)]
      rw [e]
      exact ih _ a' w' (by simpa using hL) (by rw [← e]; exact inv.set hk hkn) h'.2
    · have hall : ∀ j, j < n → L.getD j true = true := fun j hj => by
        cases hx : L.getD j true with
        | true => rfl
        | false => exact absurd ⟨j, hj, hx⟩ hun
      have hLe : L = Array.replicate n true := by
        refine Array.ext (by simp [hL]) fun j h1 h2 => ?_
        have := hall j (by omega)
        rw [Array.getElem_replicate]
        simpa [h1] using this
      have hr0 : Region.ready md hops L = [] := by
        rcases hx : Region.ready md hops L with _ | ⟨i, rs⟩
        · rfl
        · have hi : i ∈ Region.ready md hops L := by rw [hx]; exact List.mem_cons_self
          obtain ⟨h1, o, ho, _⟩ := mem_ready.1 hi
          have hin : i < n := by rw [← hs]; exact (Array.getElem?_eq_some_iff.1 ho).1
          rw [hall i hin] at h1; cases h1
      refine wpAny_more' ?_ (fuel + 1)
      rw [hLe]
      exact wpAny_of_seq l n _ a w hl hseq (h.1 hr0)
/-- what the kernel looks at -/
def tailB (ops : Array Oper) (n : Nat) : Bool :=
  aheadB .any ops n && Region.sinkB .any ops n && Region.chainB .any ops n && decide (n < ops.size) && Region.seqB .any ops (ops.size - n) n (Array.replicate n true ++ Array.replicate (ops.size - n) false)
/-- **the beginning**: n operations in whatever order, under S; then the others as they stand -/
theorem wp_region_held_tail {id : Nat} {a : Act} {w : World} {l : List Oper} (n : Nat) (S : World → Prop) (hm : P.follows .mixedOrders = true) (hB : tailB l.toArray n = true) (hS : S w.drew)
    (h : S w.drew → wpAnyH P .any (l.take n).toArray (tailQ Q (wpList P l.toArray Q (l.drop n))) S n (Array.replicate n false) a w.drew) : (Code.region id l.toArray true).wp P Q a w := by
  simp only [tailB, Bool.and_eq_true, decide_eq_true_eq] at hB
  obtain ⟨⟨⟨⟨h1, h2⟩, h3⟩, h4⟩, h5⟩ := hB
  have hn : n < l.length := by simpa using h4
  have hdl : l.toArray.size - n = (l.drop n).length := by simp
  have hsz : l.toArray.size = n + (l.drop n).length := by simp; omega
  refine wp_region_any hm ?_
  have := head_tail (P := P) (Q := Q) (S := S) (hops := (l.take n).toArray) (ops := l.toArray) (n := n) (md := .any) (l := l.drop n) (by simp; omega) (fun j hj => by simp [hj]) h1 h2 h3 h4 (fun j => by simp [List.getElem?_drop]) (by rw [← hdl]; exact h5) hsz
    n (Array.replicate n false) a w.drew (by simp) ?_ (h hS)
  · rw [← hsz] at this
    have e : Array.replicate n false ++ Array.replicate (l.drop n).length false = Array.replicate l.toArray.size false := by
      rw [Array.replicate_append_replicate, ← hsz]
    rw [e] at this
    exact this
  · refine ⟨by simp; omega, fun j oj _ hl => ?_, fun t ht ht' => ?_⟩
    · rw [Array.replicate_append_replicate, getD_replicate_false] at hl; cases hl
    · rw [Array.replicate_append_replicate]
      exact getD_in (by rw [← hsz]; simpa using ht') (getD_replicate_false _ _)
end
end Go.Proofs.YtjjlofaejpnnnaaGreatDoor
namespace Go.Proofs.YtjjlofaejpnnnaaGreatDoor
open Go Go.RowKit Go.Sort
set_option linter.unusedVariables false
attribute [local go_sem ↓] Go.wp_at_zero Go.wp_at_succ
/-- numbers in memory that is left alone: it was there at w0, and is not the block g0 -/
def RowF (w0 : World) (g0 : Nat) (A : Option Addr) (n c : Nat) (ids : List Int) : Prop :=
  ids.length = n ∧ n ≤ c ∧ c ≤ maxLen ∧ (0 < n → ∃ b o, A = some ⟨b, o, none⟩ ∧ b < w0.heap.size ∧ b ≠ g0 ∧ ∀ j u, (intCells ids)[j]? = some u → w0.cell? ⟨b, o + j, none⟩ = some u)
theorem RowF.of {w0 : World} {g0 lo hi n c : Nat} {A : Option Addr} {ids : List Int} (h : Row w0 lo hi 1 A n c (intCells ids)) (hh : hi ≤ w0.heap.size) (hg : g0 < lo ∨ hi ≤ g0) : RowF w0 g0 A n c ids := by
  refine ⟨by have := h.1; rw [intCells_length] at this; omega, h.2.1, h.2.2.1, fun hn => ?_⟩
  obtain ⟨b, o, e, h1, h2, hc⟩ := h.2.2.2 hn
  exact ⟨b, o, e, by omega, by omega, hc⟩
/-- blocks of other types stay -/
def Keeps (X X' : World) : Prop := X.heap.size ≤ X'.heap.size ∧ ∀ g t cs, t ≠ 3 → t ≠ 40 → Blk X g t cs → Blk X' g t cs
theorem Keeps.of {X X' : World} (h : Below X.heap.size X X') : Keeps X X' := ⟨h.size, fun g t cs _ _ hb => hb.after h⟩
theorem Keeps.trans {X X' X'' : World} (h : Keeps X X') (h' : Keeps X' X'') : Keeps X X'' := ⟨Nat.le_trans h.1 h'.1, fun g t cs h1 h2 hb => h'.2 g t cs h1 h2 (h.2 g t cs h1 h2 hb)⟩
/-- a function value that is called at nodes: what holds of the world behind the nodes so far -/
structure Visit (w0 : World) (g0 M : Nat) (A : Option Addr) (nds : List Nd) (F : FuncId) (caps : Array Value) (Inv : World → List (Int × Nat) → Prop) : Prop where
  enters : ∀ args w, Sem.run Tryz.prog (callFunc F args) w = .ok (.enter F args) w
  grown : ∀ X l, Inv X l → w0.grownBy X (some g0)
  after : ∀ X X' l, Inv X l → Below X.heap.size X X' → Inv X' l
  call : ∀ X l (i : Nat) nd (d : Nat) b o, Inv X l → l.length < M → nds[i]? = some nd → A = some ⟨b, o, none⟩ → d ≤ 65 →
    Calls Tryz.prog F (#[.pointer (some ⟨b, o + i * 7, none⟩), .int .i64 d] ++ caps) X fun e X' => e = .returned (.tuple #[]) ∧ Inv X' (l ++ [(nd.id, d)]) ∧ Keeps X X'
/-- .. and the boxes of the walk -/
structure OV (next : Int) (A : Option Addr) (n c : Nat) (g1 g2 g3 : Nat) (F : FuncId) (caps : Array Value) (Inv : World → List (Int × Nat) → Prop) (l : List (Int × Nat)) (X : World) : Prop where
  inv : Inv X l
  m : Blk X g1 25 #[.int .i64 next, .slice A n c]
  v : Blk X g2 68 #[.func (.func F) #[] caps]
  d : Blk X g3 107 #[.func (.func 73) #[] #[.pointer (some ⟨g1, 0, none⟩), .pointer (some ⟨g2, 0, none⟩), .pointer (some ⟨g3, 0, none⟩)]]
section
variable {w0 : World} {g0 M : Nat} {A : Option Addr} {nds : List Nd} {F : FuncId} {caps : Array Value} {Inv : World → List (Int × Nat) → Prop} {next : Int} {n c g1 g2 g3 : Nat} {l : List (Int × Nat)} {X X' : World}
theorem OV.after (V : Visit w0 g0 M A nds F caps Inv) (h : OV next A n c g1 g2 g3 F caps Inv l X) (hb : Below X.heap.size X X') : OV next A n c g1 g2 g3 F caps Inv l X' :=
  ⟨V.after _ _ _ h.inv hb, h.m.after hb, h.v.after hb, h.d.after hb⟩
theorem OV.step {l' : List (Int × Nat)} (h : OV next A n c g1 g2 g3 F caps Inv l X) (hi : Inv X' l') (hk : Keeps X X') : OV next A n c g1 g2 g3 F caps Inv l' X' :=
  ⟨hi, hk.2 _ _ _ (by decide) (by decide) h.m, hk.2 _ _ _ (by decide) (by decide) h.v, hk.2 _ _ _ (by decide) (by decide) h.d⟩
end
end Go.Proofs.YtjjlofaejpnnnaaGreatDoor
namespace Go.Proofs.YtjjlofaejpnnnaaGreatDoor
open Go Go.RowKit Go.Sort
set_option linter.unusedVariables false
attribute [local go_sem ↓] Go.wp_at_zero Go.wp_at_succ
theorem propInfo : (Tryz.prog.info? 60).map (fun i => (i.zero, i.size, i.bytes)) = some (some (.agg #[.string ByteArray.empty, .string ByteArray.empty]), 2, 32) := by kernel_rfl
theorem refInfo : (Tryz.prog.info? 62).map (fun i => (i.zero, i.size, i.bytes)) = some (some (.agg #[.string ByteArray.empty, .int .i64 0]), 2, 24) := by kernel_rfl
theorem nodeInfo : (Tryz.prog.info? 55).map (fun i => (i.zero, i.size, i.bytes)) = some (some (.agg #[.int .i64 0, .string ByteArray.empty, .int .i64 0, .string ByteArray.empty, .slice none 0 0, .slice none 0 0, .slice none 0 0]), 7, 120) := by kernel_rfl
def markS : ByteArray := ⟨#[109, 97, 114, 107]⟩
/-- the slice s of n elements holds xs, and behind its end, in its room, the mark -/
def MarkIn (w : World) (B : Nat) (e : TypeId) (size : Nat) (s : Sl) (n : Nat) (xs mark : List Value) : Prop :=
  s.n = n ∧ s.A ≠ none ∧ w.ownsRow B e size (.slice s.A (n + 1) s.c) (n + 1) (xs ++ mark)
theorem MarkIn.after {w w' : World} {B : Nat} {e : TypeId} {size n : Nat} {s : Sl} {xs mark : List Value} (h : MarkIn w B e size s n xs mark) (hb : Below w.heap.size w w') : MarkIn w' B e size s n xs mark := ⟨h.1, h.2.1, own_after h.2.2 hb⟩
theorem MarkIn.other {w : World} {B : Nat} {e : TypeId} {size n : Nat} {s : Sl} {xs mark : List Value} (h : MarkIn w B e size s n xs mark) {g : Nat} {t : TypeId} {cs : Array Value} (hg : Blk w g t cs) (hne : e ≠ t) (i : Nat) (u : Value) : MarkIn (w.setCell ⟨g, i, none⟩ u) B e size s n xs mark := ⟨h.1, h.2.1, own_other h.2.2 hg hne i u⟩
theorem MarkIn.kept {w w' : World} {B : Nat} {e : TypeId} {size n : Nat} {s : Sl} {xs mark : List Value} (h : MarkIn w B e size s n xs mark) {row : Option Nat} (hg : w.grownBy w' row) (hne : Value.ownBlock (.slice s.A (n + 1) s.c) ≠ row) : MarkIn w' B e size s n xs mark := ⟨h.1, h.2.1, World.ownsRow.kept h.2.2 hg (.inr hne)⟩
theorem MarkIn.len {w : World} {B : Nat} {e : TypeId} {size n n' : Nat} {s : Sl} {xs mark : List Value} (h : MarkIn w B e size s n xs mark) (hn : n = n') : MarkIn w B e size s n' xs mark := hn ▸ h
theorem MarkIn.mono {w : World} {B B' : Nat} {e : TypeId} {size n : Nat} {s : Sl} {xs mark : List Value} (h : MarkIn w B e size s n xs mark) (hB : B' ≤ B) : MarkIn w B' e size s n xs mark := ⟨h.1, h.2.1, own_mono h.2.2 hB⟩
theorem MarkIn.ne {w : World} {B : Nat} {e : TypeId} {size n : Nat} {s : Sl} {xs mark : List Value} (h : MarkIn w B e size s n xs mark) {B' : Nat} {e' : TypeId} {size' n' : Nat} {v' : Value} {xs' : List Value} (h' : w.ownsRow B' e' size' v' n' xs') (hne : e ≠ e') : Value.ownBlock (.slice s.A (n + 1) s.c) ≠ v'.ownBlock := by
  rcases own_own_ne h.2.2 h' hne with h0 | h0
  · rcases h.2.2.2 with ⟨_, h1⟩ | ⟨g, cap, cur, hv, _⟩
    · omega
    · rw [hv] at h0; simp [Value.ownBlock] at h0
  · exact h0
structure LentLeaf (w : World) (B : Nat) (nd : Nd) (L : Leaf) : Prop where
  p : MarkIn w B 60 2 L.p nd.props.length (propCells nd.props) [.string markS, .string ⟨#[]⟩]
  k : MarkIn w B 3 1 L.k nd.kids.length (intCells nd.kids) [.int .i64 (-7)]
  r : MarkIn w B 62 2 L.r nd.refs.length (refCells nd.refs) [.string markS, .int .i64 0]
  sz : SzN nd
theorem LentLeaf.after {w w' : World} {B : Nat} {nd : Nd} {L : Leaf} (h : LentLeaf w B nd L) (hb : Below w.heap.size w w') : LentLeaf w' B nd L := ⟨h.p.after hb, h.k.after hb, h.r.after hb, h.sz⟩
theorem LentLeaf.other {w : World} {B : Nat} {nd : Nd} {L : Leaf} (h : LentLeaf w B nd L) {g : Nat} {t : TypeId} {cs : Array Value} (hg : Blk w g t cs) (h1 : 60 ≠ t) (h2 : 3 ≠ t) (h3 : 62 ≠ t) (i : Nat) (u : Value) : LentLeaf (w.setCell ⟨g, i, none⟩ u) B nd L := ⟨h.p.other hg h1 i u, h.k.other hg h2 i u, h.r.other hg h3 i u, h.sz⟩
theorem LentLeaf.kept {w w' : World} {B : Nat} {nd : Nd} {L : Leaf} (h : LentLeaf w B nd L) {B' : Nat} {size' n' : Nat} {v' : Value} {xs' : List Value} (h' : w.ownsRow B' 55 size' v' n' xs') (hg : w.grownBy w' v'.ownBlock) : LentLeaf w' B nd L :=
  ⟨h.p.kept hg (h.p.ne h' (by decide)), h.k.kept hg (h.k.ne h' (by decide)), h.r.kept hg (h.r.ne h' (by decide)), h.sz⟩
theorem Blk.drew {w : World} {g : Nat} {t : TypeId} {cs : Array Value} (h : Blk w g t cs) : Blk w.drew g t cs := h
theorem below_drew {B : Nat} {a w : World} (h : Below B a w) : Below B a w.drew := ⟨h.os, h.tape, h.output, h.size, h.block⟩
theorem below_more {W w' : World} (h : Below W.heap.size W w') (o : Obj) : Below W.heap.size W (w'.alloc o) := h.alloc h.size o
theorem below_grows {W w' w'' : World} (h : Below W.heap.size W w') {v : Value} (hg : w'.grownBy w'' v.ownBlock) {e : TypeId} {size n B : Nat} {xs : List Value} (hown : w'.ownsRow B e size v n xs) (hB : W.heap.size ≤ B) : Below W.heap.size W w'' :=
  h.grown hg h.size (fun k hk => Nat.le_trans hB (World.ownsRow.lt hown k hk).1)
/-- what holds in lent, but for the list that grows -/
structure LE (w : World) (next : Int) (A : Option Addr) (n c : Nat) (ov : Value) (l : List (Nd × Leaf)) (wr : World) : Prop where
  md : Blk wr w.heap.size 25 #[.int .i64 next, .slice A n c]
  rs : Blk wr (w.heap.size + 1) 25 #[.int .i64 0, .slice none 0 0]
  out : Blk wr (w.heap.size + 2) 25 #[.int .i64 next, ov]
  leaf : ∀ p ∈ l, LentLeaf wr w.heap.size p.1 p.2
  bel : Below w.heap.size w wr
/-- what holds in the loop of lent -/
structure LW (w : World) (next : Int) (A : Option Addr) (n c : Nat) (ov : Value) (l : List (Nd × Leaf)) (wr : World) : Prop where
  e : LE w next A n c ov l wr
  own : OwnN wr w.heap.size ov l
section
variable {w : World} {next : Int} {A : Option Addr} {n c : Nat} {ov : Value} {l : List (Nd × Leaf)} {X X' : World}
theorem LE.after (h : LE w next A n c ov l X) (hb : Below X.heap.size X X') : LE w next A n c ov l X' :=
  ⟨h.md.after hb, h.rs.after hb, h.out.after hb, fun p hp => (h.leaf p hp).after hb, h.bel.trans (hb.mono h.bel.size)⟩
theorem LW.after (h : LW w next A n c ov l X) (hb : Below X.heap.size X X') : LW w next A n c ov l X' := ⟨h.e.after hb, own_after h.own hb⟩
/-- the list has grown -/
theorem LE.kept (h : LE w next A n c ov l X) (hown : OwnN X w.heap.size ov l) (hg : X.grownBy X' ov.ownBlock) : LE w next A n c ov l X' :=
  ⟨h.md.grown hg (Ne.symm (own_blk_ne hown h.md (by decide))), h.rs.grown hg (Ne.symm (own_blk_ne hown h.rs (by decide))), h.out.grown hg (Ne.symm (own_blk_ne hown h.out (by decide))),
    fun p hp => (h.leaf p hp).kept hown hg, below_grows h.bel hg hown (Nat.le_refl _)⟩
theorem LE.out_set (h : LE w next A n c ov l X) (u : Value) : LE w next A n c u l (X.setCell ⟨w.heap.size + 2, 1, none⟩ u) :=
  ⟨h.md.far (by simp) u, h.rs.far (by simp) u, by simpa using h.out.set_ 1 u,
    fun p hp => (h.leaf p hp).other h.out (by decide) (by decide) (by decide) 1 u, h.bel.setCell (p := ⟨w.heap.size + 2, 1, none⟩) (by simp) u⟩
theorem LW.push {p : Nd × Leaf} {v' : Value} (h : LW w next A n c ov l X) (hg : X.grownBy X' ov.ownBlock) (hown : X'.ownsRow w.heap.size 55 7 v' (l.length + 1) (allCells l ++ ndCells p))
    (hp : LentLeaf X w.heap.size p.1 p.2) : LW w next A n c v' (l ++ [p]) (X'.setCell ⟨w.heap.size + 2, 1, none⟩ v') := by
  have h1 := h.e.kept h.own hg
  have h2 := hp.kept h.own hg
  have h3 := h1.out_set v'
  refine ⟨⟨h3.md, h3.rs, h3.out, fun q hq => ?_, h3.bel⟩, ?_⟩
  · rcases List.mem_append.1 hq with hq | hq
    · exact h3.leaf q hq
    · obtain rfl : q = p := by simpa using hq
      exact h2.other h1.out (by decide) (by decide) (by decide) 1 v'
  · have : OwnN X' w.heap.size v' (l ++ [p]) := by
      unfold OwnN
      have e : allCells (l ++ [p]) = allCells l ++ ndCells p := by simp [allCells]
      rw [e, List.length_append, List.length_singleton]
      exact hown
    exact own_other this h1.out (by decide) 1 v'
end
def markNd : List Value := [.int .i64 (-7), .string ByteArray.empty, .int .i64 0, .string ByteArray.empty, .slice none 0 0, .slice none 0 0, .slice none 0 0]
/-- a model lent: its nodes in own memory, with marks behind each row -/
structure LentAt (w : World) (B : Nat) (A : Option Addr) (n c : Nat) (nds : List Nd) (l : List (Nd × Leaf)) : Prop where
  nds_ : l.map (·.1) = nds
  len : l.length = n
  leaf : ∀ p ∈ l, LentLeaf w B p.1 p.2
  some_ : A ≠ none
  own : w.ownsRow B 55 7 (.slice A (n + 1) c) (n + 1) (allCells l ++ markNd)
  le : n + 1 ≤ c
  max : c ≤ maxLen
/-- the lists are no longer than a slice that was read can be -/
structure Fits (j : Nat) (nd : Nd) : Prop where
  p : (nd.props.length + j) * 32 ≤ 140737488355328
  k : (nd.kids.length + j) * 8 ≤ 140737488355328
  r : (nd.refs.length + j) * 24 ≤ 140737488355328
end Go.Proofs.YtjjlofaejpnnnaaGreatDoor
namespace Go.Proofs.YtjjlofaejpnnnaaGreatDoor
open Go Go.RowKit Go.Sort
set_option linter.unusedVariables false
attribute [local go_sem ↓] Go.wp_at_zero Go.wp_at_succ
theorem run_store_func' {P : Program} {w : World} {a : Addr} (f : Fn) (r : _) (caps : Array Value) (m : _) : (store a (.func f r caps) m).run P w = stored P w a (.func f r caps) m := run_store P w a _ m rfl
attribute [local go_sem] run_store_func'
end Go.Proofs.YtjjlofaejpnnnaaGreatDoor
namespace Go.Proofs.YtjjlofaejpnnnaaGreatDoor
open Go Go.RowKit Go.Sort
set_option linter.unusedVariables false
attribute [local go_sem ↓] Go.wp_at_zero Go.wp_at_succ
/-- a box with a list of numbers that grows -/
structure IE (w0 : World) (g0 : Nat) (ov : Value) (X : World) : Prop where
  gr : w0.grownBy X (some g0)
  bx : Blk X g0 40 #[ov]
structure IW (w0 : World) (g0 : Nat) (ov : Value) (r : List Int) (X : World) : Prop where
  e : IE w0 g0 ov X
  own : X.ownsRow w0.heap.size 3 1 ov r.length (intCells r)
def IdsInv (w0 : World) (g0 : Nat) (r : List Int) (X : World) : Prop := ∃ ov, IW w0 g0 ov r X
section
variable {w0 X X' : World} {g0 : Nat} {ov : Value} {r : List Int}
theorem own_base {w : World} {B size n : Nat} {e : TypeId} {v : Value} {xs : List Value} (h : w.ownsRow B e size v n xs) {g : Nat} (hg : v.ownBlock = some g) : B ≤ g := by
  rcases h.2 with ⟨rfl, _⟩ | ⟨g', cap, cur, rfl, hb, _⟩
  · simp [Value.ownBlock] at hg
  · have : g' = g := by simpa [Value.ownBlock] using hg
    omega
theorem IE.after (h : IE w0 g0 ov X) (hb : Below X.heap.size X X') : IE w0 g0 ov X' :=
  ⟨⟨hb.os.trans h.gr.os, hb.tape.trans h.gr.tape, hb.output.trans h.gr.output, Nat.le_trans h.gr.size hb.size, fun k hk hne => (hb.block k (Nat.lt_of_lt_of_le hk h.gr.size)).trans (h.gr.block k hk hne)⟩, h.bx.after hb⟩
theorem IW.after (h : IW w0 g0 ov r X) (hb : Below X.heap.size X X') : IW w0 g0 ov r X' := ⟨h.e.after hb, own_after h.own hb⟩
theorem IdsInv.after (h : IdsInv w0 g0 r X) (hb : Below X.heap.size X X') : IdsInv w0 g0 r X' := by
  obtain ⟨ov, h⟩ := h
  exact ⟨ov, h.after hb⟩
theorem IE.kept (h : IE w0 g0 ov X) (hown : X.ownsRow w0.heap.size 3 1 ov r.length (intCells r)) (hg : X.grownBy X' ov.ownBlock) : IE w0 g0 ov X' :=
  ⟨⟨hg.os.trans h.gr.os, hg.tape.trans h.gr.tape, hg.output.trans h.gr.output, Nat.le_trans h.gr.size hg.size, fun k hk hne =>
    (hg.block k (Nat.lt_of_lt_of_le hk h.gr.size) (fun e => by have := own_base hown e.symm; omega)).trans (h.gr.block k hk hne)⟩, h.bx.grown hg (Ne.symm (own_blk_ne hown h.bx (by decide)))⟩
theorem IW.push {x : Int} {v' : Value} (h : IW w0 g0 ov r X) (hg : X.grownBy X' ov.ownBlock) (hown : X'.ownsRow w0.heap.size 3 1 v' (r.length + 1) (intCells r ++ [.int .i64 x])) : IW w0 g0 v' (r ++ [x]) (X'.setCell ⟨g0, 0, none⟩ v') := by
  have h1 := h.e.kept h.own hg
  refine ⟨⟨only_set h1.gr 0 v', h1.bx.set_ 0 v'⟩, ?_⟩
  rw [List.length_append, List.length_singleton, show intCells (r ++ [x]) = intCells r ++ [.int .i64 x] from by simp [intCells]]
  exact own_other hown h1.bx (by decide) 0 v'
theorem IW.keeps {v' : Value} (h : IW w0 g0 ov r X) (hg : X.grownBy X' ov.ownBlock) : Keeps X (X'.setCell ⟨g0, 0, none⟩ v') := by
  have h1 := h.e.kept h.own hg
  refine ⟨by simpa [World.setCell] using hg.size, fun g t cs ht1 ht2 hb => ?_⟩
  have h2 := hb.grown hg (Ne.symm (own_blk_ne h.own hb (Ne.symm ht1)))
  exact h2.far (p := ⟨g0, 0, none⟩) (h2.ne_ h1.bx ht2) _
theorem IW.start {w : World} (hg : w.heap.size = g0) : IdsInv (w.alloc (.cells #[.slice none 0 0] 40)) g0 [] (w.alloc (.cells #[.slice none 0 0] 40)) :=
  ⟨.slice none 0 0, ⟨⟨World.grownBy.refl _ _, Blk.new' hg.symm⟩, ⟨rfl, .inl ⟨rfl, rfl⟩⟩⟩⟩
end
end Go.Proofs.YtjjlofaejpnnnaaGreatDoor
namespace Go.Proofs.YtjjlofaejpnnnaaGreatDoor
open Go Go.RowKit Go.Sort
set_option linter.unusedVariables false
theorem PW.far {w wr : World} {next : Int} {A : Option Addr} {n c : Nat} {nd : Nd} {L : Leaf} (h : PW w next A n c nd L wr) {g : Nat} (hg : w.heap.size + 1 < g) (i : Nat) (u : Value) : PW w next A n c nd L (wr.setCell ⟨g, i, none⟩ u) :=
  ⟨h.md.far (p := ⟨g, i, none⟩) (by show _ ≠ g; omega) u, h.nb.far (p := ⟨g, i, none⟩) (by show _ ≠ g; omega) u, Below.setCell' h.bel (by omega) u⟩
end Go.Proofs.YtjjlofaejpnnnaaGreatDoor

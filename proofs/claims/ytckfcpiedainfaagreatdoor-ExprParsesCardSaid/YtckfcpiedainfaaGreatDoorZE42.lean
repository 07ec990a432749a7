/-
  WALKS over the document's own answers: is a text a number; the token that a text is.
  WALKS over the document's own answers: begins, more.
-/
import Derived.Test.YtckfcpiedainfaaGreatDoorZE41
namespace Go.Proofs.YtckfcpiedainfaaGreatDoor
open Go Go.RowKit
set_option linter.unusedVariables false
def NumV (w : World) (v : Int) (b : Bool) (e : Ending) (w' : World) : Prop := e = .returned (.tuple #[.int .i64 v, .bool b]) ∧ w = w'
set_option maxHeartbeats 800000 in
theorem refNumber_any (s : ByteArray) (w : World) (hs : s.size ≤ maxLen) : Calls Tryz.prog 60 #[.string s] w (NumV w ((intT s.data.toList).getD 0) (numQ s.data.toList)) := by
  have H : Hid (Calls Tryz.prog 82 #[.string s] w (NumSame w (intT s.data.toList))) := Lib.hid (refInt_any s w hs)
  unfold numQ
  cases hi : intT s.data.toList with
  | none =>
    rw [hi] at H
    clear hi
    go_enter Tryz.func60, Tryz.ntmps60
    go_wp2_with (go_at_call 82; refine H.out.mono ?_; rintro e w' ⟨rfl, rfl⟩)
    go_ret2
    exact ⟨rfl, rfl⟩
  | some v =>
    rw [hi] at H
    clear hi
    by_cases h0 : 0 ≤ v
    · go_enter Tryz.func60, Tryz.ntmps60
      go_wp2_with (go_at_call 82; refine H.out.mono ?_; rintro e w' ⟨rfl, rfl⟩)
      go_ret2
      exact ⟨by simp [h0], rfl⟩
    · go_enter Tryz.func60, Tryz.ntmps60
      go_wp2_with (go_at_call 82; refine H.out.mono ?_; rintro e w' ⟨rfl, rfl⟩)
      go_ret2
      exact ⟨by simp [h0], rfl⟩
/-- the answer's box, behind whatever was called -/
structure WB (w Y : World) : Prop where
  res : Blk Y w.heap.size 80 tok0
  bel : Below w.heap.size w Y
theorem WB.start (w : World) : WB w (w.alloc (.cells #[.int .i64 0, .string ⟨#[]⟩, .int .i64 0, .int .i64 0] 80)) := ⟨Blk.new w _ _, (Below.refl _ _).alloc (Nat.le_refl _) _⟩
theorem WB.after {w Y Y' : World} (h : WB w Y) (hb : Below Y.heap.size Y Y') : WB w Y' := ⟨h.res.after hb, h.bel.trans (hb.mono h.bel.size)⟩
theorem WB.put {w Y : World} (h : WB w Y) (a : Int) (b : ByteArray) (c d : Int) :
    Blk (Y.setRow w.heap.size #[.int .i64 a, .string b, .int .i64 c, .int .i64 d]) w.heap.size 80 #[.int .i64 a, .string b, .int .i64 c, .int .i64 d]
    ∧ Below w.heap.size w (Y.setRow w.heap.size #[.int .i64 a, .string b, .int .i64 c, .int .i64 d]) :=
  ⟨setRow_heap _ _ _ _ _ _ h.res, below_setRow h.bel (Nat.le_refl _) _⟩
theorem results_row1 {fn : Func} {p u : Tmp} {ty : TypeId} (h : fn.results = #[.cell p ty, .tmp u]) (tmps : Array Value) (w : World) (g : Nat) (cs : Array Value)
    (hp : tmps.getD p undef = .pointer (some ⟨g, 0, none⟩)) (hl : (loadVar ty ⟨g, 0, none⟩).run Tryz.prog w = .ok (.agg cs) w) :
    (results fn tmps).run Tryz.prog w = .ok (.tuple #[.agg cs, tmps.getD u undef]) w := by
  have hp' : tmps[p]?.getD undef = .pointer (some ⟨g, 0, none⟩) := by simpa using hp
  simp [results, h, hp', asAddr, hl]
/-- the token that a text is, or another and no -/
def WholeP (w : World) (x : Option Tok) (e : Ending) (w' : World) : Prop :=
  Below w.heap.size w w' ∧ ∃ k : Tok, e = .returned (.tuple #[.agg #[.int .i64 k.kind, .string k.text, .int .i64 k.int, .int .i64 k.place], .bool x.isSome]) ∧ ∀ k', x = some k' → k' = k
def pickT (b : Bool) (k : Tok) : Option Tok := if b then some k else none
theorem wholeP {w w' : World} {x : Option Tok} {k : Tok} {b : Bool} (hx : x = pickT b k) (h : Below w.heap.size w w') : WholeP w x (.returned (.tuple #[.agg #[.int .i64 k.kind, .string k.text, .int .i64 k.int, .int .i64 k.place], .bool b])) w' := by
  subst hx
  refine ⟨h, k, by cases b <;> rfl, fun k' h => ?_⟩
  cases b
  · cases h
  · exact (Option.some.inj h).symm
set_option maxHeartbeats 1600000 in
theorem whole_num (s : ByteArray) (w : World) (hs : s.size ≤ maxLen) (hq : numQ s.data.toList = true) : Calls Tryz.prog 37 #[.string s] w (WholeP w (wholeR s.data.toList)) := by
  have HN : Hid (∀ Y, Calls Tryz.prog 60 #[.string s] Y (NumV Y ((intT s.data.toList).getD 0) true)) := Lib.hid fun Y => by rw [← hq]; exact refNumber_any s Y hs
  have HX : Hid (wholeR s.data.toList = pickT true ⟨1, ⟨#[]⟩, (intT s.data.toList).getD 0, 0⟩) := Lib.hid (by simp [wholeR, pickT, hq, ba])
  have W0 := Lib.hid (WB.start w)
  have hres : Tryz.f37.results = #[.cell 2 80, .tmp 3] := by kernel_rfl
  obtain ⟨V, hV⟩ : ∃ V, (intT s.data.toList).getD 0 = V := ⟨_, rfl⟩
  rw [hV] at HN HX
  clear hq hV
  go_enter Tryz.func37, Tryz.ntmps37
  go_wp2_with (first | (go_at_call 60; refine (HN.out _).mono ?_; rintro e w1 ⟨rfl, rfl⟩) | ((with_reducible show wpList _ _ _ (Oper.mk _ (Op.store 80 _ _) _ _ _ _ :: _) _ _); refine wpList_store_row rfl _ _ _ rfl w.heap.size _ rfl rfl 80 tok0 W0.out.res infoTok rfl (one_tok _ _ _ _) ?_))
  all_goals (try simp only [Act.put, Exit.inBlock, Exit.then])
  all_goals refine bodyPost_ret (results_row1 hres _ _ w.heap.size _ rfl (load_tok (W0.out.put _ _ _ _).1)) rfl ?_
  exact wholeP HX.out (W0.out.put _ _ _ _).2
set_option maxHeartbeats 1600000 in
theorem whole_word (s : ByteArray) (w : World) (hs : s.size ≤ maxLen) (hq : numQ s.data.toList = false) (hw : wordB s.data.toList = true) : Calls Tryz.prog 37 #[.string s] w (WholeP w (wholeR s.data.toList)) := by
  have HN : Hid (∀ Y, Calls Tryz.prog 60 #[.string s] Y (NumV Y ((intT s.data.toList).getD 0) false)) := Lib.hid fun Y => by rw [← hq]; exact refNumber_any s Y hs
  have HW : Hid (wordsL.contains s.data.toList = true) := Lib.hid hw
  have HX : Hid (wholeR s.data.toList = pickT true ⟨4, s, 0, 0⟩) := Lib.hid (by simp [wholeR, pickT, hq, hw, ba_list'])
  have W0 := Lib.hid (WB.start w)
  have hres : Tryz.f37.results = #[.cell 2 80, .tmp 3] := by kernel_rfl
  obtain ⟨V, hV⟩ : ∃ V, (intT s.data.toList).getD 0 = V := ⟨_, rfl⟩
  rw [hV] at HN
  clear hq hw hV
  go_enter Tryz.func37, Tryz.ntmps37
  go_wp2_with (first | (go_at_call 60; refine (HN.out _).mono ?_; rintro e w1 ⟨rfl, rfl⟩) | (go_at_call 64; refine (refWords_any _).mono ?_; rintro e w2 ⟨g2, rfl, hrow2, hb2⟩; have W2 := Lib.hid (W0.out.after hb2); have HR2 := Lib.hid hrow2; clear hrow2 hb2) | (go_at_call 63; (with_reducible refine (refIn_any _ _ _ _ _ wordsL s _ HR2.out HW.out).mono ?_); rintro e w3 ⟨rfl, rfl⟩) | ((with_reducible show wpList _ _ _ (Oper.mk _ (Op.store 80 _ _) _ _ _ _ :: _) _ _); refine wpList_store_row rfl _ _ _ rfl w.heap.size _ rfl rfl 80 tok0 W2.out.res infoTok rfl (one_tok _ _ _ _) ?_))
  all_goals (try simp only [Act.put, Exit.inBlock, Exit.then])
  all_goals refine bodyPost_ret (results_row1 hres _ _ w.heap.size _ rfl (load_tok (W2.out.put _ _ _ _).1)) rfl ?_
  exact wholeP HX.out (W2.out.put _ _ _ _).2
set_option maxHeartbeats 1600000 in
theorem whole_name (s : ByteArray) (w : World) (hs : s.size ≤ maxLen) (hq : numQ s.data.toList = false) (hw : wordB s.data.toList = false) (hr : right s.data.toList = true) : Calls Tryz.prog 37 #[.string s] w (WholeP w (wholeR s.data.toList)) := by
  have HN : Hid (∀ Y, Calls Tryz.prog 60 #[.string s] Y (NumV Y ((intT s.data.toList).getD 0) false)) := Lib.hid fun Y => by rw [← hq]; exact refNumber_any s Y hs
  have HW : Hid (wordsL.contains s.data.toList = false) := Lib.hid hw
  have HRI : Hid (∀ Y, Calls Tryz.prog 61 #[.string s] Y (Says Y true)) := Lib.hid fun Y => refRight_is s _ Y hs hr
  have HX : Hid (wholeR s.data.toList = pickT true ⟨3, s, 0, 0⟩) := Lib.hid (by simp [wholeR, pickT, hq, hw, hr, ba_list'])
  have W0 := Lib.hid (WB.start w)
  have hres : Tryz.f37.results = #[.cell 2 80, .tmp 3] := by kernel_rfl
  obtain ⟨V, hV⟩ : ∃ V, (intT s.data.toList).getD 0 = V := ⟨_, rfl⟩
  rw [hV] at HN
  clear hq hw hr hV
  go_enter Tryz.func37, Tryz.ntmps37
  go_wp2_with (first | (go_at_call 60; refine (HN.out _).mono ?_; rintro e w1 ⟨rfl, rfl⟩) | (go_at_call 64; refine (refWords_any _).mono ?_; rintro e w2 ⟨g2, rfl, hrow2, hb2⟩; have W2 := Lib.hid (W0.out.after hb2); have HR2 := Lib.hid hrow2; clear hrow2 hb2) | (go_at_call 63; (with_reducible refine (refIn_any _ _ _ _ _ wordsL s _ HR2.out HW.out).mono ?_); rintro e w3 ⟨rfl, rfl⟩) | (go_at_call 61; refine (HRI.out _).mono ?_; rintro e w4 ⟨rfl, rfl⟩) | ((with_reducible show wpList _ _ _ (Oper.mk _ (Op.store 80 _ _) _ _ _ _ :: _) _ _); refine wpList_store_row rfl _ _ _ rfl w.heap.size _ rfl rfl 80 tok0 W2.out.res infoTok rfl (one_tok _ _ _ _) ?_))
  all_goals (try simp only [Act.put, Exit.inBlock, Exit.then])
  all_goals refine bodyPost_ret (results_row1 hres _ _ w.heap.size _ rfl (load_tok (W2.out.put _ _ _ _).1)) rfl ?_
  exact wholeP HX.out (W2.out.put _ _ _ _).2
set_option maxHeartbeats 1600000 in
theorem whole_mark (s : ByteArray) (w : World) (hs : s.size ≤ maxLen) (hq : numQ s.data.toList = false) (hw : wordB s.data.toList = false) (hr : right s.data.toList = false) (hm : markB s.data.toList = true) : Calls Tryz.prog 37 #[.string s] w (WholeP w (wholeR s.data.toList)) := by
  have HN : Hid (∀ Y, Calls Tryz.prog 60 #[.string s] Y (NumV Y ((intT s.data.toList).getD 0) false)) := Lib.hid fun Y => by rw [← hq]; exact refNumber_any s Y hs
  have HW : Hid (wordsL.contains s.data.toList = false) := Lib.hid hw
  have HRI : Hid (∀ Y, Calls Tryz.prog 61 #[.string s] Y (Says Y false)) := Lib.hid fun Y => refRight_is s _ Y hs hr
  have HM : Hid (docMarks.contains s.data.toList = true) := Lib.hid (by rw [docMarks_has]; exact hm)
  have HX : Hid (wholeR s.data.toList = pickT true ⟨5, s, 0, 0⟩) := Lib.hid (by simp [wholeR, pickT, hq, hw, hr, hm, ba_list'])
  have W0 := Lib.hid (WB.start w)
  have hres : Tryz.f37.results = #[.cell 2 80, .tmp 3] := by kernel_rfl
  obtain ⟨V, hV⟩ : ∃ V, (intT s.data.toList).getD 0 = V := ⟨_, rfl⟩
  rw [hV] at HN
  clear hq hw hr hm hV
  go_enter Tryz.func37, Tryz.ntmps37
  go_wp2_with (first | (go_at_call 60; refine (HN.out _).mono ?_; rintro e w1 ⟨rfl, rfl⟩) | (go_at_call 64; refine (refWords_any _).mono ?_; rintro e w2 ⟨g2, rfl, hrow2, hb2⟩; have W2 := Lib.hid (W0.out.after hb2); have HR2 := Lib.hid hrow2; clear hrow2 hb2) | (go_at_call 62; refine (refMarks_any _).mono ?_; rintro e w5 ⟨g5, rfl, hrow5, hb5⟩; have W5 := Lib.hid (W2.out.after hb5); have HR5 := Lib.hid hrow5; clear hrow5 hb5) | (go_at_call 63; (with_reducible refine (refIn_any _ _ _ _ _ docMarks s _ HR5.out HM.out).mono ?_); rintro e w6 ⟨rfl, rfl⟩) | (go_at_call 63; (with_reducible refine (refIn_any _ _ _ _ _ wordsL s _ HR2.out HW.out).mono ?_); rintro e w3 ⟨rfl, rfl⟩) | (go_at_call 61; refine (HRI.out _).mono ?_; rintro e w4 ⟨rfl, rfl⟩) | ((with_reducible show wpList _ _ _ (Oper.mk _ (Op.store 80 _ _) _ _ _ _ :: _) _ _); refine wpList_store_row rfl _ _ _ rfl w.heap.size _ rfl rfl 80 tok0 W5.out.res infoTok rfl (one_tok _ _ _ _) ?_))
  all_goals (try simp only [Act.put, Exit.inBlock, Exit.then])
  all_goals refine bodyPost_ret (results_row1 hres _ _ w.heap.size _ rfl (load_tok (W5.out.put _ _ _ _).1)) rfl ?_
  exact wholeP HX.out (W5.out.put _ _ _ _).2
set_option maxHeartbeats 1600000 in
theorem whole_none (s : ByteArray) (w : World) (hs : s.size ≤ maxLen) (hq : numQ s.data.toList = false) (hw : wordB s.data.toList = false) (hr : right s.data.toList = false) (hm : markB s.data.toList = false) : Calls Tryz.prog 37 #[.string s] w (WholeP w (wholeR s.data.toList)) := by
  have HN : Hid (∀ Y, Calls Tryz.prog 60 #[.string s] Y (NumV Y ((intT s.data.toList).getD 0) false)) := Lib.hid fun Y => by rw [← hq]; exact refNumber_any s Y hs
  have HW : Hid (wordsL.contains s.data.toList = false) := Lib.hid hw
  have HRI : Hid (∀ Y, Calls Tryz.prog 61 #[.string s] Y (Says Y false)) := Lib.hid fun Y => refRight_is s _ Y hs hr
  have HM : Hid (docMarks.contains s.data.toList = false) := Lib.hid (by rw [docMarks_has]; exact hm)
  have HX : Hid (wholeR s.data.toList = pickT false ⟨5, s, 0, 0⟩) := Lib.hid (by simp [wholeR, pickT, hq, hw, hr, hm, ba_list'])
  have W0 := Lib.hid (WB.start w)
  have hres : Tryz.f37.results = #[.cell 2 80, .tmp 3] := by kernel_rfl
  obtain ⟨V, hV⟩ : ∃ V, (intT s.data.toList).getD 0 = V := ⟨_, rfl⟩
  rw [hV] at HN
  clear hq hw hr hm hV
  go_enter Tryz.func37, Tryz.ntmps37
  go_wp2_with (first | (go_at_call 60; refine (HN.out _).mono ?_; rintro e w1 ⟨rfl, rfl⟩) | (go_at_call 64; refine (refWords_any _).mono ?_; rintro e w2 ⟨g2, rfl, hrow2, hb2⟩; have W2 := Lib.hid (W0.out.after hb2); have HR2 := Lib.hid hrow2; clear hrow2 hb2) | (go_at_call 62; refine (refMarks_any _).mono ?_; rintro e w5 ⟨g5, rfl, hrow5, hb5⟩; have W5 := Lib.hid (W2.out.after hb5); have HR5 := Lib.hid hrow5; clear hrow5 hb5) | (go_at_call 63; (with_reducible refine (refIn_any _ _ _ _ _ docMarks s _ HR5.out HM.out).mono ?_); rintro e w6 ⟨rfl, rfl⟩) | (go_at_call 63; (with_reducible refine (refIn_any _ _ _ _ _ wordsL s _ HR2.out HW.out).mono ?_); rintro e w3 ⟨rfl, rfl⟩) | (go_at_call 61; refine (HRI.out _).mono ?_; rintro e w4 ⟨rfl, rfl⟩) | ((with_reducible show wpList _ _ _ (Oper.mk _ (Op.store 80 _ _) _ _ _ _ :: _) _ _); refine wpList_store_row rfl _ _ _ rfl w.heap.size _ rfl rfl 80 tok0 W5.out.res infoTok rfl (one_tok _ _ _ _) ?_))
  all_goals (try simp only [Act.put, Exit.inBlock, Exit.then])
  all_goals refine bodyPost_ret (results_row1 hres _ _ w.heap.size _ rfl (load_tok (W5.out.put _ _ _ _).1)) rfl ?_
  exact wholeP HX.out (W5.out.put _ _ _ _).2
theorem refWhole_any (s : ByteArray) (w : World) (hs : s.size ≤ maxLen) : Calls Tryz.prog 37 #[.string s] w (WholeP w (wholeR s.data.toList)) := by
  cases hq : numQ s.data.toList with
  | true => exact whole_num s w hs hq
  | false =>
    cases hw : wordB s.data.toList with
    | true => exact whole_word s w hs hq hw
    | false =>
      cases hr : right s.data.toList with
      | true => exact whole_name s w hs hq hw hr
      | false =>
        cases hm : markB s.data.toList with
        | true => exact whole_mark s w hs hq hw hr hm
        | false => exact whole_none s w hs hq hw hr hm
end Go.Proofs.YtckfcpiedainfaaGreatDoor
namespace Go.Proofs.YtckfcpiedainfaaGreatDoor
open Go Go.RowKit
set_option linter.unusedVariables false
theorem any_drop {L : List (List UInt8)} {k : Nat} {m : List UInt8} {p : List UInt8 → Bool} (hm : L[k]? = some m) : (L.drop k).any p = (p m || (L.drop (k + 1)).any p) := by
  obtain ⟨h, e⟩ := List.getElem?_eq_some_iff.1 hm
  rw [List.drop_eq_getElem_cons h, e, List.any_cons]
theorem prefix_long {s m : List UInt8} (h : m.length < s.length) : s.isPrefixOf m = false := by
  rw [Bool.eq_false_iff]
  intro hp
  have := (List.isPrefixOf_iff_prefix.1 hp).length_le
  omega
theorem prefix_take {s m : List UInt8} (h : s.length ≤ m.length) : s.isPrefixOf m = (m.take s.length == s) := by
  rw [Bool.eq_iff_iff, List.isPrefixOf_iff_prefix, List.prefix_iff_eq_take, beq_iff_eq]
  exact ⟨fun h => h.symm, fun h => h.symm⟩
set_option maxHeartbeats 3200000 in
theorem begins_marks (s : ByteArray) (w : World) (hs : s.size ≤ maxLen) (hq : numQ s.data.toList = false) (hr : right s.data.toList = false) : Calls Tryz.prog 36 #[.string s] w (Tells1 w (begM s.data.toList)) := by
  have HN : Hid (∀ Y, Calls Tryz.prog 60 #[.string s] Y (NumV Y ((intT s.data.toList).getD 0) false)) := Lib.hid fun Y => by rw [← hq]; exact refNumber_any s Y hs
  have HRI : Hid (∀ Y, Calls Tryz.prog 61 #[.string s] Y (Says Y false)) := Lib.hid fun Y => refRight_is s _ Y hs hr
  obtain ⟨b, hb⟩ : ∃ b, begM s.data.toList = b := ⟨_, rfl⟩
  have H0 : Hid ((docMarks.drop 0).any (fun m => s.data.toList.isPrefixOf m) = b) := Lib.hid (by rw [← hb]; exact docMarks_beg _)
  rw [hb]
  have hsz := toList_eq s
  clear hq hr hb
  unfold maxLen at hs
  go_enter Tryz.func36, Tryz.ntmps36
  go_wp2_with (first | (go_at_call 60; refine (HN.out _).mono ?_; rintro e w1 ⟨rfl, rfl⟩) | (go_at_call 61; refine (HRI.out _).mono ?_; rintro e w2 ⟨rfl, rfl⟩) | (go_at_call 62; refine (refMarks_any _).mono ?_; rintro e w3 ⟨g, rfl, hrow, hb3⟩; have HB3 := Lib.hid hb3; have HR3 := Lib.hid hrow; clear hrow hb3))
  go_loop [6] (fun i => ∃ k : Nat, k ≤ 16 ∧ i = .int .i64 k ∧ Hid ((docMarks.drop k).any (fun m => s.data.toList.isPrefixOf m) = b)) (fun i => 16 - (intOf i).toNat)
  case atStart => exact ⟨0, by omega, rfl, H0⟩
  case round =>
    obtain ⟨k, hk, rfl, HK⟩ := hrel
    by_cases hlt : k < 16
    · obtain ⟨bl, o, m, hg, hbl, hm, hc⟩ := strs_at HR3.out hlt
      injection hg with hg
      injection hg with hg1 hg2
      subst hg1 hg2
      have HD := Lib.hid (any_drop (p := fun m => s.data.toList.isPrefixOf m) hm)
      obtain ⟨M, hM⟩ : ∃ M, ba m = M := ⟨_, rfl⟩
      have hMs : M.size = m.length := by rw [← hM, ← toList_eq, ba_data]
      have hMl : m = M.data.toList := by rw [← hM, ba_data]
      have hM2 : M.size ≤ 2 := by
        rw [hMs]
        have : ∀ x ∈ docMarks, x.length ≤ 2 := by decide
        exact this m (List.mem_of_getElem? hm)
      rw [hM] at hc
      simp only [Nat.zero_add] at hc
      subst hMl
      clear hm hM hMs
      by_cases hl : s.size ≤ M.size
      · have HP := Lib.hid (prefix_take (s := s.data.toList) (m := M.data.toList) (by rw [toList_eq, toList_eq]; exact hl))
        cases he : ((M.extract 0 s.size).toList == s.toList) with
        | true =>
          have HR : Hid (b = true) := Lib.hid (by
            have h := HK.out
            rw [HD.out, HP.out] at h
            rw [Lib.toList_data, Lib.toList_data, Lib.extract_data, List.drop_zero, Nat.sub_zero] at he
            rw [hsz, he] at h
            exact h.symm)
          clear HD HP
          go_wp2_with fail
          go_ret
          exact tells1 HR.out.symm HB3.out
        | false =>
          have HR : Hid ((docMarks.drop (k + 1)).any (fun m => s.data.toList.isPrefixOf m) = b) := Lib.hid (by
            have h := HK.out
            rw [HD.out, HP.out] at h
            rw [Lib.toList_data, Lib.toList_data, Lib.extract_data, List.drop_zero, Nat.sub_zero] at he
            rw [hsz, he, Bool.false_or] at h
            exact h)
          clear HD HP
          go_wp2_with fail
          go_round
          case rel => exact ⟨k + 1, by omega, by go_num, HR⟩
          case measure => simp [intOf]; omega
      · have hl' : M.size < s.size := by omega
        have HR : Hid ((docMarks.drop (k + 1)).any (fun m => s.data.toList.isPrefixOf m) = b) := Lib.hid (by
          have h := HK.out
          rw [HD.out, prefix_long (by rw [toList_eq, toList_eq]; exact hl'), Bool.false_or] at h
          exact h)
        clear HD
        go_wp2_with fail
        go_round
        case rel => exact ⟨k + 1, by omega, by go_num, HR⟩
        case measure => simp [intOf]; omega
    · have HR : Hid (b = false) := Lib.hid (by have := HK.out; rw [List.drop_eq_nil_of_le (by show 16 ≤ k; omega)] at this; exact this.symm)
      go_wp2_with fail
      go_ret
      exact tells1 HR.out.symm HB3.out
set_option maxHeartbeats 800000 in
theorem refBegins_any (s : ByteArray) (w : World) (hs : s.size ≤ maxLen) : Calls Tryz.prog 36 #[.string s] w (Tells1 w (begR s.data.toList)) := by
  cases hq : numQ s.data.toList with
  | true =>
    have hB : begR s.data.toList = true := by unfold begR; rw [hq]; rfl
    have HN : Hid (∀ Y, Calls Tryz.prog 60 #[.string s] Y (NumV Y ((intT s.data.toList).getD 0) true)) := Lib.hid fun Y => by rw [← hq]; exact refNumber_any s Y hs
    rw [hB]
    clear hB hq
    go_enter Tryz.func36, Tryz.ntmps36
    go_wp2_with (go_at_call 60; refine (HN.out _).mono ?_; rintro e w1 ⟨rfl, rfl⟩)
    go_ret
    exact tells1 rfl (Below.refl _ _)
  | false =>
    cases hr : right s.data.toList with
    | true =>
      have hB : begR s.data.toList = true := by unfold begR; rw [hq, hr]; rfl
      have HN : Hid (∀ Y, Calls Tryz.prog 60 #[.string s] Y (NumV Y ((intT s.data.toList).getD 0) false)) := Lib.hid fun Y => by rw [← hq]; exact refNumber_any s Y hs
      have HRI : Hid (∀ Y, Calls Tryz.prog 61 #[.string s] Y (Says Y true)) := Lib.hid fun Y => refRight_is s _ Y hs hr
      rw [hB]
      clear hB hq hr
      go_enter Tryz.func36, Tryz.ntmps36
      go_wp2_with (first | (go_at_call 60; refine (HN.out _).mono ?_; rintro e w1 ⟨rfl, rfl⟩) | (go_at_call 61; refine (HRI.out _).mono ?_; rintro e w2 ⟨rfl, rfl⟩))
      go_ret
      exact tells1 rfl (Below.refl _ _)
    | false =>
      have hB : begR s.data.toList = begM s.data.toList := by unfold begR; rw [hq, hr]; rfl
      rw [hB]
      exact begins_marks s w hs hq hr
set_option maxHeartbeats 800000 in
theorem refMore_any (c : UInt8) (w : World) : Calls Tryz.prog 38 #[.int .u8 c.toNat] w (Tells1 w (innC c)) := by
  have HR : Hid (∀ Y, Calls Tryz.prog 61 #[.string ((⟨#[97]⟩ : ByteArray) ++ (⟨[c].toArray⟩ : ByteArray))] Y (Says Y (innC c))) := Lib.hid fun Y => refRight_is _ _ Y (by rw [← toList_eq, cat_list]; simp [maxLen]) (by rw [cat_list]; exact right_two c)
  obtain ⟨X, hX⟩ : ∃ X, w.alloc (.cells #[.int .u8 c.toNat] 5) = X := ⟨_, rfl⟩
  have HX : Hid (Below w.heap.size w X) := Lib.hid (by rw [← hX]; exact (Below.refl _ _).alloc (Nat.le_refl _) _)
  have HCV : Hid ((convert 66 9 (.slice (some ⟨w.heap.size, 0, none⟩) 1 1)).run Tryz.prog X = .ok (.string ⟨[c].toArray⟩) X) := Lib.hid (by rw [← hX]; exact conv_lit w _ [c] rfl (by unfold maxLen; simp))
  go_enter Tryz.func38, Tryz.ntmps38
  go_wp2_with (first | ((with_reducible show wpList _ _ _ (Oper.mk _ (Op.convert 66 9 _) _ _ _ _ :: _) _ _); refine wpList_conv rfl _ rfl rfl HCV.out ?_) | (go_at_call 61; refine (HR.out _).mono ?_; rintro e w2 ⟨rfl, rfl⟩))
  go_ret
  exact tells1 rfl HX.out
end Go.Proofs.YtckfcpiedainfaaGreatDoor

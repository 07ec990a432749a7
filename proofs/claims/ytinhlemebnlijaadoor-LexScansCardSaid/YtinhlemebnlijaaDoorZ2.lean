/-
  WALKS over the document's own answers: is a text a number; the token that a text is.
-/
import Derived.Test.YtinhlemebnlijaaDoorZ1
import Derived.Test.YtinhlemebnlijaaDoorY7
namespace Go.Proofs.YtinhlemebnlijaaDoor
open Go Go.RowKit
set_option linter.unusedVariables false
def NumV (w : World) (v : Int) (b : Bool) (e : Ending) (w' : World) : Prop := e = .returned (.tuple #[.int .i64 v, .bool b]) ∧ w = w'
set_option maxHeartbeats 800000 in
theorem refNumber_any (s : ByteArray) (w : World) (hs : s.size ≤ maxLen) : Calls Tryd.prog 40 #[.string s] w (NumV w ((intT s.data.toList).getD 0) (numQ s.data.toList)) := by
  have H : Hid (Calls Tryd.prog 58 #[.string s] w (NumSame w (intT s.data.toList))) := Lib.hid (refInt_any s w hs)
  unfold numQ
  cases hi : intT s.data.toList with
  | none =>
    rw [hi] at H
    clear hi
    go_enter Tryd.func40, Tryd.ntmps40
    go_wp2_with (go_at_call 58; refine H.out.mono ?_; rintro e w' ⟨rfl, rfl⟩)
    go_ret2
    exact ⟨rfl, rfl⟩
  | some v =>
    rw [hi] at H
    clear hi
    by_cases h0 : 0 ≤ v
    · go_enter Tryd.func40, Tryd.ntmps40
      go_wp2_with (go_at_call 58; refine H.out.mono ?_; rintro e w' ⟨rfl, rfl⟩)
      go_ret2
      exact ⟨by simp [h0], rfl⟩
    · go_enter Tryd.func40, Tryd.ntmps40
      go_wp2_with (go_at_call 58; refine H.out.mono ?_; rintro e w' ⟨rfl, rfl⟩)
      go_ret2
      exact ⟨by simp [h0], rfl⟩
/-- the answer's box, behind whatever was called -/
structure WB (w Y : World) : Prop where
  res : Blk Y w.heap.size 30 tok0
  bel : Below w.heap.size w Y
theorem WB.start (w : World) : WB w (w.alloc (.cells #[.int .i64 0, .string ⟨#[]⟩, .int .i64 0, .int .i64 0] 30)) := ⟨Blk.new w _ _, (Below.refl _ _).alloc (Nat.le_refl _) _⟩
theorem WB.after {w Y Y' : World} (h : WB w Y) (hb : Below Y.heap.size Y Y') : WB w Y' := ⟨h.res.after hb, h.bel.trans (hb.mono h.bel.size)⟩
theorem WB.put {w Y : World} (h : WB w Y) (a : Int) (b : ByteArray) (c d : Int) :
    Blk (Y.setRow w.heap.size #[.int .i64 a, .string b, .int .i64 c, .int .i64 d]) w.heap.size 30 #[.int .i64 a, .string b, .int .i64 c, .int .i64 d]
    ∧ Below w.heap.size w (Y.setRow w.heap.size #[.int .i64 a, .string b, .int .i64 c, .int .i64 d]) :=
  ⟨setRow_heap _ _ _ _ _ _ h.res, below_setRow h.bel (Nat.le_refl _) _⟩
theorem results_row1 {fn : Func} {p u : Tmp} {ty : TypeId} (h : fn.results = #[.cell p ty, .tmp u]) (tmps : Array Value) (w : World) (g : Nat) (cs : Array Value)
    (hp : tmps.getD p undef = .pointer (some ⟨g, 0, none⟩)) (hl : (loadVar ty ⟨g, 0, none⟩).run Tryd.prog w = .ok (.agg cs) w) :
    (results fn tmps).run Tryd.prog w = .ok (.tuple #[.agg cs, tmps.getD u undef]) w := by
  have hp' : tmps[p]?.getD undef = .pointer (some ⟨g, 0, none⟩) := by simpa using hp
  simp [results, h, hp', asAddr, hl]
/-- the token that a text is, or another and no -/
def WholeP (w : World) (x : Option Tok) (e : Ending) (w' : World) : Prop :=
  Below w.heap.size w w' ∧ ∃ k : Tok, e = .returned (.tuple #[.agg #[.int .i64 k.kind, .string k.text, .int .i64 k.int, .int .i64 k.place], .bool x.isSome]) ∧ ∀ k', x = some k' → k' = k
def pickT (b : Bool) (k : Tok) : Option Tok := if b then some k else none
theorem wholeP {w w' : World} {x : Option Tok} {k : Tok} {b : Bool} (hx : x = pickT b k) (h : Below w.heap.size w w') : WholeP w x (.returned (.tuple #[.agg #[.int .i64 k.kind, .string k.text, .int .i64 k.int, .int .i64 k.place], .bool b])) w' := by
  subst hx
  refine ⟨h, k, by cases b <;> rfl, fun k' h => ?_⟩
  cases b
  · cases h
  · exact (Option.some.inj h).symm
set_option maxHeartbeats 1600000 in
theorem whole_num (s : ByteArray) (w : World) (hs : s.size ≤ maxLen) (hq : numQ s.data.toList = true) : Calls Tryd.prog 21 #[.string s] w (WholeP w (wholeR s.data.toList)) := by
  have HN : Hid (∀ Y, Calls Tryd.prog 40 #[.string s] Y (NumV Y ((intT s.data.toList).getD 0) true)) := Lib.hid fun Y => by rw [← hq]; exact refNumber_any s Y hs
  have HX : Hid (wholeR s.data.toList = pickT true ⟨1, ⟨#[]⟩, (intT s.data.toList).getD 0, 0⟩) := Lib.hid (by simp [wholeR, pickT, hq, ba])
  have W0 := Lib.hid (WB.start w)
  have hres : Tryd.f21.results = #[.cell 2 30, .tmp 3] := by kernel_rfl
  obtain ⟨V, hV⟩ : ∃ V, (intT s.data.toList).getD 0 = V := ⟨_, rfl⟩
  rw [hV] at HN HX
  clear hq hV
  go_enter Tryd.func21, Tryd.ntmps21
  go_wp2_with (first | (go_at_call 40; refine (HN.out _).mono ?_; rintro e w1 ⟨rfl, rfl⟩) | ((with_reducible show wpList _ _ _ (Oper.mk _ (Op.store 30 _ _) _ _ _ _ :: _) _ _); refine wpList_store_row rfl _ _ _ rfl w.heap.size _ rfl rfl 30 tok0 W0.out.res infoTok rfl (one_tok _ _ _ _) ?_))
  all_goals (try simp only [Act.put, Exit.inBlock, Exit.then])
  all_goals refine bodyPost_ret (results_row1 hres _ _ w.heap.size _ rfl (load_tok (W0.out.put _ _ _ _).1)) rfl ?_
  exact wholeP HX.out (W0.out.put _ _ _ _).2
set_option maxHeartbeats 1600000 in
theorem whole_word (s : ByteArray) (w : World) (hs : s.size ≤ maxLen) (hq : numQ s.data.toList = false) (hw : wordB s.data.toList = true) : Calls Tryd.prog 21 #[.string s] w (WholeP w (wholeR s.data.toList)) := by
  have HN : Hid (∀ Y, Calls Tryd.prog 40 #[.string s] Y (NumV Y ((intT s.data.toList).getD 0) false)) := Lib.hid fun Y => by rw [← hq]; exact refNumber_any s Y hs
  have HW : Hid (wordsL.contains s.data.toList = true) := Lib.hid hw
  have HX : Hid (wholeR s.data.toList = pickT true ⟨4, s, 0, 0⟩) := Lib.hid (by simp [wholeR, pickT, hq, hw, ba_list'])
  have W0 := Lib.hid (WB.start w)
  have hres : Tryd.f21.results = #[.cell 2 30, .tmp 3] := by kernel_rfl
  obtain ⟨V, hV⟩ : ∃ V, (intT s.data.toList).getD 0 = V := ⟨_, rfl⟩
  rw [hV] at HN
  clear hq hw hV
  go_enter Tryd.func21, Tryd.ntmps21
  go_wp2_with (first | (go_at_call 40; refine (HN.out _).mono ?_; rintro e w1 ⟨rfl, rfl⟩) | (go_at_call 44; refine (refWords_any _).mono ?_; rintro e w2 ⟨g2, rfl, hrow2, hb2⟩; have W2 := Lib.hid (W0.out.after hb2); have HR2 := Lib.hid hrow2; clear hrow2 hb2) | (go_at_call 43; (with_reducible refine (refIn_any _ _ _ _ _ wordsL s _ HR2.out HW.out).mono ?_); rintro e w3 ⟨rfl, rfl⟩) | ((with_reducible show wpList _ _ _ (Oper.mk _ (Op.store 30 _ _) _ _ _ _ :: _) _ _); refine wpList_store_row rfl _ _ _ rfl w.heap.size _ rfl rfl 30 tok0 W2.out.res infoTok rfl (one_tok _ _ _ _) ?_))
  all_goals (try simp only [Act.put, Exit.inBlock, Exit.then])
  all_goals refine bodyPost_ret (results_row1 hres _ _ w.heap.size _ rfl (load_tok (W2.out.put _ _ _ _).1)) rfl ?_
  exact wholeP HX.out (W2.out.put _ _ _ _).2
set_option maxHeartbeats 1600000 in
theorem whole_name (s : ByteArray) (w : World) (hs : s.size ≤ maxLen) (hq : numQ s.data.toList = false) (hw : wordB s.data.toList = false) (hr : right s.data.toList = true) : Calls Tryd.prog 21 #[.string s] w (WholeP w (wholeR s.data.toList)) := by
  have HN : Hid (∀ Y, Calls Tryd.prog 40 #[.string s] Y (NumV Y ((intT s.data.toList).getD 0) false)) := Lib.hid fun Y => by rw [← hq]; exact refNumber_any s Y hs
  have HW : Hid (wordsL.contains s.data.toList = false) := Lib.hid hw
  have HRI : Hid (∀ Y, Calls Tryd.prog 41 #[.string s] Y (Says Y true)) := Lib.hid fun Y => refRight_is s _ Y hs hr
  have HX : Hid (wholeR s.data.toList = pickT true ⟨3, s, 0, 0⟩) := Lib.hid (by simp [wholeR, pickT, hq, hw, hr, ba_list'])
  have W0 := Lib.hid (WB.start w)
  have hres : Tryd.f21.results = #[.cell 2 30, .tmp 3] := by kernel_rfl
  obtain ⟨V, hV⟩ : ∃ V, (intT s.data.toList).getD 0 = V := ⟨_, rfl⟩
  rw [hV] at HN
  clear hq hw hr hV
  go_enter Tryd.func21, Tryd.ntmps21
  go_wp2_with (first | (go_at_call 40; refine (HN.out _).mono ?_; rintro e w1 ⟨rfl, rfl⟩) | (go_at_call 44; refine (refWords_any _).mono ?_; rintro e w2 ⟨g2, rfl, hrow2, hb2⟩; have W2 := Lib.hid (W0.out.after hb2); have HR2 := Lib.hid hrow2; clear hrow2 hb2) | (go_at_call 43; (with_reducible refine (refIn_any _ _ _ _ _ wordsL s _ HR2.out HW.out).mono ?_); rintro e w3 ⟨rfl, rfl⟩) | (go_at_call 41; refine (HRI.out _).mono ?_; rintro e w4 ⟨rfl, rfl⟩) | ((with_reducible show wpList _ _ _ (Oper.mk _ (Op.store 30 _ _) _ _ _ _ :: _) _ _); refine wpList_store_row rfl _ _ _ rfl w.heap.size _ rfl rfl 30 tok0 W2.out.res infoTok rfl (one_tok _ _ _ _) ?_))
  all_goals (try simp only [Act.put, Exit.inBlock, Exit.then])
  all_goals refine bodyPost_ret (results_row1 hres _ _ w.heap.size _ rfl (load_tok (W2.out.put _ _ _ _).1)) rfl ?_
  exact wholeP HX.out (W2.out.put _ _ _ _).2
set_option maxHeartbeats 1600000 in
theorem whole_mark (s : ByteArray) (w : World) (hs : s.size ≤ maxLen) (hq : numQ s.data.toList = false) (hw : wordB s.data.toList = false) (hr : right s.data.toList = false) (hm : markB s.data.toList = true) : Calls Tryd.prog 21 #[.string s] w (WholeP w (wholeR s.data.toList)) := by
  have HN : Hid (∀ Y, Calls Tryd.prog 40 #[.string s] Y (NumV Y ((intT s.data.toList).getD 0) false)) := Lib.hid fun Y => by rw [← hq]; exact refNumber_any s Y hs
  have HW : Hid (wordsL.contains s.data.toList = false) := Lib.hid hw
  have HRI : Hid (∀ Y, Calls Tryd.prog 41 #[.string s] Y (Says Y false)) := Lib.hid fun Y => refRight_is s _ Y hs hr
  have HM : Hid (docMarks.contains s.data.toList = true) := Lib.hid (by rw [docMarks_has]; exact hm)
  have HX : Hid (wholeR s.data.toList = pickT true ⟨5, s, 0, 0⟩) := Lib.hid (by simp [wholeR, pickT, hq, hw, hr, hm, ba_list'])
  have W0 := Lib.hid (WB.start w)
  have hres : Tryd.f21.results = #[.cell 2 30, .tmp 3] := by kernel_rfl
  obtain ⟨V, hV⟩ : ∃ V, (intT s.data.toList).getD 0 = V := ⟨_, rfl⟩
  rw [hV] at HN
  clear hq hw hr hm hV
  go_enter Tryd.func21, Tryd.ntmps21
  go_wp2_with (first | (go_at_call 40; refine (HN.out _).mono ?_; rintro e w1 ⟨rfl, rfl⟩) | (go_at_call 44; refine (refWords_any _).mono ?_; rintro e w2 ⟨g2, rfl, hrow2, hb2⟩; have W2 := Lib.hid (W0.out.after hb2); have HR2 := Lib.hid hrow2; clear hrow2 hb2) | (go_at_call 42; refine (refMarks_any _).mono ?_; rintro e w5 ⟨g5, rfl, hrow5, hb5⟩; have W5 := Lib.hid (W2.out.after hb5); have HR5 := Lib.hid hrow5; clear hrow5 hb5) | (go_at_call 43; (with_reducible refine (refIn_any _ _ _ _ _ docMarks s _ HR5.out HM.out).mono ?_); rintro e w6 ⟨rfl, rfl⟩) | (go_at_call 43; (with_reducible refine (refIn_any _ _ _ _ _ wordsL s _ HR2.out HW.out).mono ?_); rintro e w3 ⟨rfl, rfl⟩) | (go_at_call 41; refine (HRI.out _).mono ?_; rintro e w4 ⟨rfl, rfl⟩) | ((with_reducible show wpList _ _ _ (Oper.mk _ (Op.store 30 _ _) _ _ _ _ :: _) _ _); refine wpList_store_row rfl _ _ _ rfl w.heap.size _ rfl rfl 30 tok0 W5.out.res infoTok rfl (one_tok _ _ _ _) ?_))
  all_goals (try simp only [Act.put, Exit.inBlock, Exit.then])
  all_goals refine bodyPost_ret (results_row1 hres _ _ w.heap.size _ rfl (load_tok (W5.out.put _ _ _ _).1)) rfl ?_
  exact wholeP HX.out (W5.out.put _ _ _ _).2
set_option maxHeartbeats 1600000 in
theorem whole_none (s : ByteArray) (w : World) (hs : s.size ≤ maxLen) (hq : numQ s.data.toList = false) (hw : wordB s.data.toList = false) (hr : right s.data.toList = false) (hm : markB s.data.toList = false) : Calls Tryd.prog 21 #[.string s] w (WholeP w (wholeR s.data.toList)) := by
  have HN : Hid (∀ Y, Calls Tryd.prog 40 #[.string s] Y (NumV Y ((intT s.data.toList).getD 0) false)) := Lib.hid fun Y => by rw [← hq]; exact refNumber_any s Y hs
  have HW : Hid (wordsL.contains s.data.toList = false) := Lib.hid hw
  have HRI : Hid (∀ Y, Calls Tryd.prog 41 #[.string s] Y (Says Y false)) := Lib.hid fun Y => refRight_is s _ Y hs hr
  have HM : Hid (docMarks.contains s.data.toList = false) := Lib.hid (by rw [docMarks_has]; exact hm)
  have HX : Hid (wholeR s.data.toList = pickT false ⟨5, s, 0, 0⟩) := Lib.hid (by simp [wholeR, pickT, hq, hw, hr, hm, ba_list'])
  have W0 := Lib.hid (WB.start w)
  have hres : Tryd.f21.results = #[.cell 2 30, .tmp 3] := by kernel_rfl
  obtain ⟨V, hV⟩ : ∃ V, (intT s.data.toList).getD 0 = V := ⟨_, rfl⟩
  rw [hV] at HN
  clear hq hw hr hm hV
  go_enter Tryd.func21, Tryd.ntmps21
  go_wp2_with (first | (go_at_call 40; refine (HN.out _).mono ?_; rintro e w1 ⟨rfl, rfl⟩) | (go_at_call 44; refine (refWords_any _).mono ?_; rintro e w2 ⟨g2, rfl, hrow2, hb2⟩; have W2 := Lib.hid (W0.out.after hb2); have HR2 := Lib.hid hrow2; clear hrow2 hb2) | (go_at_call 42; refine (refMarks_any _).mono ?_; rintro e w5 ⟨g5, rfl, hrow5, hb5⟩; have W5 := Lib.hid (W2.out.after hb5); have HR5 := Lib.hid hrow5; clear hrow5 hb5) | (go_at_call 43; (with_reducible refine (refIn_any _ _ _ _ _ docMarks s _ HR5.out HM.out).mono ?_); rintro e w6 ⟨rfl, rfl⟩) | (go_at_call 43; (with_reducible refine (refIn_any _ _ _ _ _ wordsL s _ HR2.out HW.out).mono ?_); rintro e w3 ⟨rfl, rfl⟩) | (go_at_call 41; refine (HRI.out _).mono ?_; rintro e w4 ⟨rfl, rfl⟩) | ((with_reducible show wpList _ _ _ (Oper.mk _ (Op.store 30 _ _) _ _ _ _ :: _) _ _); refine wpList_store_row rfl _ _ _ rfl w.heap.size _ rfl rfl 30 tok0 W5.out.res infoTok rfl (one_tok _ _ _ _) ?_))
  all_goals (try simp only [Act.put, Exit.inBlock, Exit.then])
  all_goals refine bodyPost_ret (results_row1 hres _ _ w.heap.size _ rfl (load_tok (W5.out.put _ _ _ _).1)) rfl ?_
  exact wholeP HX.out (W5.out.put _ _ _ _).2
theorem refWhole_any (s : ByteArray) (w : World) (hs : s.size ≤ maxLen) : Calls Tryd.prog 21 #[.string s] w (WholeP w (wholeR s.data.toList)) := by
  cases hq : numQ s.data.toList with
  | true => exact whole_num s w hs hq
  | false =>
    cases hw : wordB s.data.toList with
    | true => exact whole_word s w hs hq hw
    | false =>
      cases hr : right s.data.toList with
      | true => exact whole_name s w hs hq hw hr
      | false =>
        cases hm : markB s.data.toList with
        | true => exact whole_mark s w hs hq hw hr hm
        | false => exact whole_none s w hs hq hw hr hm
end Go.Proofs.YtinhlemebnlijaaDoor

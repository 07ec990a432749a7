/-
  LAW NamesBack: for all texts and every number the law answers true (texts of more than 2^20 bytes ahead, in quotes and behind it lets by). Condition: the library's five variables hold what the program's text lays (tied by the card).
-/
import Derived.Test.YtbdgbdgcjlaolaaDoorD
import Derived.Test.YtbdgbdgcjlaolaaDoorA
import Derived.Test.YtbdgbdgcjlaolaaDoorS
import Derived.Lib.ItoaLen
import Derived.Deep.RegionHeld3
import Derived.Deep.DeepCutAuto
namespace Go.Proofs.YtbdgbdgcjlaolaaDoor.namesBack
open Go Go.ChangeShapes Go.WideShapes Go.ChangeAt Go.RowKit
set_option linter.unusedVariables false

theorem cat_size (a b : ByteArray) : (a ++ b).size = a.size + b.size := by rw [← toList_eq, cat_list, List.length_append, toList_eq, toList_eq]
theorem quote_len (l : List UInt8) : (quote l).length = (l.flatMap form).length + 2 := by unfold quote; rw [List.length_append, List.length_cons]; rfl
theorem ba_same (s : ByteArray) : (⟨s.data.toList.toArray⟩ : ByteArray) = s := by apply ByteArray.ext; simp
theorem ba_list {x : ByteArray} {l : List UInt8} (h : x.data.toList = l) : (⟨l.toArray⟩ : ByteArray) = x := by rw [← h, ba_same]
/-- Quote, its answer unnamed -/
def QuotedN (w : World) (l : List UInt8) (e : Ending) (w' : World) : Prop := ∃ q : ByteArray, Hid (q.data.toList = quote l) ∧ e = .returned (.string q) ∧ Below w.heap.size w w'
theorem quote_n (s : ByteArray) (w : World) (hs : (quote s.data.toList).length + 4 ≤ 140737488355328) : Calls Tryd.prog 19 #[.string s] w (QuotedN w s.data.toList) :=
  (quote_any s w hs).mono fun e w' ⟨he, hb⟩ => ⟨_, Lib.hid (by simp), he, hb⟩
theorem quote_is (s x : ByteArray) (w : World) (hs : (quote s.data.toList).length + 4 ≤ 140737488355328) (h : x.data.toList = quote s.data.toList) : Calls Tryd.prog 19 #[.string s] w (TellsT w x) :=
  (quote_any s w hs).mono fun e w' ⟨he, hb⟩ => ⟨by rw [he, ba_list h], hb⟩
theorem show_is (n : Int) (x : ByteArray) (w : World) (h0 : -9223372036854775808 ≤ n) (h1 : n ≤ 9223372036854775807) (hE : Env w) (h : x.data.toList = Lib.itoa n) : Calls Tryd.prog 16 #[.int .i64 n] w (TellsT w x) :=
  (show_any n w h0 h1 hE).mono fun e w' ⟨he, hb⟩ => ⟨by rw [he, ba_list h], hb⟩
def UnqS (w : World) (s : ByteArray) (n : Int) (e : Ending) (w' : World) : Prop := e = .returned (.tuple #[.string s, .int .i64 n, .int .i64 0]) ∧ Below w.heap.size w w'
theorem unquote_back (s a q b : ByteArray) (w : World) (hs : s.size ≤ 1048576) (ha : a.size ≤ 1048576) (hb : b.size ≤ 1048576) (hq : Hid (q.data.toList = quote s.data.toList)) :
    Calls Tryd.prog 20 #[.string (a ++ q ++ b), .int .i64 a.size] w (UnqS w s ((a.size : Int) + q.size)) := by
  have hq := hq.out
  have hql : q.size = (s.data.toList.flatMap form).length + 2 := by rw [← toList_eq, hq, quote_len]
  have hf := flat_length s.data.toList
  rw [toList_eq] at hf
  have hd : (a ++ q ++ b).data.toList.drop a.size = 34 :: (s.data.toList.flatMap form ++ 34 :: b.data.toList) := by
    rw [cat_list, cat_list, hq, List.append_assoc, List.drop_append, toList_eq, List.drop_eq_nil_of_le (by rw [toList_eq]; omega)]
    simp [quote]
  have hu := unq_quote hd
  rw [scanL_back] at hu
  refine (unquote_any (a ++ q ++ b) a.size w (by rw [cat_size, cat_size]; omega)).mono fun e w' ⟨he, hb⟩ => ⟨?_, hb⟩
  rw [he, hu]
  simp only [ba_same]
  have e : ((a.size + 1 + ((s.data.toList.flatMap form).length + 1) : Nat) : Int) = (a.size : Int) + q.size := by omega
  rw [e]
def UnqIs (w : World) (l : List UInt8) (n c : Int) (e : Ending) (w' : World) : Prop := e = .returned (.tuple #[.string ⟨l.toArray⟩, .int .i64 n, .int .i64 c]) ∧ Below w.heap.size w w'
theorem unquote_is (s : ByteArray) (t : Int) (l : List UInt8) (n c : Int) (w : World) (hs : s.size + 8 ≤ 140737488355328) (h : unq s t = (l, n, c)) : Calls Tryd.prog 20 #[.string s, .int .i64 t] w (UnqIs w l n c) := by
  have := unquote_any s t w hs
  rw [h] at this
  exact this
/-- what is read at the beginning of a text, and its quotes -/
theorem unq_front (t : ByteArray) : (∃ l k, unq t 0 = (l, ((k : Nat) : Int), 0) ∧ 2 ≤ k ∧ k ≤ t.size ∧ t.data.toList.take k = quote l) ∨ (∃ n, unq t 0 = ([], n, 10)) := by
  by_cases hq : (t.data.toList.drop 0).head? = some 34
  · obtain ⟨r, hr⟩ : ∃ r, t.data.toList.drop 0 = 34 :: r := by
      cases h : t.data.toList.drop 0 with
      | nil => rw [h] at hq; cases hq
      | cons x r => rw [h] at hq; simp at hq; exact ⟨r, by rw [hq]⟩
    have hu := unq_quote hr
    have hl : (t.data.toList.drop 0).length = t.size := by simp
    rw [hr, List.length_cons] at hl
    rcases hs : scanL r with ⟨o, n⟩
    rw [hs] at hu
    cases o with
    | some l =>
      left
      have hi := scanL_is r.length r l n (Nat.le_refl _) hs
      have h1 : 1 ≤ n := by
        have := congrArg List.length hi.1
        rw [List.length_take, List.length_append] at this
        simp at this; omega
      refine ⟨l, 0 + 1 + n, hu, by omega, by omega, ?_⟩
      have e : t.data.toList = 34 :: r := by simpa using hr
      have e2 : 0 + 1 + n = n + 1 := by omega
      rw [e, e2, List.take_succ_cons, hi.1]
      rfl
    | none => right; exact ⟨_, hu⟩
  · right; exact ⟨_, unq_other (t := 0) (Nat.zero_le _) hq⟩

set_option maxRecDepth 100000 in
set_option maxHeartbeats 3200000 in
theorem walk_long (s a b t : ByteArray) (n : Int) (w : World) (hE : Env w) (h : ¬ (s.size ≤ 1048576 ∧ a.size ≤ 1048576 ∧ b.size ≤ 1048576)) :
    Calls Tryd.prog 5 #[.string s, .string a, .string b, .string t, .int .i64 n] w fun e w' => e = .returned (.bool true) ∧ Below w.heap.size w w' := by
  have HA : Hid (Calls Tryd.prog 18 #[] w (SaysB w true)) := awake_any w hE
  have hc : (decide ((1048576 : Int) < (s.size : Int)) = true) ∨ (decide ((1048576 : Int) < (s.size : Int)) = false ∧ decide ((1048576 : Int) < (a.size : Int)) = true) ∨ (decide ((1048576 : Int) < (s.size : Int)) = false ∧ decide ((1048576 : Int) < (a.size : Int)) = false ∧ decide ((1048576 : Int) < (b.size : Int)) = true) := by
    simp only [decide_eq_true_eq, decide_eq_false_iff_not]; omega
  clear hE h
  rcases hc with d1 | ⟨d1, d2⟩ | ⟨d1, d2, d3⟩
  all_goals
    go_enter Tryd.func5, Tryd.ntmps5
    go_wp2_with fail
    refine HA.out.mono ?_
    rintro e w1 ⟨rfl, hb1⟩
    have A1 := (After.refl w).next hb1
    clear hb1
    go_wp2_with fail
    all_goals go_ret
    all_goals exact ⟨rfl, A1.below⟩

set_option maxRecDepth 100000 in
set_option maxHeartbeats 3200000 in
theorem walk_in (s a b t : ByteArray) (n : Int) (w : World) (hE : Env w) (hs : s.size ≤ 1048576) (ha : a.size ≤ 1048576) (hb : b.size ≤ 1048576) (ht : t.size ≤ 140737488351232) (h0 : -9223372036854775808 ≤ n) (h1 : n ≤ 9223372036854775807) :
    Calls Tryd.prog 5 #[.string s, .string a, .string b, .string t, .int .i64 n] w fun e w' => e = .returned (.bool true) ∧ Below w.heap.size w w' := by
  have HA : Hid (Calls Tryd.prog 18 #[] w (SaysB w true)) := awake_any w hE
  have hql : (quote s.data.toList).length ≤ 4194306 := by
    have hf := flat_length s.data.toList
    rw [toList_eq] at hf
    rw [quote_len]; omega
  have HQ : Hid (∀ w', Calls Tryd.prog 19 #[.string s] w' (QuotedN w' s.data.toList)) := fun w' => quote_n s w' (by omega)
  have HB : Hid (∀ q w', Hid (q.data.toList = quote s.data.toList) → Calls Tryd.prog 20 #[.string (a ++ q ++ b), .int .i64 a.size] w' (UnqS w' s ((a.size : Int) + q.size))) := fun q w' h => unquote_back s a q b w' hs ha hb h
  have HQS : Hid (∀ q : ByteArray, Hid (q.data.toList = quote s.data.toList) → q.size ≤ 4194306) := fun q h => by rw [← toList_eq, h.out]; exact hql
  have HS : Hid (∀ w', After w w' → Calls Tryd.prog 16 #[.int .i64 n] w' (TellsT w' ⟨(Lib.itoa n).toArray⟩)) := fun w' h => show_is n _ w' h0 h1 (hE.below h.below) (by simp)
  have HI : Hid (∀ w', After w w' → Calls Tryd.prog 14 #[.string ⟨(Lib.itoa n).toArray⟩] w' (NumC w' n 0)) := fun w' h => by
    have hlen := Lib.itoa_length_le n h0 h1
    have := int_any ⟨(Lib.itoa n).toArray⟩ w' (by rw [← toList_eq]; simp; omega) (hE.below h.below)
    simp only [intT_show n h0 h1] at this
    exact this
  have HT : Hid (∀ w', After w w' → Calls Tryd.prog 14 #[.string t] w' (Numbers w' (intT t.data.toList))) := fun w' h => int_any t w' (by omega) (hE.below h.below)
  have HV : Hid (∀ v, intT t.data.toList = some v → ∀ w', After w w' → Calls Tryd.prog 16 #[.int .i64 v] w' (TellsT w' t)) := fun v hv w' h => by
    obtain ⟨e, b1, b2, _⟩ := intT_out hv
    exact show_is v t w' b1 b2 (hE.below h.below) e.symm
  have hfr := unq_front t
  clear hE hql h0 h1
  rcases hfr with ⟨l, k, hu, hk2, hkt, hkq⟩ | ⟨k, hu⟩
  · have HU : Hid (∀ w', Calls Tryd.prog 20 #[.string t, .int .i64 0] w' (UnqIs w' l k 0)) := fun w' => unquote_is t 0 l k 0 w' (by omega) hu
    have HY : Hid (∀ w', Calls Tryd.prog 19 #[.string ⟨l.toArray⟩] w' (TellsT w' (t.extract 0 k))) := fun w' => quote_is ⟨l.toArray⟩ (t.extract 0 k) w' (by
      have e : (⟨l.toArray⟩ : ByteArray).data.toList = l := by simp
      rw [e, ← hkq, List.length_take, toList_eq]; omega) (by rw [Lib.extract_data]; simpa using hkq)
    have e1 : decide ((k : Int) < 2) = false := by simp; omega
    have e2 : decide (t.size < k) = false := by simp; omega
    clear hu hkq
    go_enter Tryd.func5, Tryd.ntmps5
    go_wp2_with fail
    refine HA.out.mono ?_
    rintro e w1 ⟨rfl, hb1⟩
    have A1 := (After.refl w).next hb1
    clear hb1
    go_wp2_with fail
    refine (HQ.out _).mono ?_
    rintro e w2 ⟨q, hq, rfl, hb2⟩
    have A2 := A1.next hb2
    have hqs := HQS.out q hq
    clear hb2
    go_wp2_with fail
    refine (HB.out q _ hq).mono ?_
    rintro e w3 ⟨rfl, hb3⟩
    have A3 := A2.next hb3
    clear hb3
    go_wp2_with fail
    refine (HU.out _).mono ?_
    rintro e w4 ⟨rfl, hb4⟩
    have A4 := A3.next hb4
    clear hb4
    go_wp2_with fail
    go_cut [90] (fun s90 wx => s90 = .bool false ∧ After w wx)
    case first =>
      go_region_held3 (fun _ => True) (exact trivial) ((go_at_call 19; refine (HY.out _).mono ?_; rintro e w5 ⟨rfl, hb5⟩))
      all_goals go_wp2_with fail
      all_goals go_meet
      all_goals exact ⟨by simp, (A4.next (Below.refl _ _).drew).next hb5⟩
    case rest =>
      obtain ⟨rfl, A5⟩ := hcut
      clear A1 A2 A3 A4
      go_wp2_with fail
      refine (HS.out _ A5).mono ?_
      rintro e w6 ⟨rfl, hb6⟩
      have A6 := A5.next hb6
      clear hb6
      go_wp2_with fail
      refine (HI.out _ A6).mono ?_
      rintro e w7 ⟨rfl, hb7⟩
      have A7 := A6.next hb7
      clear hb7
      go_wp2_with fail
      refine (HT.out _ A7).mono ?_
      rintro e w8 ⟨rfl, hb8⟩
      have A8 := A7.next hb8
      clear hb8
      cases hi : intT t.data.toList with
      | none =>
        go_wp2_with fail
        go_ret
        exact ⟨rfl, A8.below⟩
      | some v =>
        have HW := Lib.hid (HV.out v hi)
        go_wp2_with fail
        refine (HW.out _ A8).mono ?_
        rintro e w9 ⟨rfl, hb9⟩
        have A9 := A8.next hb9
        clear hb9
        go_wp2_with fail
        go_ret
        exact ⟨by simp, A9.below⟩
  · have HU : Hid (∀ w', Calls Tryd.prog 20 #[.string t, .int .i64 0] w' (UnqIs w' [] k 10)) := fun w' => unquote_is t 0 [] k 10 w' (by omega) hu
    clear hu
    go_enter Tryd.func5, Tryd.ntmps5
    go_wp2_with fail
    refine HA.out.mono ?_
    rintro e w1 ⟨rfl, hb1⟩
    have A1 := (After.refl w).next hb1
    clear hb1
    go_wp2_with fail
    refine (HQ.out _).mono ?_
    rintro e w2 ⟨q, hq, rfl, hb2⟩
    have A2 := A1.next hb2
    have hqs := HQS.out q hq
    clear hb2
    go_wp2_with fail
    refine (HB.out q _ hq).mono ?_
    rintro e w3 ⟨rfl, hb3⟩
    have A3 := A2.next hb3
    clear hb3
    go_wp2_with fail
    refine (HU.out _).mono ?_
    rintro e w4 ⟨rfl, hb4⟩
    have A4 := A3.next hb4
    clear hb4
    go_wp2_with fail
    go_cut [90] (fun s90 wx => s90 = .bool false ∧ After w wx)
    case first =>
      go_quiet (fail)
      all_goals go_wp2_with fail
      all_goals go_meet
      all_goals exact ⟨by simp, A4.next (below_drewN (Below.refl _ _) _)⟩
    case rest =>
      obtain ⟨rfl, A5⟩ := hcut
      clear A1 A2 A3 A4
      go_wp2_with fail
      refine (HS.out _ A5).mono ?_
      rintro e w6 ⟨rfl, hb6⟩
      have A6 := A5.next hb6
      clear hb6
      go_wp2_with fail
      refine (HI.out _ A6).mono ?_
      rintro e w7 ⟨rfl, hb7⟩
      have A7 := A6.next hb7
      clear hb7
      go_wp2_with fail
      refine (HT.out _ A7).mono ?_
      rintro e w8 ⟨rfl, hb8⟩
      have A8 := A7.next hb8
      clear hb8
      cases hi : intT t.data.toList with
      | none =>
        go_wp2_with fail
        go_ret
        exact ⟨rfl, A8.below⟩
      | some v =>
        have HW := Lib.hid (HV.out v hi)
        go_wp2_with fail
        refine (HW.out _ A8).mono ?_
        rintro e w9 ⟨rfl, hb9⟩
        have A9 := A8.next hb9
        clear hb9
        go_wp2_with fail
        go_ret
        exact ⟨by simp, A9.below⟩

theorem walk (s a b t : ByteArray) (n : Int) (w : World) (_ : s.size ≤ 140737488351232) (_ : a.size ≤ 140737488351232) (_ : b.size ≤ 140737488351232) (ht : t.size ≤ 140737488351232) (hn : (Lit.int .i64 n).wf = true) (hE : Env w) :
    Calls Tryd.prog 5 #[.string s, .string a, .string b, .string t, .int .i64 n] w fun e w' => e = .returned (.bool true) ∧ Below w.heap.size w w' := by
  have hb : -9223372036854775808 ≤ n ∧ n ≤ 9223372036854775807 := by simpa [Lit.wf, IntKind.min, IntKind.max, IntKind.signed, IntKind.bits] using hn
  by_cases h : s.size ≤ 1048576 ∧ a.size ≤ 1048576 ∧ b.size ≤ 1048576
  · exact walk_in s a b t n w hE h.1 h.2.1 h.2.2 ht hb.1 hb.2
  · exact walk_long s a b t n w hE h

theorem contract (H : Type) (enc : TypeId × Value → H) (W : World) (base : Nat) (args : Array Value) (ds gs : List (DataW H)) (before : List MemPlace)
    (hval : ∀ (j : Nat) t v, Tryd.f5.params[j]? = some t → args[j]? = some v → Value.okWide Tryd.prog W .any base t v)
    (hW : DataW.Whole enc Tryd.prog Tryd.f5.params.toList Rows.namesBackSpec.vars false W args.toList ds gs before) (hE : Env W)
    (hz : (DataW.weightsEach Tryd.prog (Tryd.f5.params.toList ++ (OpenSpec.ofChange Rows.namesBackSpec).bare.plain.varTypes Tryd.prog) (ds ++ gs)).all (· ≤ reachBytes) = true) :
    Calls Tryd.prog 5 args W fun e W' => ∃ v, e = .returned v ∧ Rows.namesBackSpec.post enc Tryd.prog Tryd.f5 false true false false W args v W' := by
  have hW' := hW
  obtain ⟨p, q, hA0, hV, rfl, hfz, hnd⟩ := hW
  have hA : DataW.TrodAll enc Tryd.prog W 0 (fun _ => true) true Tryd.f5.params.toList args.toList ds p := hA0
  rw [Tryd.params5] at hA hval
  obtain ⟨v0, vs0, d0, ds0, p0, q0, hargs, rfl, rfl, h0, r0⟩ := trodAll_cons hA
  obtain ⟨v1, vs1, d1, ds1, p1, q1, rfl, rfl, rfl, h1, r1⟩ := trodAll_cons r0
  obtain ⟨v2, vs2, d2, ds2, p2, q2, rfl, rfl, rfl, h2, r2⟩ := trodAll_cons r1
  obtain ⟨v3, vs3, d3, ds3, p3, q3, rfl, rfl, rfl, h3, r3⟩ := trodAll_cons r2
  obtain ⟨v4, vs4, d4, ds4, p4, q4, rfl, rfl, rfl, h4, r4⟩ := trodAll_cons r3
  obtain ⟨rfl, rfl, rfl⟩ := trodAll_nil r4
  obtain rfl : args = #[v0, v1, v2, v3, v4] := by cases args; simp_all
  obtain ⟨rfl, rfl⟩ := trodVars_none hV
  obtain ⟨a0, rfl, rfl, rfl, w0⟩ := ChangeMaps.open_string Tryd.underlying9 (hval 0 9 v0 rfl rfl) h0
  obtain ⟨a1, rfl, rfl, rfl, w1⟩ := ChangeMaps.open_string Tryd.underlying9 (hval 1 9 v1 rfl rfl) h1
  obtain ⟨a2, rfl, rfl, rfl, w2⟩ := ChangeMaps.open_string Tryd.underlying9 (hval 2 9 v2 rfl rfl) h2
  obtain ⟨a3, rfl, rfl, rfl, w3⟩ := ChangeMaps.open_string Tryd.underlying9 (hval 3 9 v3 rfl rfl) h3
  obtain ⟨a4, rfl, rfl, rfl, w4⟩ := open_int Tryd.underlying2 (hval 4 2 v4 rfl rfl) h4
  clear hA0
  simp only [List.append_nil] at hW'
  have z0 : a0.size ≤ 140737488351232 := reach_of hz (j := 0) (t := 9) rfl rfl
  have z1 : a1.size ≤ 140737488351232 := reach_of hz (j := 1) (t := 9) rfl rfl
  have z2 : a2.size ≤ 140737488351232 := reach_of hz (j := 2) (t := 9) rfl rfl
  have z3 : a3.size ≤ 140737488351232 := reach_of hz (j := 3) (t := 9) rfl rfl
  refine (walk a0 a1 a2 a3 a4 W z0 z1 z2 z3 w4 hE).mono fun e W' ⟨he, bel⟩ => ?_
  subst he
  exact ⟨_, rfl, _, _, _, [], [], [], hW', trodAll_mk1 (shut_bool Tryd.underlying4 _), trodAll_cons_mk (ChangeMaps.shut_string Tryd.underlying9 w0) (trodAll_cons_mk (ChangeMaps.shut_string Tryd.underlying9 w1) (trodAll_cons_mk (ChangeMaps.shut_string Tryd.underlying9 w2) (trodAll_cons_mk (ChangeMaps.shut_string Tryd.underlying9 w3) (trodAll_cons_mk (shut_int Tryd.underlying2 w4) trodAll_mk0)))), rfl, bel.frame _, fun h => by cases h⟩

theorem reads (os : Os) {H : Type} (enc : TypeId × Value → H) : ∃ places, DataW.whole enc Tryd.prog ((laidWorld os).forCall (fun _ _ => 0) ⟨#[], #[.string ByteArray.empty, .string ByteArray.empty, .string ByteArray.empty, .string ByteArray.empty, .int .i64 0], []⟩).memory Tryd.f5.params.toList Rows.namesBackSpec.vars false (#[.string ByteArray.empty, .string ByteArray.empty, .string ByteArray.empty, .string ByteArray.empty, .int .i64 0] : Array Value).toList 8 = some ([.lit (.string []), .lit (.string []), .lit (.string []), .lit (.string []), .lit (.int .i64 0)], [], places) :=
  ⟨[], by kernel_rfl⟩

set_option maxRecDepth 100000 in
theorem lifted (os : Os) (started : os.Started) (H : Type) (enc : TypeId × Value → H) (F : Stop.Interp) :
    ReturnsInHanded {} Tryd.checked os 5 .any ((OpenSpec.ofChange Rows.namesBackSpec).preRow enc Tryd.prog Tryd.f5 Rows.namesBackRow.domain false Rows.namesBackRow.laid) (((OpenSpec.ofChange Rows.namesBackSpec).at F).post enc Tryd.prog Tryd.f5 false true false false) := by
  obtain ⟨places, hx⟩ := reads os enc
  refine returnsInHanded_of_row (C := Tryd.checked) (s := OpenSpec.ofChange Rows.namesBackSpec) own started (by kernel_rfl) Tryd.func5
    (witness_row_at (enc := enc) (C := Tryd.checked) false (laidWorld os) #[.string ByteArray.empty, .string ByteArray.empty, .string ByteArray.empty, .string ByteArray.empty, .int .i64 0] rfl (by kernel_rfl) (by kernel_rfl) (by kernel_rfl)
      (OpenSpec.preRow_of_cond 8 hx (by kernel_rfl) (fun k hk => by cases hk) (by kernel_rfl) (laid_met os _))) ?_
  intro W base args ds gs before hval hW _ _ hz hL _ _
  exact contract H enc W base args ds gs before hval hW (env_of hL) hz

theorem said : Rows.NamesBackSaid :=
  OpenClaim.holds_of_cond 5 Tryd.f5 rfl rfl rfl rfl rfl rfl rfl ⟨rfl, rfl, rfl, rfl, rfl⟩ rfl rfl rfl rfl rfl (by kernel_rfl) Tryd.func5 (by kernel_rfl)
    (of_decide_eq_true (by kernel_rfl)) (by unfold Func.isWrapper; first | (rw [if_pos (by decide +kernel)]; kernel_rfl) | (rw [if_neg (by decide +kernel)]; exact ⟨rfl, rfl⟩))
    (fun os started H enc _ F => by rw [OpenClaim.pre_eq_preRow]; exact lifted os started H enc F)

theorem plain (f : FuncId) (fn : Func) (hf : Tryd.pinned.checked.prog.funcNamed "topiary/topiarylaw01.NamesBack" = some f) (hfn : Tryd.pinned.checked.prog.funcs[f]? = some fn) :
    true = Tryd.pinned.checked.prog.looks [] ∧ ∀ (j : Nat) t, fn.params[j]? = some t → Tryd.pinned.checked.prog.wantsStandIn t = false := by
  obtain rfl : f = 5 := Option.some.inj ((show Tryd.prog.funcNamed "topiary/topiarylaw01.NamesBack" = some 5 by kernel_rfl).symm.trans hf) |>.symm
  obtain rfl : fn = Tryd.f5 := (Option.some.inj (Tryd.func5.symm.trans hfn)).symm
  refine ⟨by kernel_rfl, fun j t ht => ?_⟩
  rw [Tryd.params5] at ht
  have hm := Array.mem_of_getElem? ht
  have ht' : t = 9 ∨ t = 2 := by simpa using hm
  rcases ht' with rfl | rfl
  · exact (show Tryd.prog.wantsStandIn 9 = false by kernel_rfl)
  · exact (show Tryd.prog.wantsStandIn 2 = false by kernel_rfl)

/-- the card of NamesBack -/
theorem card : Rows.NamesBackCardSaid :=
  Claim7.holds_tied_plain_at .later [] _ _ _ _ said (fun _ h => by cases h) (by kernel_rfl) (fun _ h => by cases h) namesBack_row_tie rfl ⟨rfl, rfl⟩ (by kernel_rfl) rfl plain (by kernel_rfl)
end Go.Proofs.YtbdgbdgcjlaolaaDoor.namesBack

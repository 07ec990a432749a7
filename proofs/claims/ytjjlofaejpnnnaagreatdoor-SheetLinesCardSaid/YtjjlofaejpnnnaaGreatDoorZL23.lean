/-
  THE FIRST LINES of a text, in plain mathematics: what is read of them; WALK: first.
  WALKS: first; the law SheetLines.
  THE 5 SheetLines: the first lines of a model's text are a model's text; the line at which a text is refused is the first one up to which it is none.
-/
import Derived.Test.YtjjlofaejpnnnaaGreatDoorZL22
namespace Go.Proofs.YtjjlofaejpnnnaaGreatDoor
open Go Go.RowKit
set_option linter.unusedVariables false
/-- so many lines of a text (n from 1 on), with what ends them, or all that there is -/
def firstL : Nat → List UInt8 → List UInt8
  | _, [] => []
  | n, c :: l => if c = 10 then (if n ≤ 1 then [10] else 10 :: firstL (n - 1) l) else c :: firstL n l
theorem firstL_len : ∀ (n : Nat) (l : List UInt8), (firstL n l).length ≤ l.length
  | _, [] => by unfold firstL; exact Nat.le_refl _
  | n, c :: l => by
    unfold firstL
    split
    · split
      · simp
      · have := firstL_len (n - 1) l
        simp only [List.length_cons]; omega
    · have := firstL_len n l
      simp only [List.length_cons]; omega
theorem firstL_ne {n : Nat} {l : List UInt8} (h : l ≠ []) : firstL n l ≠ [] := by
  cases l with
  | nil => exact absurd rfl h
  | cons c l =>
    unfold firstL
    split
    · split <;> simp
    · simp
/-- a line and the rest -/
theorem line_parts (l : List UInt8) (h : hasS l 10 = true) : l = cutA 10 l ++ 10 :: cutB 10 l := by
  have hlt := cutA_lt (c := 10) (l := l) h
  have e : l = cutA 10 l ++ l.drop (cutA 10 l).length := by
    conv => lhs; rw [← List.take_append_drop (cutA 10 l).length l]
    rw [← cutA_take]
  have h2 : l.drop (cutA 10 l).length = 10 :: cutB 10 l := by
    unfold cutB
    cases hx : l.drop (cutA 10 l).length with
    | nil => have := congrArg List.length hx; rw [List.length_drop] at this; simp at this; omega
    | cons x r =>
      have hx0 : l[(cutA 10 l).length]? = some x := by
        have := congrArg (·[0]?) hx
        simpa [List.getElem?_drop] using this
      have hh : x = 10 := by
        have h3 : l.dropWhile (· != 10) = x :: r := by
          have := List.takeWhile_append_dropWhile (p := (· != (10 : UInt8))) (l := l)
          have h4 : cutA 10 l ++ l.dropWhile (· != 10) = cutA 10 l ++ l.drop (cutA 10 l).length := by rw [← e]; exact this
          rw [List.append_cancel_left h4, hx]
        have := List.head?_dropWhile_not (· != (10 : UInt8)) l
        rw [h3] at this
        simpa using this
      rw [hh]; simp
  rw [h2] at e
  exact e
theorem cutA_ne10 (l : List UInt8) : ∀ x ∈ cutA 10 l, x ≠ 10 := fun x hx => by
  have := takeWhile_mem hx
  simpa using this
theorem has_line (a r : List UInt8) : hasS (a ++ 10 :: r) 10 = true := by unfold hasS; simp
theorem firstL_app (n : Nat) : ∀ (a r : List UInt8), (∀ x ∈ a, x ≠ 10) → firstL n (a ++ 10 :: r) = a ++ 10 :: (if n ≤ 1 then [] else firstL (n - 1) r)
  | [], r, _ => by
    rw [List.nil_append, firstL, if_pos rfl]
    split <;> rfl
  | c :: a, r, h => by
    rw [List.cons_append, firstL, if_neg (h c (by simp)), firstL_app n a r fun x hx => h x (by simp [hx])]
    rfl
theorem firstL_none {n : Nat} : ∀ {l : List UInt8}, (∀ x ∈ l, x ≠ 10) → firstL n l = l
  | [], _ => by unfold firstL; rfl
  | c :: l, h => by
    rw [firstL, if_neg (h c (by simp)), firstL_none fun x hx => h x (by simp [hx])]
theorem linesV_app (f : Nat) (st : RS) (k : Nat) (a r : List UInt8) (h : ∀ x ∈ a, x ≠ 10) : linesV (f + 1) st k (a ++ 10 :: r) = match lineV st a with
    | some st' => if r = [] then .inl st' else linesV f st' (k + 1) r
    | none => .inr (k + 1) := by
  obtain ⟨h1, h2⟩ := cut_at (c := 10) (a := a) (b := r) h
  rw [linesV_cut, if_pos (has_line a r), h1, h2]
  cases lineV st a <;> rfl
theorem no_line {l : List UInt8} (h : ¬ hasS l 10 = true) : ∀ x ∈ l, x ≠ 10 := fun x hx e => h (by subst e; unfold hasS; simpa using hx)
theorem line_split {l : List UInt8} (h : hasS l 10 = true) : ∃ a r, l = a ++ 10 :: r ∧ ∀ x ∈ a, x ≠ 10 := ⟨cutA 10 l, cutB 10 l, line_parts l h, cutA_ne10 l⟩
/-- what is read of the first lines, where all may be read -/
theorem lines_ok : ∀ (f f' n k : Nat) (st stf : RS) (l : List UInt8), (st.next ≠ 0 → RsOk st) → 1 ≤ n → l.length < f → l.length < f' → linesV f st k l = .inl stf → ∃ st', linesV f' st k (firstL n l) = .inl st' ∧ RsOk st' := by
  intro f
  induction f with
  | zero => intro f' n k st stf l _ h1 h2; omega
  | succ f ih =>
    intro f' n k st stf l hk hn hf hf' hv
    obtain ⟨g, rfl⟩ : ∃ g, f' = g + 1 := ⟨f' - 1, by omega⟩
    by_cases h : hasS l 10 = true
    · obtain ⟨a, r, rfl, ha⟩ := line_split h
      rw [linesV_app f st k a r ha] at hv
      rw [firstL_app n a r ha, linesV_app g st k a _ ha]
      simp only [List.length_append, List.length_cons] at hf hf'
      cases hl : lineV st a with
      | none => rw [hl] at hv; cases hv
      | some st1 =>
        rw [hl] at hv
        simp only at hv ⊢
        have h1 := line_ok hk hl
        by_cases hr : r = []
        · subst hr
          have e : (if n ≤ 1 then [] else firstL (n - 1) ([] : List UInt8)) = [] := by split <;> rfl
          rw [if_pos e]
          exact ⟨st1, rfl, h1⟩
        · rw [if_neg hr] at hv
          by_cases hn1 : n ≤ 1
          · rw [if_pos hn1, if_pos rfl]
            exact ⟨st1, rfl, h1⟩
          · rw [if_neg hn1, if_neg (firstL_ne hr)]
            exact ih g (n - 1) (k + 1) st1 stf r (fun _ => h1) (by omega) (by omega) (by omega) hv
    · rw [linesV_cut, if_neg h] at hv
      cases hv
/-- .. and where a line is refused -/
theorem lines_no : ∀ (f f' k m : Nat) (st : RS) (l : List UInt8), (st.next ≠ 0 → RsOk st) → l.length < f → l.length < f' → linesV f st k l = .inr m → k + 1 ≤ m ∧ m ≤ k + l.length + 1 ∧ linesV f' st k (firstL (m - k) l) = .inr m ∧ (k + 2 ≤ m → ∃ st', linesV f' st k (firstL (m - k - 1) l) = .inl st' ∧ RsOk st') := by
  intro f
  induction f with
  | zero => intro f' k m st l _ h2; omega
  | succ f ih =>
    intro f' k m st l hk hf hf' hv
    obtain ⟨g, rfl⟩ : ∃ g, f' = g + 1 := ⟨f' - 1, by omega⟩
    by_cases h : hasS l 10 = true
    · obtain ⟨a, r, rfl, ha⟩ := line_split h
      rw [linesV_app f st k a r ha] at hv
      rw [firstL_app (m - k) a r ha, linesV_app g st k a _ ha, firstL_app (m - k - 1) a r ha, linesV_app g st k a _ ha]
      simp only [List.length_append, List.length_cons] at hf hf' ⊢
      cases hl : lineV st a with
      | none =>
        rw [hl] at hv
        simp only at hv ⊢
        obtain rfl : k + 1 = m := Sum.inr.inj hv
        exact ⟨Nat.le_refl _, by omega, rfl, fun h => absurd h (by omega)⟩
      | some st1 =>
        rw [hl] at hv
        simp only at hv ⊢
        have h1 := line_ok hk hl
        by_cases hr : r = []
        · rw [if_pos hr] at hv; cases hv
        · rw [if_neg hr] at hv
          obtain ⟨q1, q2, q3, q4⟩ := ih g (k + 1) m st1 r (fun _ => h1) (by omega) (by omega) hv
          refine ⟨by omega, by omega, ?_, fun _ => ?_⟩
          · rw [if_neg (show ¬ m - k ≤ 1 by omega), if_neg (firstL_ne hr), show m - k - 1 = m - (k + 1) from by omega]
            exact q3
          · by_cases h2 : m - k - 1 ≤ 1
            · rw [if_pos h2, if_pos rfl]
              exact ⟨st1, rfl, h1⟩
            · rw [if_neg h2, if_neg (firstL_ne hr), show m - k - 1 - 1 = m - (k + 1) - 1 from by omega]
              exact q4 (by omega)
    · have hno := no_line h
      rw [linesV_cut, if_neg h] at hv
      obtain rfl : k + 1 = m := Sum.inr.inj hv
      refine ⟨Nat.le_refl _, by omega, ?_, fun h => absurd h (by omega)⟩
      rw [firstL_none hno, linesV_cut, if_neg h]
/-- what Parse answers: too long; the model; the line that is refused -/
inductive Parsed (l : List UInt8) : Prop
  | long (h : parseV l = ((0, []), 0, 3)) : Parsed l
  | ok (st : RS) (h : parseV l = ((st.next, sortV st.nds), 0, 0)) (hk : RsOk st) (hf : ∀ n, 1 ≤ n → ∃ st', parseV (firstL n l) = ((st'.next, sortV st'.nds), 0, 0) ∧ RsOk st') : Parsed l
  | no (m : Nat) (h : parseV l = ((0, []), (m : Int), 30)) (h1 : 1 ≤ m) (h2 : m ≤ 1048577) (hf : parseV (firstL m l) = ((0, []), (m : Int), 30)) (hg : 2 ≤ m → ∃ st', parseV (firstL (m - 1) l) = ((st'.next, sortV st'.nds), 0, 0) ∧ RsOk st') : Parsed l
theorem parseV_inl {l : List UInt8} {st : RS} (h : l.length ≤ 1048576) (hv : linesV (l.length + 1) ⟨0, [], []⟩ 0 l = .inl st) : parseV l = ((st.next, sortV st.nds), 0, 0) := by
  unfold parseV
  rw [if_neg (by omega), hv]
  rfl
theorem parseV_inr {l : List UInt8} {m : Nat} (h : l.length ≤ 1048576) (hv : linesV (l.length + 1) ⟨0, [], []⟩ 0 l = .inr m) : parseV l = ((0, []), (m : Int), 30) := by
  unfold parseV
  rw [if_neg (by omega), hv]
theorem firstL_all : ∀ {l : List UInt8} {n : Nat}, l.length + 1 ≤ n → firstL n l = l
  | [], _, _ => by unfold firstL; rfl
  | c :: l, n, h => by
    simp only [List.length_cons] at h
    unfold firstL
    split
    · rename_i hc
      rw [if_neg (by omega), firstL_all (by omega), hc]
    · rw [firstL_all (by omega)]
theorem firstL_twice : ∀ {l : List UInt8} {n : Nat}, firstL n (firstL n l) = firstL n l
  | [], n => by unfold firstL; rfl
  | c :: l, n => by
    by_cases hc : c = 10
    · subst hc
      by_cases hn : n ≤ 1
      · have e : firstL n (10 :: l) = [10] := by rw [firstL, if_pos rfl, if_pos hn]
        rw [e, firstL, if_pos rfl, if_pos hn]
      · have e : ∀ r, firstL n (10 :: r) = 10 :: firstL (n - 1) r := fun r => by rw [firstL, if_pos rfl, if_neg hn]
        rw [e, e, firstL_twice]
    · have e : ∀ r, firstL n (c :: r) = c :: firstL n r := fun r => by rw [firstL, if_neg hc]
      rw [e, e, firstL_twice]
theorem parsed (l : List UInt8) : Parsed l := by
  by_cases hl : 1048576 < l.length
  · exact .long (by unfold parseV; rw [if_pos hl])
  · have h0 : (⟨0, [], []⟩ : RS).next ≠ 0 → RsOk ⟨0, [], []⟩ := fun h => absurd rfl h
    have hlen := fun n => firstL_len n l
    cases hv : linesV (l.length + 1) ⟨0, [], []⟩ 0 l with
    | inl st =>
      have key : ∀ n, 1 ≤ n → ∃ st', parseV (firstL n l) = ((st'.next, sortV st'.nds), 0, 0) ∧ RsOk st' := fun n hn => by
        obtain ⟨st1, h1, h2⟩ := lines_ok (l.length + 1) (l.length + 1) n 0 _ st l h0 hn (by omega) (by omega) hv
        have h3 := hlen n
        obtain ⟨st2, h4, h5⟩ := lines_ok (l.length + 1) ((firstL n l).length + 1) ((firstL n l).length + 1) 0 _ st1 (firstL n l) h0 (by omega) (by omega) (by omega) h1
        rw [firstL_all (Nat.le_refl _)] at h4
        exact ⟨st2, parseV_inl (by omega) h4, h5⟩
      obtain ⟨st1, h1, h2⟩ := lines_ok (l.length + 1) (l.length + 1) (l.length + 1) 0 _ st l h0 (by omega) (by omega) (by omega) hv
      rw [firstL_all (Nat.le_refl _), hv] at h1
      obtain rfl : st = st1 := Sum.inl.inj h1
      exact .ok st (parseV_inl (by omega) hv) h2 key
    | inr m =>
      obtain ⟨h1, h2, h3, h4⟩ := lines_no (l.length + 1) (l.length + 1) 0 m _ l h0 (by omega) (by omega) hv
      rw [Nat.sub_zero] at h3 h4
      refine .no m (parseV_inr (by omega) hv) (by omega) (by omega) ?_ fun hm => ?_
      · have h5 := hlen m
        obtain ⟨_, _, h6, _⟩ := lines_no (l.length + 1) ((firstL m l).length + 1) 0 m _ (firstL m l) h0 (by omega) (by omega) h3
        rw [Nat.sub_zero, firstL_twice] at h6
        exact parseV_inr (by omega) h6
      · obtain ⟨st1, h5, h6⟩ := h4 (by omega)
        have h7 := hlen (m - 1)
        obtain ⟨st2, h8, h9⟩ := lines_ok (l.length + 1) ((firstL (m - 1) l).length + 1) ((firstL (m - 1) l).length + 1) 0 _ st1 (firstL (m - 1) l) h0 (by omega) (by omega) (by omega) h5
        rw [firstL_all (Nat.le_refl _)] at h8
        exact ⟨st2, parseV_inl (by omega) h8, h9⟩
end Go.Proofs.YtjjlofaejpnnnaaGreatDoor
namespace Go.Proofs.YtjjlofaejpnnnaaGreatDoor
open Go Go.RowKit
set_option linter.unusedVariables false
def FirstP (s : ByteArray) (n : Nat) (w : World) (e : Ending) (w' : World) : Prop := ∃ r : ByteArray, e = .returned (.string r) ∧ r.data.toList = firstL n s.data.toList ∧ w = w'
theorem firstL_nil (n : Nat) : firstL n [] = [] := by unfold firstL; rfl
set_option maxHeartbeats 1600000 in
theorem firstT_any (s : ByteArray) (n : Nat) (w : World) (h1 : 1 ≤ n) (h2 : n ≤ 9223372036854775807) (hs : s.size ≤ 281474976710656) : Calls Tryz.prog 15 #[.string s, .int .i64 n] w (FirstP s n w) := by
  go_enter Tryz.func15, Tryz.ntmps15
  go_wp2_with fail
  go_loop [1, 5] (fun a1 a5 => ∃ i m : Nat, a1 = .int .i64 m ∧ a5 = .int .i64 i ∧ i ≤ s.size ∧ 1 ≤ m ∧ m ≤ n ∧ Hid (firstL n s.data.toList = s.data.toList.take i ++ firstL m (s.data.toList.drop i))) (fun _ a5 => s.size - (intOf a5).toNat)
  case atStart => exact ⟨0, n, rfl, rfl, Nat.zero_le _, h1, Nat.le_refl _, Lib.hid (by simp)⟩
  case round =>
    obtain ⟨i, m, rfl, rfl, hi, hm, hmn, HR⟩ := hrel
    by_cases hlt : i < s.size
    · have e0 := drop_get' s i hlt
      have et : s.data.toList.take (i + 1) = s.data.toList.take i ++ [s[i]] := by
        rw [List.take_add_one]
        congr 1
        have : s.data.toList[i]? = some s[i] := by
          have := congrArg (·[0]?) e0
          simpa [List.getElem?_drop] using this
        rw [this]; rfl
      by_cases hc : s[i].toNat = 10
      · have d1 : ((s[i].toNat : Int) == 10) = true := by rw [beq_iff_eq]; omega
        have hc2 : s[i] = 10 := UInt8.toNat_inj.1 (by rw [hc]; rfl)
        have hw1 : IntKind.i64.wrap ((m : Int) - 1) = ((m - 1 : Nat) : Int) := by rw [IntWalk.i64_in _ (by omega)]; omega
        by_cases hm1 : m ≤ 1
        · have HX : Hid ((s.extract 0 (i + 1)).data.toList = firstL n s.data.toList) := Lib.hid (by
            rw [HR.out, e0, firstL, if_pos hc2, if_pos hm1, Lib.extract_data, List.drop_zero, Nat.sub_zero, et, hc2])
          have d2 : ((m - 1 : Nat) : Int) ≤ 0 := by omega
          clear hc hc2 e0 et
          go_wp2_with fail
          go_ret
          exact ⟨_, rfl, HX.out, rfl⟩
        · have HX : Hid (firstL n s.data.toList = s.data.toList.take (i + 1) ++ firstL (m - 1) (s.data.toList.drop (i + 1))) := Lib.hid (by
            rw [HR.out, e0, firstL, if_pos hc2, if_neg hm1, et, hc2, List.append_assoc]; rfl)
          have d2 : ¬ ((m - 1 : Nat) : Int) ≤ 0 := by omega
          clear hc hc2 e0 et
          go_wp2_with fail
          go_round
          case rel => exact ⟨i + 1, m - 1, rfl, by go_num, by omega, by omega, by omega, HX⟩
          case measure => simp [intOf]; omega
      · have d1 : ((s[i].toNat : Int) == 10) = false := by rw [beq_eq_false_iff_ne]; omega
        have hc2 : ¬ s[i] = 10 := fun h => hc (by rw [h]; rfl)
        have HX : Hid (firstL n s.data.toList = s.data.toList.take (i + 1) ++ firstL m (s.data.toList.drop (i + 1))) := Lib.hid (by
          rw [HR.out, e0, firstL, if_neg hc2, et, List.append_assoc]; rfl)
        have d2 : ¬ (m : Int) ≤ 0 := by omega
        clear hc hc2 e0 et
        go_wp2_with fail
        go_round
        case rel => exact ⟨i + 1, m, rfl, by go_num, by omega, by omega, by omega, HX⟩
        case measure => simp [intOf]; omega
    · have HX : Hid (s.data.toList = firstL n s.data.toList) := Lib.hid (by
        have e1 : s.data.toList.drop i = [] := List.drop_eq_nil_of_le (by rw [toList_eq]; omega)
        rw [HR.out, e1, firstL_nil, List.append_nil, List.take_of_length_le (by rw [toList_eq]; omega)])
      have d2 : ¬ (i : Int) < (s.size : Int) := by omega
      go_wp2_with fail
      go_ret
      exact ⟨s, rfl, HX.out, rfl⟩
end Go.Proofs.YtjjlofaejpnnnaaGreatDoor
namespace Go.Proofs.YtjjlofaejpnnnaaGreatDoor
open Go Go.RowKit
set_option linter.unusedVariables false
/-- the number of lines that the law asks for -/
def linesN (n : Int) : Nat := if n < 1 then (1 - n.tmod 1000).toNat else n.toNat
theorem tmod_bounds (n : Int) (h : n < 1) : -999 ≤ n.tmod 1000 ∧ n.tmod 1000 ≤ 0 := by
  have h0 : n ≤ 0 := by omega
  obtain ⟨k, rfl⟩ : ∃ k : Nat, n = -(k : Int) := ⟨n.natAbs, by omega⟩
  rw [Int.neg_tmod]
  have h1 : (k : Int).tmod 1000 = ((k % 1000 : Nat) : Int) := rfl
  rw [h1]
  have := Nat.mod_lt k (show 0 < 1000 by omega)
  omega
theorem linesN_ok {n : Int} (h : n ≤ 9223372036854775807) : 1 ≤ linesN n ∧ linesN n ≤ 9223372036854775807 := by
  unfold linesN
  split
  · rename_i hn
    have := tmod_bounds n hn
    omega
  · omega
set_option maxRecDepth 20000 in
set_option maxHeartbeats 6400000 in
theorem sheetLines_law (w : World) (s : ByteArray) (n : Int) (hs : s.size ≤ 281474976710656) (hn1 : -9223372036854775808 ≤ n) (hn2 : n ≤ 9223372036854775807) (hE : Env w) : Calls Tryz.prog 5 #[.string s, .int .i64 n] w (Ret w (.bool true)) := by
  have HAW := Lib.hid (awake_any w hE)
  have HPS : Hid (∀ (T : ByteArray) Y r, parseV T.data.toList = r → Below w.heap.size w Y → Calls Tryz.prog 8 #[.string T] Y (ParseP Y r)) := Lib.hid fun T Y r hr hY => by
    have := sheetParse_any Y T (hE.below hY)
    rwa [hr] at this
  have HFI : Hid (∀ (m : Nat) Y, 1 ≤ m → m ≤ 9223372036854775807 → Calls Tryz.prog 15 #[.string s, .int .i64 m] Y (FirstP s m Y)) := Lib.hid fun m Y h1 h2 => firstT_any s m Y h1 h2 hs
  clear hE
  rcases parsed s.data.toList with hp | ⟨st, hp, hk, hf⟩ | ⟨m, hp, h1, h2, hf, hg⟩
  · have HP := Lib.hid hp
    clear hp
    go_enter Tryz.func5, Tryz.ntmps5
    go_wp2_with (first | (go_at_call 11; refine HAW.out.mono ?_; rintro e w1 ⟨rfl, hb1⟩; have HB1 := Lib.hid hb1; clear hb1) | (go_at_call 8; refine (HPS.out _ _ _ HP.out HB1.out).mono ?_; rintro e w2 ⟨A2, n2, c2, rfl, _, hb2⟩; have HB2 : Hid (Below w.heap.size w w2) := Lib.hid (HB1.out.trans (hb2.mono HB1.out.size)); clear hb2))
    go_ret
    exact ⟨rfl, by (repeat (first | exact HB2.out | refine below_more ?_ _))⟩
  · by_cases hn : n < 1
    · have hlt : n < 1 := hn
      have htm := tmod_bounds n hn
      have hw0 : IntKind.i64.wrap (n.tmod 1000) = n.tmod 1000 := IntWalk.i64_in _ (by omega)
      have hw1 : IntKind.i64.wrap (1 - n.tmod 1000) = (linesN n : Int) := by rw [IntWalk.i64_in _ (by omega)]; unfold linesN; rw [if_pos hn]; omega
      have HLN := Lib.hid (linesN_ok hn2)
      generalize linesN n = N at hw1 HLN
      obtain ⟨st2, hp2, hk2⟩ := hf N HLN.out.1
      have HP := Lib.hid hp
      have HP2 := Lib.hid hp2
      have hnx : (0 : Int) < st2.next := by have := hk2.n1; omega
      clear hp hp2 hk hf hk2 hn hn1 hn2
      go_enter Tryz.func5, Tryz.ntmps5
      go_upto_region 9 with (first | (go_at_call 11; refine HAW.out.mono ?_; rintro e w1 ⟨rfl, hb1⟩; have HB1 := Lib.hid hb1; clear hb1) | (go_at_call 8; refine (HPS.out _ _ _ HP.out HB1.out).mono ?_; rintro e w2 ⟨A2, n2, c2, rfl, _, hb2⟩; have HB2 : Hid (Below w.heap.size w w2) := Lib.hid (HB1.out.trans (hb2.mono HB1.out.size)); clear hb2))
      have HB3 : Hid (Below w.heap.size w (w2.alloc (.cells #[.int .i64 st.next, .slice A2 n2 c2] 25))) := Lib.hid (below_more HB2.out _)
      generalize w2.alloc (.cells #[.int .i64 st.next, .slice A2 n2 c2] 25) = W3 at HB3 ⊢
      have HFN := Lib.hid (HFI.out N W3 HLN.out.1 HLN.out.2)
      go_wp2_with (first | (go_at_call 15; refine HFN.out.mono ?_; rintro e w4 ⟨r, rfl, hr, rfl⟩; have HR := Lib.hid hr; clear hr) | (go_at_call 8; refine (HPS.out _ _ ((st2.next, sortV st2.nds), 0, 0) (by rw [HR.out]; exact HP2.out) HB3.out).mono ?_; rintro e w5 ⟨A5, n5, c5, rfl, _, hb5⟩; have HB5 : Hid (Below w.heap.size w w5) := Lib.hid (HB3.out.trans (hb5.mono HB3.out.size)); clear hb5))
      go_ret
      exact ⟨rfl, by (repeat (first | exact HB5.out | refine below_more ?_ _))⟩
    · have hlt : ¬ n < 1 := hn
      obtain ⟨N, rfl⟩ : ∃ N : Nat, n = (N : Int) := ⟨n.toNat, by omega⟩
      have HLN : Hid (1 ≤ N ∧ N ≤ 9223372036854775807) := Lib.hid (by omega)
      obtain ⟨st2, hp2, hk2⟩ := hf N HLN.out.1
      have HP := Lib.hid hp
      have HP2 := Lib.hid hp2
      have hnx : (0 : Int) < st2.next := by have := hk2.n1; omega
      clear hp hp2 hk hf hk2 hn hn1 hn2
      go_enter Tryz.func5, Tryz.ntmps5
      go_upto_region 9 with (first | (go_at_call 11; refine HAW.out.mono ?_; rintro e w1 ⟨rfl, hb1⟩; have HB1 := Lib.hid hb1; clear hb1) | (go_at_call 8; refine (HPS.out _ _ _ HP.out HB1.out).mono ?_; rintro e w2 ⟨A2, n2, c2, rfl, _, hb2⟩; have HB2 : Hid (Below w.heap.size w w2) := Lib.hid (HB1.out.trans (hb2.mono HB1.out.size)); clear hb2))
      have HB3 : Hid (Below w.heap.size w (w2.alloc (.cells #[.int .i64 st.next, .slice A2 n2 c2] 25))) := Lib.hid (below_more HB2.out _)
      generalize w2.alloc (.cells #[.int .i64 st.next, .slice A2 n2 c2] 25) = W3 at HB3 ⊢
      have HFN := Lib.hid (HFI.out N W3 HLN.out.1 HLN.out.2)
      go_wp2_with (first | (go_at_call 15; refine HFN.out.mono ?_; rintro e w4 ⟨r, rfl, hr, rfl⟩; have HR := Lib.hid hr; clear hr) | (go_at_call 8; refine (HPS.out _ _ ((st2.next, sortV st2.nds), 0, 0) (by rw [HR.out]; exact HP2.out) HB3.out).mono ?_; rintro e w5 ⟨A5, n5, c5, rfl, _, hb5⟩; have HB5 : Hid (Below w.heap.size w w5) := Lib.hid (HB3.out.trans (hb5.mono HB3.out.size)); clear hb5))
      go_ret
      exact ⟨rfl, by (repeat (first | exact HB5.out | refine below_more ?_ _))⟩
  · by_cases hn : n < 1
    · have hlt : n < 1 := hn
      have htm := tmod_bounds n hn
      have hw0 : IntKind.i64.wrap (n.tmod 1000) = n.tmod 1000 := IntWalk.i64_in _ (by omega)
      have hw1 : IntKind.i64.wrap (1 - n.tmod 1000) = (linesN n : Int) := by rw [IntWalk.i64_in _ (by omega)]; unfold linesN; rw [if_pos hn]; omega
      have HLN := Lib.hid (linesN_ok hn2)
      generalize linesN n = N at hw1 HLN
      have HP := Lib.hid hp
      have HP2 := Lib.hid hf
      have HG := Lib.hid hg
      have hm1 : ¬ (m : Int) < 1 := by omega
      have hw9 : IntKind.i64.wrap ((m : Int) - 1) = ((m - 1 : Nat) : Int) := by rw [IntWalk.i64_in _ (by omega)]; omega
      clear hp hf hg hn hn1 hn2
      go_enter Tryz.func5, Tryz.ntmps5
      go_upto_region 13 with (first | (go_at_call 11; refine HAW.out.mono ?_; rintro e w1 ⟨rfl, hb1⟩; have HB1 := Lib.hid hb1; clear hb1) | (go_at_call 8; refine (HPS.out _ _ _ HP.out HB1.out).mono ?_; rintro e w2 ⟨A2, n2, c2, rfl, _, hb2⟩; have HB2 : Hid (Below w.heap.size w w2) := Lib.hid (HB1.out.trans (hb2.mono HB1.out.size)); clear hb2))
      have HB3 : Hid (Below w.heap.size w (w2.alloc (.cells #[.int .i64 0, .slice A2 n2 c2] 25))) := Lib.hid (below_more HB2.out _)
      generalize w2.alloc (.cells #[.int .i64 0, .slice A2 n2 c2] 25) = W3 at HB3 ⊢
      have HFN := Lib.hid (HFI.out m W3 h1 (by omega))
      by_cases hm2 : m = 1
      · have d1 : ((m : Int) == 1) = true := by rw [hm2]; rfl
        clear hm2
        go_wp2_with (first | (go_at_call 15; refine HFN.out.mono ?_; rintro e w4 ⟨r, rfl, hr, rfl⟩; have HR := Lib.hid hr; clear hr) | (go_at_call 8; refine (HPS.out _ _ ((0, []), (m : Int), 30) (by rw [HR.out]; exact HP2.out) HB3.out).mono ?_; rintro e w5 ⟨A5, n5, c5, rfl, _, hb5⟩; have HB5 : Hid (Below w.heap.size w w5) := Lib.hid (HB3.out.trans (hb5.mono HB3.out.size)); clear hb5))
        go_ret
        exact ⟨rfl, by (repeat (first | exact HB5.out | refine below_more ?_ _))⟩
      · have d1 : ((m : Int) == 1) = false := by rw [beq_eq_false_iff_ne]; omega
        obtain ⟨st2, hp3, hk3⟩ := HG.out (by omega)
        have HP3 := Lib.hid hp3
        have hmm : 1 ≤ m - 1 := by omega
        clear hm2 hp3 hk3
        go_upto_region 18 with (first | (go_at_call 15; refine HFN.out.mono ?_; rintro e w4 ⟨r, rfl, hr, rfl⟩; have HR := Lib.hid hr; clear hr) | (go_at_call 8; refine (HPS.out _ _ ((0, []), (m : Int), 30) (by rw [HR.out]; exact HP2.out) HB3.out).mono ?_; rintro e w5 ⟨A5, n5, c5, rfl, _, hb5⟩; have HB5 : Hid (Below w.heap.size w w5) := Lib.hid (HB3.out.trans (hb5.mono HB3.out.size)); clear hb5))
        have HB6 : Hid (Below w.heap.size w (w5.alloc (.cells #[.int .i64 0, .slice A5 n5 c5] 25))) := Lib.hid (below_more HB5.out _)
        generalize w5.alloc (.cells #[.int .i64 0, .slice A5 n5 c5] 25) = W6 at HB6 ⊢
        have HFM := Lib.hid (HFI.out (m - 1) W6 hmm (by omega))
        go_wp2_with (first | (go_at_call 15; refine HFM.out.mono ?_; rintro e w7 ⟨r7, rfl, hr7, rfl⟩; have HR7 := Lib.hid hr7; clear hr7) | (go_at_call 8; refine (HPS.out _ _ ((st2.next, sortV st2.nds), 0, 0) (by rw [HR7.out]; exact HP3.out) HB6.out).mono ?_; rintro e w8 ⟨A8, n8, c8, rfl, _, hb8⟩; have HB8 : Hid (Below w.heap.size w w8) := Lib.hid (HB6.out.trans (hb8.mono HB6.out.size)); clear hb8))
        go_ret
        exact ⟨rfl, by (repeat (first | exact HB8.out | refine below_more ?_ _))⟩
    · have hlt : ¬ n < 1 := hn
      obtain ⟨N, rfl⟩ : ∃ N : Nat, n = (N : Int) := ⟨n.toNat, by omega⟩
      have HLN : Hid (1 ≤ N ∧ N ≤ 9223372036854775807) := Lib.hid (by omega)
      have HP := Lib.hid hp
      have HP2 := Lib.hid hf
      have HG := Lib.hid hg
      have hm1 : ¬ (m : Int) < 1 := by omega
      have hw9 : IntKind.i64.wrap ((m : Int) - 1) = ((m - 1 : Nat) : Int) := by rw [IntWalk.i64_in _ (by omega)]; omega
      clear hp hf hg hn hn1 hn2
      go_enter Tryz.func5, Tryz.ntmps5
      go_upto_region 13 with (first | (go_at_call 11; refine HAW.out.mono ?_; rintro e w1 ⟨rfl, hb1⟩; have HB1 := Lib.hid hb1; clear hb1) | (go_at_call 8; refine (HPS.out _ _ _ HP.out HB1.out).mono ?_; rintro e w2 ⟨A2, n2, c2, rfl, _, hb2⟩; have HB2 : Hid (Below w.heap.size w w2) := Lib.hid (HB1.out.trans (hb2.mono HB1.out.size)); clear hb2))
      have HB3 : Hid (Below w.heap.size w (w2.alloc (.cells #[.int .i64 0, .slice A2 n2 c2] 25))) := Lib.hid (below_more HB2.out _)
      generalize w2.alloc (.cells #[.int .i64 0, .slice A2 n2 c2] 25) = W3 at HB3 ⊢
      have HFN := Lib.hid (HFI.out m W3 h1 (by omega))
      by_cases hm2 : m = 1
      · have d1 : ((m : Int) == 1) = true := by rw [hm2]; rfl
        clear hm2
        go_wp2_with (first | (go_at_call 15; refine HFN.out.mono ?_; rintro e w4 ⟨r, rfl, hr, rfl⟩; have HR := Lib.hid hr; clear hr) | (go_at_call 8; refine (HPS.out _ _ ((0, []), (m : Int), 30) (by rw [HR.out]; exact HP2.out) HB3.out).mono ?_; rintro e w5 ⟨A5, n5, c5, rfl, _, hb5⟩; have HB5 : Hid (Below w.heap.size w w5) := Lib.hid (HB3.out.trans (hb5.mono HB3.out.size)); clear hb5))
        go_ret
        exact ⟨rfl, by (repeat (first | exact HB5.out | refine below_more ?_ _))⟩
      · have d1 : ((m : Int) == 1) = false := by rw [beq_eq_false_iff_ne]; omega
        obtain ⟨st2, hp3, hk3⟩ := HG.out (by omega)
        have HP3 := Lib.hid hp3
        have hmm : 1 ≤ m - 1 := by omega
        clear hm2 hp3 hk3
        go_upto_region 18 with (first | (go_at_call 15; refine HFN.out.mono ?_; rintro e w4 ⟨r, rfl, hr, rfl⟩; have HR := Lib.hid hr; clear hr) | (go_at_call 8; refine (HPS.out _ _ ((0, []), (m : Int), 30) (by rw [HR.out]; exact HP2.out) HB3.out).mono ?_; rintro e w5 ⟨A5, n5, c5, rfl, _, hb5⟩; have HB5 : Hid (Below w.heap.size w w5) := Lib.hid (HB3.out.trans (hb5.mono HB3.out.size)); clear hb5))
        have HB6 : Hid (Below w.heap.size w (w5.alloc (.cells #[.int .i64 0, .slice A5 n5 c5] 25))) := Lib.hid (below_more HB5.out _)
        generalize w5.alloc (.cells #[.int .i64 0, .slice A5 n5 c5] 25) = W6 at HB6 ⊢
        have HFM := Lib.hid (HFI.out (m - 1) W6 hmm (by omega))
        go_wp2_with (first | (go_at_call 15; refine HFM.out.mono ?_; rintro e w7 ⟨r7, rfl, hr7, rfl⟩; have HR7 := Lib.hid hr7; clear hr7) | (go_at_call 8; refine (HPS.out _ _ ((st2.next, sortV st2.nds), 0, 0) (by rw [HR7.out]; exact HP3.out) HB6.out).mono ?_; rintro e w8 ⟨A8, n8, c8, rfl, _, hb8⟩; have HB8 : Hid (Below w.heap.size w w8) := Lib.hid (HB6.out.trans (hb8.mono HB6.out.size)); clear hb8))
        go_ret
        exact ⟨rfl, by (repeat (first | exact HB8.out | refine below_more ?_ _))⟩
end Go.Proofs.YtjjlofaejpnnnaaGreatDoor

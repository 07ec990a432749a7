/-
  A LINE AS THE PROGRAM READS IT (cut at the first sign), in plain mathematics, and that it is the document's reading of the line.
  A LINE WHOLE, as the program reads it, in plain mathematics: it is the document's reading.
  WHAT HOLDS of what has been read, in plain mathematics: numbers, depths, lengths.
  IN THE ORDER OF THEIR NUMBERS, in plain mathematics: one list alone is sorted and has these nodes.
  THE LEAST NUMBER ABOVE THE LAST ONE, in plain mathematics: what the document's selection finds is the next node of the sorted list.
  MEMORY OF THE CALL's OWN: slices that were built, their cells, what they read as; lists that were lent, with a mark behind.
-/
import Derived.Test.YtjjlofaejpnnnaaGreatDoorZO6
import Derived.Deep.AppendLies
import Derived.Deep.RegionHeld3
import Derived.Maps.AppendAt
namespace Go.Proofs.YtjjlofaejpnnnaaGreatDoor
open Go Go.RowKit
set_option linter.unusedVariables false
theorem innC_ne {c : UInt8} (h : innC c = true) : c ≠ 32 ∧ c ≠ 61 ∧ c ≠ 10 := by
  refine ⟨?_, ?_, ?_⟩ <;> rintro rfl <;> exact absurd h (by decide)
theorem nameL_ne : ∀ {l : List UInt8}, nameL l = true → ∀ c ∈ l, c ≠ 32 ∧ c ≠ 61 ∧ c ≠ 10
  | x :: r, h, c, hc => by
    unfold nameL at h
    simp only [Bool.and_eq_true, decide_eq_true_eq] at h
    rcases List.mem_cons.1 hc with rfl | hc
    · exact innC_ne (by unfold innC innB; rw [h.1.2]; rfl)
    · exact innC_ne (List.all_eq_true.1 h.2 c hc)
theorem wordL_ne {l : List UInt8} (h : wordL l = true) : ∀ c ∈ l, c ≠ 32 ∧ c ≠ 61 ∧ c ≠ 10 := by
  intro c hc
  unfold wordL at h
  cases l with
  | nil => cases hc
  | cons x r =>
    simp only [stripL] at h
    by_cases hx : x = 63
    · rw [if_pos hx] at h
      rcases List.mem_cons.1 hc with rfl | hc
      · subst hx; decide
      · exact nameL_ne h c hc
    · rw [if_neg hx] at h
      exact nameL_ne h c hc
theorem wordL_nil : wordL [] = false := by decide
/-- ahead of the first c, and behind it -/
def cutA (c : UInt8) (l : List UInt8) : List UInt8 := l.takeWhile (· != c)
def cutB (c : UInt8) (l : List UInt8) : List UInt8 := (l.drop (cutA c l).length).drop 1
theorem cutA_nil (c : UInt8) : cutA c [] = [] := rfl
theorem cut_all {c : UInt8} : ∀ {l : List UInt8}, (∀ x ∈ l, x ≠ c) → cutA c l = l ∧ cutB c l = []
  | [], _ => ⟨rfl, rfl⟩
  | x :: l, h => by
    have hx : (x != c) = true := by simpa using h x (by simp)
    obtain ⟨h1, h2⟩ := cut_all (l := l) fun y hy => h y (by simp [hy])
    have e : cutA c (x :: l) = x :: cutA c l := by unfold cutA; rw [List.takeWhile_cons, if_pos hx]
    refine ⟨by rw [e, h1], ?_⟩
    unfold cutB
    rw [e, h1]
    simp
theorem cut_at {c : UInt8} {a b : List UInt8} (h : ∀ x ∈ a, x ≠ c) : cutA c (a ++ c :: b) = a ∧ cutB c (a ++ c :: b) = b := by
  have e : cutA c (a ++ c :: b) = a := by
    unfold cutA
    rw [List.takeWhile_append_of_pos (fun x hx => by simpa using h x hx), List.takeWhile_cons]
    simp
  refine ⟨e, ?_⟩
  unfold cutB
  rw [e]
  simp
theorem takeWhile_mem {p : UInt8 → Bool} : ∀ {l : List UInt8} {x : UInt8}, x ∈ l.takeWhile p → p x = true
  | y :: l, x, h => by
    rw [List.takeWhile_cons] at h
    split at h
    · rename_i hy
      rcases List.mem_cons.1 h with rfl | h
      · exact hy
      · exact takeWhile_mem h
    · cases h
/-- a list is its row of bytes of a word, and what is left begins with a blank or an equals sign -/
theorem wordP_parts (t : List UInt8) : ∃ w r, t = w ++ r ∧ wordP t = w ∧ t.drop (wordP t).length = r ∧ (∀ x ∈ w, x ≠ 32 ∧ x ≠ 61) ∧ (r = [] ∨ ∃ v, r = 32 :: v ∨ r = 61 :: v) := by
  refine ⟨wordP t, t.drop (wordP t).length, ?_, rfl, rfl, fun x hx => ?_, ?_⟩
  · unfold wordP
    induction t with
    | nil => rfl
    | cons x l ih =>
      rw [List.takeWhile_cons]
      split
      · rw [List.length_cons, List.drop_succ_cons, List.cons_append, ← ih]
      · rfl
  · have := takeWhile_mem hx
    simpa using this
  · unfold wordP
    induction t with
    | nil => exact .inl rfl
    | cons x l ih =>
      rw [List.takeWhile_cons]
      split
      · rw [List.length_cons, List.drop_succ_cons]
        exact ih
      · rename_i hx
        refine .inr ⟨l, ?_⟩
        have : x = 32 ∨ x = 61 := by
          by_cases h1 : x = 32
          · exact .inl h1
          · by_cases h2 : x = 61
            · exact .inr h2
            · exact absurd (by simp [h1, h2]) hx
        rcases this with rfl | rfl
        · exact .inl rfl
        · exact .inr rfl
/-- a name, an equals sign, and the rest -/
theorem arm_eq (F : List UInt8 → List UInt8 → Option RS) (hF : ∀ w, F w [] = none) (t : List UInt8) :
    (match t.drop (wordP t).length with | e :: v => if e = 61 ∧ wordL (wordP t) = true then F (wordP t) v else none | [] => none) = if wordL (cutA 61 t) = true then F (cutA 61 t) (cutB 61 t) else none := by
  obtain ⟨w, r, ht, hw, hr, hne, hcase⟩ := wordP_parts t
  rw [hr, hw]
  rcases hcase with rfl | ⟨v, rfl | rfl⟩
  · obtain ⟨h1, h2⟩ := cut_all (c := 61) (l := t) fun x hx => (hne x (by rw [ht] at hx; simpa using hx)).2
    rw [h1, h2, hF]
    simp
  · have hno : wordL (cutA 61 t) = false := by
      cases hb : wordL (cutA 61 t) with
      | false => rfl
      | true =>
        have h3 : (32 : UInt8) ∈ cutA 61 t := by
          rw [ht]
          unfold cutA
          rw [List.takeWhile_append_of_pos (fun x hx => by simpa using (hne x hx).2), List.takeWhile_cons]
          simp
        exact absurd rfl (wordL_ne hb 32 h3).1
    rw [hno]
    simp
  · obtain ⟨h1, h2⟩ := cut_at (c := 61) (a := w) (b := v) fun x hx => (hne x hx).2
    rw [ht, h1, h2]
    simp
theorem wordV_cons (c : UInt8) (t : List UInt8) : wordV (c :: t) = if c = 32 ∧ wordL (wordP t) = true then some (wordP t, t.drop (wordP t).length) else none := rfl
theorem itoa_ne (v : Int) : ∀ c ∈ Lib.itoa v, c ≠ 61 ∧ c ≠ 32 := by
  have key : ∀ (u : Nat), ∀ c ∈ Lib.decDigits u, c ≠ 61 ∧ c ≠ 32 := by
    intro u c hc
    have h := List.all_eq_true.1 (dec_val u).2 c hc
    constructor <;> rintro rfl <;> exact absurd h (by decide)
  intro c hc
  unfold Lib.itoa at hc
  split at hc
  · rcases List.mem_cons.1 hc with rfl | hc
    · decide
    · exact key _ c hc
  · exact key _ c hc
theorem numberV_ne {l : List UInt8} {b n : Int} (h : numberV l b = some n) : ∀ c ∈ l, c ≠ 61 ∧ c ≠ 32 := by
  unfold numberV at h
  cases hi : intT l with
  | none => rw [hi] at h; cases h
  | some v =>
    have := (intT_out hi).1
    rw [← this]
    exact itoa_ne v
theorem numberV_nil (b : Int) : numberV [] b = none := by
  cases h : numberV [] b with
  | none => rfl
  | some n =>
    unfold numberV at h
    cases hi : intT [] with
    | none => rw [hi] at h; cases h
    | some v =>
      have h1 := (intT_out hi).1
      exfalso
      unfold Lib.itoa at h1
      split at h1
      · cases h1
      · have : ∀ u : Nat, Lib.decDigits u ≠ [] := by
          intro u h2
          rw [Lib.decDigits] at h2
          split at h2
          · cases h2
          · simp at h2
        exact this _ h1
/-- a node's line behind its blanks, as the program cuts it -/
def nodeP (st : RS) (d : Nat) (s : List UInt8) : Option RS := (numberV (cutA 32 s) st.next).bind fun id =>
  (if d = 0 then some ([], cutB 32 s) else if wordL (cutA 32 (cutB 32 s)) = true then some (cutA 32 (cutB 32 s), cutB 32 (cutB 32 s)) else none).bind fun r =>
    if wordL r.2 = true then standsV st ⟨id, bytesOf r.2, 0, bytesOf r.1, [], [], []⟩ d else none
/-- a word up to the end -/
theorem word_end (t : List UInt8) (F : List UInt8 → Option RS) :
    ((wordV (32 :: t)).bind fun q => if q.2 = [] then F q.1 else none) = if wordL t = true then F t else none := by
  obtain ⟨w, r, ht, hw, hr, hne, hcase⟩ := wordP_parts t
  rw [wordV_cons, hr, hw]
  by_cases hwl : wordL w = true
  · rw [if_pos ⟨rfl, hwl⟩]
    simp only [Option.bind_some]
    rcases hcase with rfl | ⟨v, hv⟩
    · have : t = w := by rw [ht]; simp
      rw [if_pos rfl, this, if_pos hwl]
    · have hrn : r ≠ [] := by rcases hv with rfl | rfl <;> simp
      rw [if_neg hrn]
      have hno : wordL t = false := by
        cases hb : wordL t with
        | false => rfl
        | true =>
          exfalso
          rcases hv with rfl | rfl
          · exact (wordL_ne hb 32 (by rw [ht]; simp)).1 rfl
          · exact (wordL_ne hb 61 (by rw [ht]; simp)).2.1 rfl
      rw [hno]; simp
  · rw [if_neg (fun h => hwl h.2)]
    simp only [Option.bind_none]
    have hno : wordL t = false := by
      cases hb : wordL t with
      | false => rfl
      | true =>
        exfalso
        have hall : t = w := by
          rcases hcase with rfl | ⟨v, rfl | rfl⟩
          · rw [ht]; simp
          · exact absurd rfl (wordL_ne hb 32 (by rw [ht]; simp)).1
          · exact absurd rfl (wordL_ne hb 61 (by rw [ht]; simp)).2.1
        rw [hall] at hb
        exact hwl hb
    rw [hno]; simp
theorem word_end' (u : List UInt8) (F : List UInt8 → Option RS) (h : ∀ v, u ≠ 32 :: v) : ((wordV u).bind fun q => if q.2 = [] then F q.1 else none) = none := by
  cases u with
  | nil => rfl
  | cons c t =>
    rw [wordV_cons, if_neg (fun hc => h t (by rw [hc.1]))]
    rfl
theorem nodeP_eq (st : RS) (d : Nat) (s : List UInt8) : nodeP st d s = (numberV (wordP s) st.next).bind fun id => nodeV st d id (s.drop (wordP s).length) := by
  obtain ⟨w, r, hs, hw, hr, hne, hcase⟩ := wordP_parts s
  rw [hr, hw]
  unfold nodeP
  rcases hcase with rfl | ⟨v, rfl | rfl⟩
  · obtain ⟨h1, h2⟩ := cut_all (c := 32) (l := s) fun x hx => (hne x (by rw [hs] at hx; simpa using hx)).1
    rw [h1, h2, show s = w from by rw [hs]; simp]
    congr 1
    funext id
    unfold nodeV
    by_cases hd : d = 0
    · simp [hd, wordL_nil, wordV]
    · simp [hd, wordL_nil, wordV, cutA_nil]
  · obtain ⟨h1, h2⟩ := cut_at (c := 32) (a := w) (b := v) fun x hx => (hne x hx).1
    rw [hs, h1, h2]
    congr 1
    funext id
    unfold nodeV
    by_cases hd : d = 0
    · rw [if_pos hd, if_pos hd]
      simp only [Option.bind_some]
      exact (word_end v fun q => standsV st ⟨id, bytesOf q, 0, bytesOf [], [], [], []⟩ d).symm
    · rw [if_neg hd, if_neg hd]
      obtain ⟨w2, r2, hv, hw2, hr2, hne2, hcase2⟩ := wordP_parts v
      have e : wordV (32 :: v) = if wordL w2 = true then some (w2, r2) else none := by
        rw [wordV_cons, hr2, hw2]
        simp
      rw [e]
      rcases hcase2 with rfl | ⟨v2, rfl | rfl⟩
      · obtain ⟨h3, h4⟩ := cut_all (c := 32) (l := v) fun x hx => (hne2 x (by rw [hv] at hx; simpa using hx)).1
        rw [h3, h4, show v = w2 from by rw [hv]; simp]
        by_cases hb : wordL w2 = true
        · simp [hb, wordL_nil, wordV]
        · simp [hb]
      · obtain ⟨h3, h4⟩ := cut_at (c := 32) (a := w2) (b := v2) fun x hx => (hne2 x hx).1
        rw [hv, h3, h4]
        by_cases hb : wordL w2 = true
        · rw [if_pos hb, if_pos hb]
          simp only [Option.bind_some]
          exact (word_end v2 fun q => standsV st ⟨id, bytesOf q, 0, bytesOf w2, [], [], []⟩ d).symm
        · rw [if_neg hb, if_neg hb]
          rfl
      · have hno : wordL (cutA 32 v) = false := by
          cases hb : wordL (cutA 32 v) with
          | false => rfl
          | true =>
            have h3 : (61 : UInt8) ∈ cutA 32 v := by
              rw [hv]
              unfold cutA
              rw [List.takeWhile_append_of_pos (fun x hx => by simpa using (hne2 x hx).1), List.takeWhile_cons]
              simp
            exact absurd rfl (wordL_ne hb 61 h3).2.1
        rw [hno]
        by_cases hb : wordL w2 = true
        · rw [if_pos hb]
          simp only [Option.bind_some]
          rw [word_end' _ (fun q => standsV st ⟨id, bytesOf q, 0, bytesOf w2, [], [], []⟩ d) (by intro x; simp)]
          simp
        · rw [if_neg hb]
          simp
  · have hno : numberV (cutA 32 s) st.next = none := by
      cases hb : numberV (cutA 32 s) st.next with
      | none => rfl
      | some n =>
        have h3 : (61 : UInt8) ∈ cutA 32 s := by
          rw [hs]
          unfold cutA
          rw [List.takeWhile_append_of_pos (fun x hx => by simpa using (hne x hx).1), List.takeWhile_cons]
          simp
        exact absurd rfl (numberV_ne hb 61 h3).1
    rw [hno]
    cases hb : numberV w st.next with
    | none => rfl
    | some id =>
      simp only [Option.bind_none, Option.bind_some]
      unfold nodeV
      by_cases hd : d = 0
      · rw [if_pos hd]
        simp only [Option.bind_some]
        rw [word_end' _ (fun q => standsV st ⟨id, bytesOf q, 0, bytesOf [], [], [], []⟩ d) (by intro x; simp)]
      · rw [if_neg hd]
        have : wordV (61 :: v) = none := by rw [wordV_cons, if_neg (fun h => absurd h.1 (by decide))]
        rw [this]
        rfl
end Go.Proofs.YtjjlofaejpnnnaaGreatDoor
namespace Go.Proofs.YtjjlofaejpnnnaaGreatDoor
open Go Go.RowKit
set_option linter.unusedVariables false
theorem hasV_nil (st : RS) (nd : Nd) (w : List UInt8) : hasV st nd w [] = none := by
  have h : unq (bytesOf []) 0 = ([], 0, 10) := by
    unfold unq
    rw [if_neg (by decide), dif_neg (by decide)]
  unfold hasV
  simp only [h]
  rw [if_neg (by simp)]
theorem refersV_nil (st : RS) (nd : Nd) (w : List UInt8) : refersV st nd w [] = none := by
  unfold refersV
  rw [numberV_nil]
/-- the last node, if a line with so many blanks is one of its lines -/
def lastNd (st : RS) (d : Nat) : Option Nd := if d = st.deep.getLastD 0 then st.nds.getLast? else none
def propP (st : RS) (d : Nat) (t : List UInt8) : Option RS := (lastNd st d).bind fun nd => if wordL (cutA 61 t) = true then hasV st nd (cutA 61 t) (cutB 61 t) else none
def refP (st : RS) (d : Nat) (t : List UInt8) : Option RS := (lastNd st d).bind fun nd => if wordL (cutA 61 t) = true then refersV st nd (cutA 61 t) (cutB 61 t) else none
def firstP (s : List UInt8) : Option RS := if s.take 5 = [110, 101, 120, 116, 32] then (numberV (s.drop 5) 1048578).map fun n => ⟨n, [], []⟩ else none
/-- a line as the program reads it -/
def lineV (st : RS) (s : List UInt8) : Option RS :=
  if st.next = 0 then firstP s
  else
    let d := (s.takeWhile (· == 32)).length
    match s.drop d with
    | 46 :: t => propP st d t
    | 62 :: t => refP st d t
    | r => nodeP st d r
theorem firstP_eq (s : List UInt8) : (if 5 < s.length ∧ s.take 5 = [110, 101, 120, 116, 32] then (numberV (s.drop 5) 1048578).map fun n => (⟨n, [], []⟩ : RS) else none) = firstP s := by
  unfold firstP
  by_cases h : s.take 5 = [110, 101, 120, 116, 32]
  · rw [if_pos h]
    by_cases h5 : 5 < s.length
    · rw [if_pos ⟨h5, h⟩]
    · rw [if_neg (fun hh => h5 hh.1), List.drop_eq_nil_of_le (by omega), numberV_nil]
      rfl
  · rw [if_neg h, if_neg (fun hh => h hh.2)]
theorem nodeP_nil (st : RS) (d : Nat) : nodeP st d [] = none := by
  unfold nodeP
  rw [cutA_nil, numberV_nil]
  rfl
theorem armV (st : RS) (d : Nat) (c : UInt8) (t : List UInt8) :
    (match st.nds.getLast?, t.drop (wordP t).length with
      | some nd, e :: v => if d = st.deep.getLastD 0 ∧ e = 61 ∧ wordL (wordP t) = true then (if c = 62 then refersV st nd (wordP t) v else hasV st nd (wordP t) v) else none
      | _, _ => none) = if c = 62 then refP st d t else propP st d t := by
  unfold refP propP lastNd
  cases hl : st.nds.getLast? with
  | none => simp
  | some nd =>
    have hF : ∀ w, (if c = 62 then refersV st nd w [] else hasV st nd w []) = none := by
      intro w
      split
      · exact refersV_nil _ _ _
      · exact hasV_nil _ _ _
    have h := arm_eq (fun w v => if c = 62 then refersV st nd w v else hasV st nd w v) hF t
    by_cases hd : d = st.deep.getLastD 0
    · rw [if_pos hd]
      simp only [Option.bind_some]
      have e : (if c = 62 then (if wordL (cutA 61 t) = true then refersV st nd (cutA 61 t) (cutB 61 t) else none) else (if wordL (cutA 61 t) = true then hasV st nd (cutA 61 t) (cutB 61 t) else none)) =
          if wordL (cutA 61 t) = true then (if c = 62 then refersV st nd (cutA 61 t) (cutB 61 t) else hasV st nd (cutA 61 t) (cutB 61 t)) else none := by
        by_cases hc : c = 62 <;> simp [hc]
      rw [e, ← h]
      cases t.drop (wordP t).length with
      | nil => rfl
      | cons x v => simp [hd]
    · rw [if_neg hd]
      simp only [Option.bind_none, ite_self]
      cases t.drop (wordP t).length with
      | nil => rfl
      | cons x v => exact if_neg fun hh => hd hh.1
theorem takesV_line (st : RS) (s : List UInt8) : takesV st s = lineV st s := by
  unfold takesV lineV
  by_cases h0 : st.next = 0
  · rw [if_pos h0, if_pos h0]
    exact firstP_eq s
  · rw [if_neg h0, if_neg h0]
    simp only
    cases hr : s.drop (s.takeWhile (· == 32)).length with
    | nil => simp only; exact (nodeP_nil _ _).symm
    | cons c t =>
      simp only
      by_cases h46 : c = 46
      · subst h46
        rw [if_pos (.inl rfl)]
        exact (armV st _ 46 t).trans (if_neg (by decide))
      · by_cases h62 : c = 62
        · subst h62
          rw [if_pos (.inr rfl)]
          exact (armV st _ 62 t).trans (if_pos rfl)
        · rw [if_neg (by simp [h46, h62]), ← nodeP_eq]
          split
          · rename_i heq; injection heq with h _; exact absurd h h46
          · rename_i heq; injection heq with h _; exact absurd h h62
          · rfl
end Go.Proofs.YtjjlofaejpnnnaaGreatDoor
namespace Go.Proofs.YtjjlofaejpnnnaaGreatDoor
open Go Go.RowKit
set_option linter.unusedVariables false
structure RsOk (st : RS) : Prop where
  n1 : 1 ≤ st.next
  n2 : st.next ≤ 1048577
  dl : st.deep.length = st.nds.length
  dk : DeepOk st.deep
  ln : st.nds.length ≤ 4096
  id : ∀ x ∈ st.nds.map (·.id), 1 ≤ x ∧ x < st.next
  ds : (st.nds.map (·.id)).Nodup
theorem numberV_some {l : List UInt8} {b n : Int} (h : numberV l b = some n) : intT l = some n ∧ 1 ≤ n ∧ n < b := by
  unfold numberV at h
  cases hi : intT l with
  | none => rw [hi] at h; cases h
  | some v =>
    rw [hi] at h
    simp only at h
    split at h
    · obtain rfl := Option.some.inj h
      rename_i hh
      exact ⟨rfl, hh⟩
    · cases h
theorem last_split {l : List Nd} {nd : Nd} (h : l.getLast? = some nd) : l = l.dropLast ++ [nd] := by
  have hne : l ≠ [] := by rintro rfl; cases h
  rw [List.getLast?_eq_some_getLast hne] at h
  obtain rfl := Option.some.inj h
  exact (List.dropLast_concat_getLast hne).symm
theorem lastV_ids {st : RS} {nd nd' : Nd} (h : st.nds.getLast? = some nd) (hi : nd'.id = nd.id) : (lastV st nd').nds.map (·.id) = st.nds.map (·.id) := by
  have e := last_split h
  unfold lastV
  simp only
  rw [List.map_append, List.map_singleton, hi]
  conv => rhs; rw [e]
  simp
theorem lastV_len {st : RS} {nd nd' : Nd} (h : st.nds.getLast? = some nd) : (lastV st nd').nds.length = st.nds.length := by
  have e := congrArg List.length (last_split h)
  unfold lastV
  simp only [List.length_append, List.length_singleton] at e ⊢
  omega
theorem RsOk.last {st : RS} {nd nd' : Nd} (h : RsOk st) (hl : st.nds.getLast? = some nd) (hi : nd'.id = nd.id) : RsOk (lastV st nd') :=
  ⟨h.n1, h.n2, h.dl.trans (lastV_len hl).symm, h.dk, by rw [lastV_len hl]; exact h.ln, by rw [lastV_ids hl hi]; exact h.id, by rw [lastV_ids hl hi]; exact h.ds⟩
theorem hasV_ok {st st' : RS} {nd : Nd} {w v : List UInt8} (h : RsOk st) (hl : st.nds.getLast? = some nd) (hv : hasV st nd w v = some st') : RsOk st' := by
  unfold hasV at hv
  simp only at hv
  split at hv
  · obtain rfl := Option.some.inj hv
    exact h.last hl rfl
  · cases hv
theorem refersV_ok {st st' : RS} {nd : Nd} {w v : List UInt8} (h : RsOk st) (hl : st.nds.getLast? = some nd) (hv : refersV st nd w v = some st') : RsOk st' := by
  unfold refersV at hv
  cases hn : numberV v st.next with
  | none => rw [hn] at hv; cases hv
  | some n =>
    rw [hn] at hv
    simp only at hv
    split at hv
    · obtain rfl := Option.some.inj hv
      exact h.last hl rfl
    · cases hv
theorem set_ids {l : List Nd} {i : Nat} {nd nd' : Nd} (h : l[i]? = some nd) (hi : nd'.id = nd.id) : (l.set i nd').map (·.id) = l.map (·.id) := by
  rw [List.map_set]
  have h1 : (l.map (·.id))[i]? = some nd'.id := by rw [List.getElem?_map, h, hi]; rfl
  obtain ⟨hlt, e⟩ := List.getElem?_eq_some_iff.1 h1
  rw [← e]
  exact List.set_getElem_self hlt
/-- a node more: the ids grow by its own -/
structure Stood (st : RS) (n : Nd) (d : Nat) (st' : RS) : Prop where
  nx : st'.next = st.next
  dp : st'.deep = st.deep ++ [d + 1]
  ln : st.nds.length < 4096
  d64 : d < 64
  dle : d ≤ st.deep.getLastD 0
  nw : n.id ∉ st.nds.map (·.id)
  ids : st'.nds.map (·.id) = st.nds.map (·.id) ++ [n.id]
theorem standsV_stood {st st' : RS} {n : Nd} {d : Nat} (h : standsV st n d = some st') : Stood st n d st' := by
  unfold standsV at h
  split at h
  · cases h
  · rename_i hno
    have h1 : st.nds.length < 4096 := by omega
    have h2 : d < 64 := by omega
    have h3 : d ≤ st.deep.getLastD 0 := by omega
    have h4 : n.id ∉ st.nds.map (·.id) := by
      intro hm
      obtain ⟨x, hx, he⟩ := List.mem_map.1 hm
      exact hno (.inr (.inr (.inr (List.any_eq_true.2 ⟨x, hx, by simpa using he⟩))))
    split at h
    · rename_i hd
      subst hd
      have key : ∀ st'', some (⟨st.next, st.nds ++ [n], st.deep ++ [1]⟩ : RS) = some st'' → Stood st n 0 st'' := by
        intro st'' e
        obtain rfl := Option.some.inj e
        exact ⟨rfl, rfl, h1, h2, h3, h4, by simp⟩
      cases hu : upV st 1 with
      | none =>
        rw [hu] at h
        simp only at h
        split at h
        · cases h
        · exact key _ h
      | some r =>
        rw [hu] at h
        simp only at h
        split at h
        · cases h
        · exact key _ h
    · cases hu : upV st d with
      | none => rw [hu] at h; cases h
      | some u =>
        rw [hu] at h
        simp only at h
        obtain rfl := Option.some.inj h
        have hx : st.nds[u.1]? = some u.2 := by
          unfold upV at hu
          obtain ⟨i, _, hi⟩ := Option.bind_eq_some_iff.1 hu
          obtain ⟨nd, hnd, rfl⟩ := Option.map_eq_some_iff.1 hi
          exact hnd
        refine ⟨rfl, rfl, h1, h2, h3, h4, ?_⟩
        simp only
        rw [List.map_append, set_ids (nd' := { u.2 with kids := u.2.kids ++ [n.id] }) hx rfl]
        rfl
theorem RsOk.stood {st st' : RS} {n : Nd} {d : Nat} (h : RsOk st) (hs : Stood st n d st') (h1 : 1 ≤ n.id) (h2 : n.id < st.next) : RsOk st' := by
  have hlen : st'.nds.length = st.nds.length + 1 := by
    have := congrArg List.length hs.ids
    simpa using this
  refine ⟨by rw [hs.nx]; exact h.n1, by rw [hs.nx]; exact h.n2, by rw [hs.dp, hlen, List.length_append, h.dl]; rfl, by rw [hs.dp]; exact h.dk.snoc hs.dle hs.d64, by rw [hlen]; exact hs.ln, ?_, ?_⟩
  · rw [hs.ids, hs.nx]
    intro x hx
    rcases List.mem_append.1 hx with hx | hx
    · exact h.id x hx
    · obtain rfl : x = n.id := by simpa using hx
      exact ⟨h1, h2⟩
  · rw [hs.ids, List.nodup_append]
    refine ⟨h.ds, by simp, fun a ha b hb e => ?_⟩
    obtain rfl : b = n.id := by simpa using hb
    exact hs.nw (e ▸ ha)
theorem nodeP_stood {st st' : RS} {d : Nat} {s : List UInt8} (h : nodeP st d s = some st') : ∃ n : Nd, Stood st n d st' ∧ 1 ≤ n.id ∧ n.id < st.next := by
  unfold nodeP at h
  obtain ⟨id, hid, h⟩ := Option.bind_eq_some_iff.1 h
  obtain ⟨r, _, h⟩ := Option.bind_eq_some_iff.1 h
  split at h
  · exact ⟨_, standsV_stood h, (numberV_some hid).2⟩
  · cases h
theorem lastNd_some {st : RS} {d : Nat} {nd : Nd} (h : lastNd st d = some nd) : d = st.deep.getLastD 0 ∧ st.nds.getLast? = some nd := by
  unfold lastNd at h
  split at h
  · rename_i hd
    exact ⟨hd, h⟩
  · cases h
/-- a line read: the first one begins, each other one keeps -/
theorem line_ok {st st' : RS} {s : List UInt8} (h : st.next ≠ 0 → RsOk st) (hv : lineV st s = some st') : RsOk st' := by
  unfold lineV at hv
  split at hv
  · unfold firstP at hv
    split at hv
    · obtain ⟨n, hn, rfl⟩ := Option.map_eq_some_iff.1 hv
      obtain ⟨_, h1, h2⟩ := numberV_some hn
      exact ⟨h1, by simp only; omega, rfl, deepOk_nil, Nat.zero_le _, by simp, by simp⟩
    · cases hv
  · rename_i h0
    have hk := h h0
    simp only at hv
    split at hv
    · unfold propP at hv
      obtain ⟨nd, hnd, hv⟩ := Option.bind_eq_some_iff.1 hv
      split at hv
      · exact hasV_ok hk (lastNd_some hnd).2 hv
      · cases hv
    · unfold refP at hv
      obtain ⟨nd, hnd, hv⟩ := Option.bind_eq_some_iff.1 hv
      split at hv
      · exact refersV_ok hk (lastNd_some hnd).2 hv
      · cases hv
    · obtain ⟨n, hs, h1, h2⟩ := nodeP_stood hv
      exact hk.stood hs h1 h2
end Go.Proofs.YtjjlofaejpnnnaaGreatDoor
namespace Go.Proofs.YtjjlofaejpnnnaaGreatDoor
open Go Go.RowKit
set_option linter.unusedVariables false
def IdLt (a b : Nd) : Prop := a.id < b.id
theorem byId_perm (n : Nd) : ∀ l : List Nd, (byId n l).Perm (n :: l)
  | [] => .refl _
  | x :: l => by
    unfold byId
    split
    · exact .refl _
    · exact ((byId_perm n l).cons x).trans (.swap n x l)
theorem sortV_perm : ∀ l : List Nd, (l.foldr byId []).Perm l
  | [] => .refl _
  | x :: l => (byId_perm x _).trans ((sortV_perm l).cons x)
theorem byId_sorted {n : Nd} : ∀ {l : List Nd}, l.Pairwise IdLt → (∀ x ∈ l, x.id ≠ n.id) → (byId n l).Pairwise IdLt
  | [], _, _ => by simp [byId]
  | x :: l, h, hne => by
    rw [List.pairwise_cons] at h
    unfold byId
    split
    · rename_i hx
      rw [List.pairwise_cons, List.pairwise_cons]
      refine ⟨fun y hy => ?_, h⟩
      rcases List.mem_cons.1 hy with rfl | hy
      · exact hx
      · have := h.1 y hy
        unfold IdLt at this ⊢
        omega
    · rename_i hx
      have hxn := hne x (by simp)
      rw [List.pairwise_cons]
      refine ⟨fun y hy => ?_, byId_sorted h.2 fun y hy => hne y (by simp [hy])⟩
      rcases List.mem_cons.1 ((byId_perm n l).mem_iff.1 hy) with rfl | hy
      · unfold IdLt; omega
      · exact h.1 y hy
theorem sortV_sorted : ∀ {l : List Nd}, (l.map (·.id)).Nodup → (l.foldr byId []).Pairwise IdLt
  | [], _ => by simp
  | x :: l, h => by
    rw [List.map_cons, List.nodup_cons] at h
    rw [List.foldr_cons]
    refine byId_sorted (sortV_sorted h.2) fun y hy => ?_
    have hy2 := (sortV_perm l).mem_iff.1 hy
    intro e
    exact h.1 (e ▸ List.mem_map_of_mem hy2)
/-- sorted lists of the same nodes are the same -/
theorem sorted_one : ∀ {l m : List Nd}, l.Perm m → l.Pairwise IdLt → m.Pairwise IdLt → l = m
  | [], m, hp, _, _ => by rw [List.nil_perm.1 hp]
  | x :: l, [], hp, _, _ => by
    have := hp.length_eq
    simp at this
  | x :: l, y :: m, hp, hl, hm => by
    have hl1 := List.pairwise_cons.1 hl
    have hm1 := List.pairwise_cons.1 hm
    have e : x = y := by
      have hx : x ∈ y :: m := hp.mem_iff.1 (by simp)
      have hy : y ∈ x :: l := hp.mem_iff.2 (by simp)
      rcases List.mem_cons.1 hx with h | hx
      · exact h
      · rcases List.mem_cons.1 hy with h | hy
        · exact h.symm
        · have h1 := hm1.1 x hx
          have h2 := hl1.1 y hy
          unfold IdLt at h1 h2
          omega
    subst e
    rw [sorted_one (List.Perm.cons_inv hp) hl1.2 hm1.2]
/-- the nodes in the order of their numbers -/
def sortV (l : List Nd) : List Nd := l.foldr byId []
theorem sortV_is {l m : List Nd} (hd : (l.map (·.id)).Nodup) (hp : m.Perm l) (hm : m.Pairwise IdLt) : m = sortV l :=
  sorted_one (hp.trans (sortV_perm l).symm) hm (sortV_sorted hd)
end Go.Proofs.YtjjlofaejpnnnaaGreatDoor
namespace Go.Proofs.YtjjlofaejpnnnaaGreatDoor
open Go Go.RowKit
set_option linter.unusedVariables false
/-- where the selection stands ahead of place i: at -1 there is none above last; else the least of them -/
def Picked (ids : List Int) (last : Int) (i : Nat) (at_ : Int) : Prop :=
  (at_ = -1 ∧ ∀ j x, j < i → ids[j]? = some x → x ≤ last) ∨ (∃ (a : Nat) (y : Int), at_ = (a : Int) ∧ a < i ∧ ids[a]? = some y ∧ last < y ∧ ∀ j x, j < i → ids[j]? = some x → last < x → y ≤ x)
theorem Picked.start (ids : List Int) (last : Int) : Picked ids last 0 (-1) := .inl ⟨rfl, fun j x h => by omega⟩
theorem Picked.skip {ids : List Int} {last at_ x : Int} {i : Nat} (h : Picked ids last i at_) (hx : ids[i]? = some x) (hle : x ≤ last) : Picked ids last (i + 1) at_ := by
  rcases h with ⟨rfl, h⟩ | ⟨a, y, rfl, ha, hy, hl, h⟩
  · refine .inl ⟨rfl, fun j z hj hz => ?_⟩
    rcases Nat.lt_or_ge j i with h1 | h1
    · exact h j z h1 hz
    · obtain rfl : j = i := by omega
      rw [hx] at hz; obtain rfl := Option.some.inj hz; exact hle
  · refine .inr ⟨a, y, rfl, by omega, hy, hl, fun j z hj hz hlz => ?_⟩
    rcases Nat.lt_or_ge j i with h1 | h1
    · exact h j z h1 hz hlz
    · obtain rfl : j = i := by omega
      rw [hx] at hz; obtain rfl := Option.some.inj hz; omega
theorem Picked.less {ids : List Int} {last x y : Int} {i a : Nat} (h : Picked ids last i (a : Int)) (hy : ids[a]? = some y) (hx : ids[i]? = some x) (hlt : last < x) (hxy : x < y) : Picked ids last (i + 1) (i : Int) := by
  rcases h with ⟨e, _⟩ | ⟨b, z, e, hb, hz, hl, h⟩
  · omega
  · obtain rfl : a = b := by omega
    rw [hy] at hz; obtain rfl := Option.some.inj hz
    refine .inr ⟨i, x, rfl, by omega, hx, hlt, fun j u hj hu hlu => ?_⟩
    rcases Nat.lt_or_ge j i with h1 | h1
    · have := h j u h1 hu hlu; omega
    · obtain rfl : j = i := by omega
      rw [hx] at hu; obtain rfl := Option.some.inj hu; exact Int.le_refl _
theorem Picked.more {ids : List Int} {last x y : Int} {i a : Nat} (h : Picked ids last i (a : Int)) (hy : ids[a]? = some y) (hx : ids[i]? = some x) (hxy : ¬ x < y) : Picked ids last (i + 1) (a : Int) := by
  rcases h with ⟨e, _⟩ | ⟨b, z, e, hb, hz, hl, h⟩
  · omega
  · obtain rfl : a = b := by omega
    rw [hy] at hz; obtain rfl := Option.some.inj hz
    refine .inr ⟨a, y, rfl, by omega, hy, hl, fun j u hj hu hlu => ?_⟩
    rcases Nat.lt_or_ge j i with h1 | h1
    · exact h j u h1 hu hlu
    · obtain rfl : j = i := by omega
      rw [hx] at hu; obtain rfl := Option.some.inj hu; omega
theorem Picked.form {ids : List Int} {last at_ : Int} {i : Nat} (h : Picked ids last i at_) : at_ = -1 ∨ ∃ a : Nat, at_ = (a : Int) := by
  rcases h with ⟨e, _⟩ | ⟨b, z, e, _⟩
  · exact .inl e
  · exact .inr ⟨b, e⟩
theorem sortV_len (l : List Nd) : (sortV l).length = l.length := (sortV_perm l).length_eq
end Go.Proofs.YtjjlofaejpnnnaaGreatDoor
namespace Go.Proofs.YtjjlofaejpnnnaaGreatDoor
open Go Go.RowKit Go.Sort
set_option linter.unusedVariables false
theorem flatN_get {α : Type} {f : α → List Value} {s : Nat} (hs : ∀ a, (f a).length = s) (l : List α) : ∀ (i : Nat) (p : α), l[i]? = some p → ∀ j, j < s → (l.flatMap f)[i * s + j]? = (f p)[j]? := by
  induction l with
  | nil => intro i p h; simp at h
  | cons q l ih =>
    intro i p h j hj
    have hq := hs q
    rw [List.flatMap_cons]
    match i, h with
    | 0, h =>
      obtain rfl : q = p := by simpa using h
      rw [Nat.zero_mul, Nat.zero_add, List.getElem?_append_left (by omega)]
    | i + 1, h =>
      have := ih i p (by simpa using h) j hj
      rw [Nat.succ_mul, List.getElem?_append_right (by omega), hq]
      rw [show i * s + s + j - s = i * s + j from by omega]
      exact this
theorem flatN_len {α : Type} {f : α → List Value} {s : Nat} (hs : ∀ a, (f a).length = s) (l : List α) : (l.flatMap f).length = l.length * s := by
  induction l with
  | nil => simp
  | cons q l ih => rw [List.flatMap_cons, List.length_append, ih, hs, List.length_cons, Nat.succ_mul]; omega
/-- a node's seven cells -/
def ndCells (p : Nd × Leaf) : List Value := [.int .i64 p.1.id, .string p.1.con, .int .i64 p.1.par, .string p.1.role, .slice p.2.p.A p.2.p.n p.2.p.c, .slice p.2.k.A p.2.k.n p.2.k.c, .slice p.2.r.A p.2.r.n p.2.r.c]
theorem ndCells_len (p : Nd × Leaf) : (ndCells p).length = 7 := rfl
def allCells (l : List (Nd × Leaf)) : List Value := l.flatMap ndCells
theorem allCells_len (l : List (Nd × Leaf)) : (allCells l).length = l.length * 7 := flatN_len ndCells_len l
theorem propCells_one (l : List (ByteArray × ByteArray)) : ∀ u ∈ propCells l, u.oneCell' = true := by
  intro u hu
  obtain ⟨p, _, hp⟩ := List.mem_flatMap.1 hu
  simp only [List.mem_cons, List.not_mem_nil, or_false] at hp
  rcases hp with rfl | rfl <;> rfl
theorem refCells_one (l : List (ByteArray × Int)) : ∀ u ∈ refCells l, u.oneCell' = true := by
  intro u hu
  obtain ⟨p, _, hp⟩ := List.mem_flatMap.1 hu
  simp only [List.mem_cons, List.not_mem_nil, or_false] at hp
  rcases hp with rfl | rfl <;> rfl
theorem intCells_one (l : List Int) : ∀ u ∈ intCells l, u.oneCell' = true := by
  intro u hu
  obtain ⟨p, _, rfl⟩ := List.mem_map.1 hu
  rfl
section
variable {w w' : World} {B : Nat} {e : TypeId} {size n : Nat} {v : Value} {xs : List Value}
/-- an own row reads as a row -/
theorem own_row {A : Option Addr} {c : Nat} (h : w.ownsRow B e size (.slice A n c) n xs) : Row w B w.heap.size size A n c xs := by
  refine ⟨h.1, ?_⟩
  rcases h.2 with ⟨hv, hn⟩ | ⟨g, cap, cur, hv, hb, hg, hn, hm, _, _⟩
  · injection hv with h1 h2 h3
    subst hn
    exact ⟨by omega, by unfold maxLen; omega, fun h => absurd h (by omega)⟩
  · injection hv with h1 h2 h3
    subst h3
    refine ⟨hn, hm, fun h0 => ⟨g, 0, h1, hb, (Array.getElem?_eq_some_iff.1 hg).1, fun j u hu => ?_⟩⟩
    subst h1
    have := World.ownsRow.cells h (g := g) rfl j u hu
    simpa [Addr.add_lit] using this
theorem own_after (h : w.ownsRow B e size v n xs) (hb : Below w.heap.size w w') : w'.ownsRow B e size v n xs := by
  refine ⟨h.1, ?_⟩
  rcases h.2 with hn | ⟨g, cap, cur, rfl, hbg, hgg, rest⟩
  · exact .inl hn
  · refine .inr ⟨g, cap, cur, rfl, hbg, ?_, rest⟩
    rw [hb.block g (Array.getElem?_eq_some_iff.1 hgg).1]
    exact hgg
/-- .. while a block of another type is written -/
theorem own_other {g : Nat} {t : TypeId} {cs : Array Value} (h : w.ownsRow B e size v n xs) (hg : Blk w g t cs) (hne : e ≠ t) (i : Nat) (u : Value) : (w.setCell ⟨g, i, none⟩ u).ownsRow B e size v n xs := by
  refine ⟨h.1, ?_⟩
  rcases h.2 with hn | ⟨g', cap, cur, rfl, hbg, hgg, rest⟩
  · exact .inl hn
  · refine .inr ⟨g', cap, cur, rfl, hbg, ?_, rest⟩
    have hne' : g' ≠ g := Blk.ne_ (t := e) hgg hg hne
    rw [Below.heap_setCell _ ⟨g, i, none⟩ _ _ hne']
    exact hgg
theorem own_blk_ne {g : Nat} {t : TypeId} {cs : Array Value} (h : w.ownsRow B e size v n xs) (hg : Blk w g t cs) (hne : e ≠ t) : v.ownBlock ≠ some g := by
  rcases h.2 with ⟨rfl, _⟩ | ⟨g', cap, cur, rfl, _, hh, _⟩
  · simp [Value.ownBlock]
  · intro he
    have : g' = g := by simpa [Value.ownBlock] using he
    subst this
    exact Blk.ne_ (t := e) hh hg hne rfl
theorem own_own_ne {B' : Nat} {e' : TypeId} {size' n' : Nat} {v' : Value} {xs' : List Value} (h : w.ownsRow B e size v n xs) (h' : w.ownsRow B' e' size' v' n' xs') (hne : e ≠ e') : v.ownBlock = none ∨ v.ownBlock ≠ v'.ownBlock := by
  rcases h.2 with ⟨rfl, _⟩ | ⟨g, cap, cur, rfl, _, hh, _⟩
  · exact .inl rfl
  · right
    rcases h'.2 with ⟨rfl, _⟩ | ⟨g', cap', cur', rfl, _, hh', _⟩
    · simp [Value.ownBlock]
    · intro he
      have : g = g' := by simpa [Value.ownBlock] using he
      subst this
      exact Blk.ne_ (t := e) hh hh' hne rfl
theorem own_mono {B' : Nat} (h : w.ownsRow B e size v n xs) (hB : B' ≤ B) : w.ownsRow B' e size v n xs := by
  refine ⟨h.1, ?_⟩
  rcases h.2 with hn | ⟨g, cap, cur, hv, hb, rest⟩
  · exact .inl hn
  · exact .inr ⟨g, cap, cur, hv, by omega, rest⟩
/-- the first ones of an own row -/
theorem own_take {A : Option Addr} {c : Nat} {k : Nat} (h : w.ownsRow B e size (.slice A n c) n xs) (hk : k ≤ n) (hA : A ≠ none) : w.ownsRow B e size (.slice A k c) k (xs.take (k * size)) := by
  have hle : k * size ≤ n * size := Nat.mul_le_mul_right _ hk
  refine ⟨by rw [List.length_take, h.1]; omega, ?_⟩
  rcases h.2 with ⟨hv, hn⟩ | ⟨g, cap, cur, hv, hb, hg, hn, hm, hs, ht⟩
  · injection hv with h1; exact absurd h1 hA
  · injection hv with h1 h2 h3
    subst h1 h3
    refine .inr ⟨g, c, cur, rfl, hb, hg, by omega, hm, hs, ?_⟩
    rw [← ht, List.take_take, Nat.min_eq_left hle]
end
/-- a block that is known whole, as a row -/
theorem row_blk {w : World} {g n c size : Nat} {e : TypeId} {fr : Nat × Nat} {cs : Array Value} (hg : w.heap[g]? = some (.cells cs e fr)) (hs : cs.size = n * size) (hn : n ≤ c) (hc : c ≤ maxLen) : Row w g (g + 1) size (some ⟨g, 0, none⟩) n c cs.toList :=
  ⟨by simpa using hs, hn, hc, fun _ => ⟨g, 0, rfl, Nat.le_refl _, Nat.lt_succ_self _, fun j u hu => by
    rw [cell_of_row w g (0 + j) cs e fr hg, Nat.zero_add]; simpa using hu⟩⟩
section
variable {P : Program} (w : World)
theorem run_app_nil (base : Nat) (t ty e : TypeId) (i : TypeInfo) (size : Nat) (ht : P.underlying t = some (.slice e)) (hi : P.info? e = some i)
    (v : Value) (n : Nat) (xs : List Value) (hown : w.ownsRow base e size v n xs) (c : Nat) : (Builtin.append_ #[t, t] ty #[v, .slice none 0 c]).run P w = .ok v w := by
  rcases hown.2 with ⟨rfl, rfl⟩ | ⟨g, cap, cur, rfl, _, _, hnc, _⟩
  · simp [Builtin.append_, run_underlying ht, sizeOf, typeInfo, hi, Builtin.lenOf, Builtin.firstCells]
  · simp [Builtin.append_, run_underlying ht, sizeOf, typeInfo, hi, Builtin.lenOf, Builtin.firstCells, hnc, storeCells]
theorem run_app (base : Nat) (t ty e : TypeId) (i : TypeInfo) (z : Value) (size bytes : Nat) (ht : P.underlying t = some (.slice e)) (hi : P.info? e = some i) (hz : i.zero = some z)
    (hsize : i.size = size) (hby : i.bytes = bytes) (hzs : z.cells.size = size) (hsz : 0 < size)
    (v : Value) (n : Nat) (xs : List Value) (hown : w.ownsRow base e size v n xs)
    (lo hi' : Nat) (A : Option Addr) (m c : Nat) (news : List Value) (hr : Row w lo hi' size A m c news) (h1 : ∀ u ∈ news, u.oneCell' = true)
    (h63 : n + m ≤ maxLen) (hbytes : (n + m) * bytes ≤ 140737488355328) (hbase : base ≤ w.heap.size) :
    ∃ v' w', (Builtin.append_ #[t, t] ty #[v, .slice A m c]).run P w = .ok v' w' ∧ w'.ownsRow base e size v' (n + m) (xs ++ news) ∧ w.grownBy w' v.ownBlock ∧
      (v'.ownBlock = v.ownBlock ∨ v'.ownBlock = some w.heap.size) := by
  rcases A with _ | ad
  · have hm : m = 0 := by
      rcases Nat.eq_zero_or_pos m with h0 | h0
      · exact h0
      · obtain ⟨b, o, h, _⟩ := hr.2.2.2 h0
        cases h
    subst hm
    have hn : news = [] := List.eq_nil_of_length_eq_zero (by simpa using hr.1)
    subst hn
    exact ⟨v, w, run_app_nil w base t ty e i size ht hi v n xs hown c, by simpa using hown, World.grownBy.refl w _, .inl rfl⟩
  · have hcells : ∀ j u, news[j]? = some u → w.cell? (ad.add j) = some u := by
      intro j u hu
      rcases Nat.eq_zero_or_pos m with h0 | h0
      · subst h0
        have hn : news = [] := List.eq_nil_of_length_eq_zero (by simpa using hr.1)
        subst hn
        simp at hu
      · obtain ⟨b, o, h, _, _, hc⟩ := hr.2.2.2 h0
        injection h with h
        subst h
        rw [Addr.add_lit]
        exact hc j u hu
    obtain ⟨v', w', hrun, h2, h3, _, h5⟩ := run_append_own_at (P := P) w base t ty e i z size bytes ht hi hz hsize hby hzs hsz v n xs hown ad m c news hr.1 hcells h1 h63 hbytes hbase
    exact ⟨v', w', hrun, h2, h3, h5⟩
theorem wp_app {o : Oper} {a : Act} {K : Act → World → Prop} {Q : Exit → Act → World → Prop} (s x : Operand) (t : TypeId)
    (ho : o.op = .call { callee := .builtin .append, args := #[s, x], argTypes := #[t, t] })
    (base : Nat) (e : TypeId) (i : TypeInfo) (z : Value) (size bytes : Nat) (ht : P.underlying t = some (.slice e)) (hi : P.info? e = some i) (hz : i.zero = some z)
    (hsize : i.size = size) (hby : i.bytes = bytes) (hzs : z.cells.size = size) (hsz : 0 < size)
    (v : Value) (n : Nat) (xs : List Value) (hs : a.eval s = v) (hown : w.ownsRow base e size v n xs)
    (lo hi' : Nat) (A : Option Addr) (m c : Nat) (news : List Value) (hx : a.eval x = .slice A m c) (hr : Row w lo hi' size A m c news) (h1 : ∀ u ∈ news, u.oneCell' = true)
    (h63 : n + m ≤ maxLen) (hbytes : (n + m) * bytes ≤ 140737488355328) (hbase : base ≤ w.heap.size)
    (h : ∀ v' w', w'.ownsRow base e size v' (n + m) (xs ++ news) → w.grownBy w' v.ownBlock → (v'.ownBlock = v.ownBlock ∨ v'.ownBlock = some w.heap.size) → K (a.put o.dst v') w') : o.wp P a w K Q := by
  obtain ⟨v', w', hrun, h2, h3, h4⟩ := run_app (P := P) w base t o.type e i z size bytes ht hi hz hsize hby hzs hsz v n xs hown lo hi' A m c news hr h1 h63 hbytes hbase
  unfold Oper.wp execOp
  simp only [ho, resolve, invoke, builtin, Sem.run_bind, Sem.run_pure, Result.andThen_ok, List.map_toArray, List.map_cons, List.map_nil, hs, hx, hrun]
  exact h v' w' h2 h3 h4
/-- append as the walk takes it, in a plain region -/
theorem wpList_app {ops : Array Oper} {rest : List Oper} {o : Oper} {a : Act} {Q : Exit → Act → World → Prop} (hgd : o.guard = none) (s x : Operand) (t : TypeId)
    (ho : o.op = .call { callee := .builtin .append, args := #[s, x], argTypes := #[t, t] })
    (base : Nat) (e : TypeId) (i : TypeInfo) (z : Value) (size bytes : Nat) (ht : P.underlying t = some (.slice e)) (hi : P.info? e = some i) (hz : i.zero = some z)
    (hsize : i.size = size) (hby : i.bytes = bytes) (hzs : z.cells.size = size) (hsz : 0 < size)
    (v : Value) (n : Nat) (xs : List Value) (hs : a.eval s = v) (hown : w.ownsRow base e size v n xs)
    (lo hi' : Nat) (A : Option Addr) (m c : Nat) (news : List Value) (hx : a.eval x = .slice A m c) (hr : Row w lo hi' size A m c news) (h1 : ∀ u ∈ news, u.oneCell' = true)
    (h63 : n + m ≤ maxLen) (hbytes : (n + m) * bytes ≤ 140737488355328) (hbase : base ≤ w.heap.size)
    (h : ∀ v' w', w'.ownsRow base e size v' (n + m) (xs ++ news) → w.grownBy w' v.ownBlock → (v'.ownBlock = v.ownBlock ∨ v'.ownBlock = some w.heap.size) → wpList P ops Q rest (a.put o.dst v') w') : wpList P ops Q (o :: rest) a w :=
  wpList_plain hgd fun _ hK => wp_app w s x t ho base e i z size bytes ht hi hz hsize hby hzs hsz v n xs hs hown lo hi' A m c news hx hr h1 h63 hbytes hbase fun v' w' h2 h3 h4 => hK _ _ (h v' w' h2 h3 h4)
/-- .. as a step of a region that draws its order -/
theorem step_app {ops : Array Oper} {o : Oper} {a : Act} {K : Act → World → Prop} {Q : Exit → Act → World → Prop} {E : Prop} (hgd : o.guard = none) (s x : Operand) (t : TypeId)
    (ho : o.op = .call { callee := .builtin .append, args := #[s, x], argTypes := #[t, t] })
    (base : Nat) (e : TypeId) (i : TypeInfo) (z : Value) (size bytes : Nat) (ht : P.underlying t = some (.slice e)) (hi : P.info? e = some i) (hz : i.zero = some z)
    (hsize : i.size = size) (hby : i.bytes = bytes) (hzs : z.cells.size = size) (hsz : 0 < size)
    (v : Value) (n : Nat) (xs : List Value) (hs : a.eval s = v) (hown : w.ownsRow base e size v n xs)
    (lo hi' : Nat) (A : Option Addr) (m c : Nat) (news : List Value) (hx : a.eval x = .slice A m c) (hr : Row w lo hi' size A m c news) (h1 : ∀ u ∈ news, u.oneCell' = true)
    (h63 : n + m ≤ maxLen) (hbytes : (n + m) * bytes ≤ 140737488355328) (hbase : base ≤ w.heap.size)
    (h : ∀ v' w', w'.ownsRow base e size v' (n + m) (xs ++ news) → w.grownBy w' v.ownBlock → (v'.ownBlock = v.ownBlock ∨ v'.ownBlock = some w.heap.size) → K (a.put o.dst v') w') :
    if Region.wanted o (yielded ops a.tmps) = true then Oper.wp P o a w K Q else E := by
  have hw : Region.wanted o (yielded ops a.tmps) = true := by simp [Region.wanted, hgd]
  rw [if_pos hw]
  exact wp_app w s x t ho base e i z size bytes ht hi hz hsize hby hzs hsz v n xs hs hown lo hi' A m c news hx hr h1 h63 hbytes hbase h
end
/-- the slice holds these nodes, in memory of the call's own -/
def OwnN (w : World) (B : Nat) (v : Value) (l : List (Nd × Leaf)) : Prop := w.ownsRow B 55 7 v l.length (allCells l)
end Go.Proofs.YtjjlofaejpnnnaaGreatDoor

/-
  A LINE WHOLE, as the program reads it, in plain mathematics: it is the document's reading.
  WHAT HOLDS of what has been read, in plain mathematics: numbers, depths, lengths.
  IN THE ORDER OF THEIR NUMBERS, in plain mathematics: one list alone is sorted and has these nodes.
  A QUOTED TEXT READ FROM A PLACE ON, in plain mathematics: as if the text began there.
  MEMORY OF THE CALL's OWN: slices that were built, their cells, what they read as; lists that were lent, with a mark behind.
  MODELS OF THE CALL's OWN: nodes and their lists in memory that the call made; a cell of a node turned; copy of a whole row.
-/
import Derived.Test.YtjjlofaejpnnnaaGreatDoorZR4
import Derived.Deep.AppendLies
import Derived.Deep.RegionHeld3
import Derived.Maps.AppendAt
import Derived.Laws.OwnMore
import Derived.Laws.CopyRow
import Derived.Laws.IdiomCopy
namespace Go.Proofs.YtjjlofaejpnnnaaGreatDoor
open Go Go.RowKit
set_option linter.unusedVariables false
theorem hasV_nil (st : RS) (nd : Nd) (w : List UInt8) : hasV st nd w [] = none := by
  have h : unq (bytesOf []) 0 = ([], 0, 10) := by
    unfold unq
    rw [if_neg (by decide), dif_neg (by decide)]
  unfold hasV
  simp only [h]
  rw [if_neg (by simp)]
theorem refersV_nil (st : RS) (nd : Nd) (w : List UInt8) : refersV st nd w [] = none := by
  unfold refersV
  rw [numberV_nil]
/-- the last node, if a line with so many blanks is one of its lines -/
def lastNd (st : RS) (d : Nat) : Option Nd := if d = st.deep.getLastD 0 then st.nds.getLast? else none
def propP (st : RS) (d : Nat) (t : List UInt8) : Option RS := (lastNd st d).bind fun nd => if wordL (cutA 61 t) = true then hasV st nd (cutA 61 t) (cutB 61 t) else none
def refP (st : RS) (d : Nat) (t : List UInt8) : Option RS := (lastNd st d).bind fun nd => if wordL (cutA 61 t) = true then refersV st nd (cutA 61 t) (cutB 61 t) else none
def firstP (s : List UInt8) : Option RS := if s.take 5 = [110, 101, 120, 116, 32] then (numberV (s.drop 5) 1048578).map fun n => ⟨n, [], []⟩ else none
/-- a line as the program reads it -/
def lineV (st : RS) (s : List UInt8) : Option RS :=
  if st.next = 0 then firstP s
  else
    let d := (s.takeWhile (· == 32)).length
    match s.drop d with
    | 46 :: t => propP st d t
    | 62 :: t => refP st d t
    | r => nodeP st d r
theorem firstP_eq (s : List UInt8) : (if 5 < s.length ∧ s.take 5 = [110, 101, 120, 116, 32] then (numberV (s.drop 5) 1048578).map fun n => (⟨n, [], []⟩ : RS) else none) = firstP s := by
  unfold firstP
  by_cases h : s.take 5 = [110, 101, 120, 116, 32]
  · rw [if_pos h]
    by_cases h5 : 5 < s.length
    · rw [if_pos ⟨h5, h⟩]
    · rw [if_neg (fun hh => h5 hh.1), List.drop_eq_nil_of_le (by omega), numberV_nil]
      rfl
  · rw [if_neg h, if_neg (fun hh => h hh.2)]
theorem nodeP_nil (st : RS) (d : Nat) : nodeP st d [] = none := by
  unfold nodeP
  rw [cutA_nil, numberV_nil]
  rfl
theorem armV (st : RS) (d : Nat) (c : UInt8) (t : List UInt8) :
    (match st.nds.getLast?, t.drop (wordP t).length with
      | some nd, e :: v => if d = st.deep.getLastD 0 ∧ e = 61 ∧ wordL (wordP t) = true then (if c = 62 then refersV st nd (wordP t) v else hasV st nd (wordP t) v) else none
      | _, _ => none) = if c = 62 then refP st d t else propP st d t := by
  unfold refP propP lastNd
  cases hl : st.nds.getLast? with
  | none => simp
  | some nd =>
    have hF : ∀ w, (if c = 62 then refersV st nd w [] else hasV st nd w []) = none := by
      intro w
      split
      · exact refersV_nil _ _ _
      · exact hasV_nil _ _ _
    have h := arm_eq (fun w v => if c = 62 then refersV st nd w v else hasV st nd w v) hF t
    by_cases hd : d = st.deep.getLastD 0
    · rw [if_pos hd]
      simp only [Option.bind_some]
      have e : (if c = 62 then (if wordL (cutA 61 t) = true then refersV st nd (cutA 61 t) (cutB 61 t) else none) else (if wordL (cutA 61 t) = true then hasV st nd (cutA 61 t) (cutB 61 t) else none)) =
          if wordL (cutA 61 t) = true then (if c = 62 then refersV st nd (cutA 61 t) (cutB 61 t) else hasV st nd (cutA 61 t) (cutB 61 t)) else none := by
        by_cases hc : c = 62 <;> simp [hc]
      rw [e, ← h]
      cases t.drop (wordP t).length with
      | nil => rfl
      | cons x v => simp [hd]
    · rw [if_neg hd]
      simp only [Option.bind_none, ite_self]
      cases t.drop (wordP t).length with
      | nil => rfl
      | cons x v => exact if_neg fun hh => hd hh.1
theorem takesV_line (st : RS) (s : List UInt8) : takesV st s = lineV st s := by
  unfold takesV lineV
  by_cases h0 : st.next = 0
  · rw [if_pos h0, if_pos h0]
    exact firstP_eq s
  · rw [if_neg h0, if_neg h0]
    simp only
    cases hr : s.drop (s.takeWhile (· == 32)).length with
    | nil => simp only; exact (nodeP_nil _ _).symm
    | cons c t =>
      simp only
      by_cases h46 : c = 46
      · subst h46
        rw [if_pos (.inl rfl)]
        exact (armV st _ 46 t).trans (if_neg (by decide))
      · by_cases h62 : c = 62
        · subst h62
          rw [if_pos (.inr rfl)]
          exact (armV st _ 62 t).trans (if_pos rfl)
        · rw [if_neg (by simp [h46, h62]), ← nodeP_eq]
          split
          · rename_i heq; injection heq with h _; exact absurd h h46
          · rename_i heq; injection heq with h _; exact absurd h h62
          · rfl
end Go.Proofs.YtjjlofaejpnnnaaGreatDoor
namespace Go.Proofs.YtjjlofaejpnnnaaGreatDoor
open Go Go.RowKit
set_option linter.unusedVariables false
structure RsOk (st : RS) : Prop where
  n1 : 1 ≤ st.next
  n2 : st.next ≤ 1048577
  dl : st.deep.length = st.nds.length
  dk : DeepOk st.deep
  ln : st.nds.length ≤ 4096
  id : ∀ x ∈ st.nds.map (·.id), 1 ≤ x ∧ x < st.next
  ds : (st.nds.map (·.id)).Nodup
theorem numberV_some {l : List UInt8} {b n : Int} (h : numberV l b = some n) : intT l = some n ∧ 1 ≤ n ∧ n < b := by
  unfold numberV at h
  cases hi : intT l with
  | none => rw [hi] at h; cases h
  | some v =>
    rw [hi] at h
    simp only at h
    split at h
    · obtain rfl := Option.some.inj h
      rename_i hh
      exact ⟨rfl, hh⟩
    · cases h
theorem last_split {l : List Nd} {nd : Nd} (h : l.getLast? = some nd) : l = l.dropLast ++ [nd] := by
  have hne : l ≠ [] := by rintro rfl; cases h
  rw [List.getLast?_eq_some_getLast hne] at h
  obtain rfl := Option.some.inj h
  exact (List.dropLast_concat_getLast hne).symm
theorem lastV_ids {st : RS} {nd nd' : Nd} (h : st.nds.getLast? = some nd) (hi : nd'.id = nd.id) : (lastV st nd').nds.map (·.id) = st.nds.map (·.id) := by
  have e := last_split h
  unfold lastV
  simp only
  rw [List.map_append, List.map_singleton, hi]
  conv => rhs; rw [e]
  simp
theorem lastV_len {st : RS} {nd nd' : Nd} (h : st.nds.getLast? = some nd) : (lastV st nd').nds.length = st.nds.length := by
  have e := congrArg List.length (last_split h)
  unfold lastV
  simp only [List.length_append, List.length_singleton] at e ⊢
  omega
theorem RsOk.last {st : RS} {nd nd' : Nd} (h : RsOk st) (hl : st.nds.getLast? = some nd) (hi : nd'.id = nd.id) : RsOk (lastV st nd') :=
  ⟨h.n1, h.n2, h.dl.trans (lastV_len hl).symm, h.dk, by rw [lastV_len hl]; exact h.ln, by rw [lastV_ids hl hi]; exact h.id, by rw [lastV_ids hl hi]; exact h.ds⟩
theorem hasV_ok {st st' : RS} {nd : Nd} {w v : List UInt8} (h : RsOk st) (hl : st.nds.getLast? = some nd) (hv : hasV st nd w v = some st') : RsOk st' := by
  unfold hasV at hv
  simp only at hv
  split at hv
  · obtain rfl := Option.some.inj hv
    exact h.last hl rfl
  · cases hv
theorem refersV_ok {st st' : RS} {nd : Nd} {w v : List UInt8} (h : RsOk st) (hl : st.nds.getLast? = some nd) (hv : refersV st nd w v = some st') : RsOk st' := by
  unfold refersV at hv
  cases hn : numberV v st.next with
  | none => rw [hn] at hv; cases hv
  | some n =>
    rw [hn] at hv
    simp only at hv
    split at hv
    · obtain rfl := Option.some.inj hv
      exact h.last hl rfl
    · cases hv
theorem set_ids {l : List Nd} {i : Nat} {nd nd' : Nd} (h : l[i]? = some nd) (hi : nd'.id = nd.id) : (l.set i nd').map (·.id) = l.map (·.id) := by
  rw [List.map_set]
  have h1 : (l.map (·.id))[i]? = some nd'.id := by rw [List.getElem?_map, h, hi]; rfl
  obtain ⟨hlt, e⟩ := List.getElem?_eq_some_iff.1 h1
  rw [← e]
  exact List.set_getElem_self hlt
/-- a node more: the ids grow by its own -/
structure Stood (st : RS) (n : Nd) (d : Nat) (st' : RS) : Prop where
  nx : st'.next = st.next
  dp : st'.deep = st.deep ++ [d + 1]
  ln : st.nds.length < 4096
  d64 : d < 64
  dle : d ≤ st.deep.getLastD 0
  nw : n.id ∉ st.nds.map (·.id)
  ids : st'.nds.map (·.id) = st.nds.map (·.id) ++ [n.id]
theorem standsV_stood {st st' : RS} {n : Nd} {d : Nat} (h : standsV st n d = some st') : Stood st n d st' := by
  unfold standsV at h
  split at h
  · cases h
  · rename_i hno
    have h1 : st.nds.length < 4096 := by omega
    have h2 : d < 64 := by omega
    have h3 : d ≤ st.deep.getLastD 0 := by omega
    have h4 : n.id ∉ st.nds.map (·.id) := by
      intro hm
      obtain ⟨x, hx, he⟩ := List.mem_map.1 hm
      exact hno (.inr (.inr (.inr (List.any_eq_true.2 ⟨x, hx, by simpa using he⟩))))
    split at h
    · rename_i hd
      subst hd
      have key : ∀ st'', some (⟨st.next, st.nds ++ [n], st.deep ++ [1]⟩ : RS) = some st'' → Stood st n 0 st'' := by
        intro st'' e
        obtain rfl := Option.some.inj e
        exact ⟨rfl, rfl, h1, h2, h3, h4, by simp⟩
      cases hu : upV st 1 with
      | none =>
        rw [hu] at h
        simp only at h
        split at h
        · cases h
        · exact key _ h
      | some r =>
        rw [hu] at h
        simp only at h
        split at h
        · cases h
        · exact key _ h
    · cases hu : upV st d with
      | none => rw [hu] at h; cases h
      | some u =>
        rw [hu] at h
        simp only at h
        obtain rfl := Option.some.inj h
        have hx : st.nds[u.1]? = some u.2 := by
          unfold upV at hu
          obtain ⟨i, _, hi⟩ := Option.bind_eq_some_iff.1 hu
          obtain ⟨nd, hnd, rfl⟩ := Option.map_eq_some_iff.1 hi
          exact hnd
        refine ⟨rfl, rfl, h1, h2, h3, h4, ?_⟩
        simp only
        rw [List.map_append, set_ids (nd' := { u.2 with kids := u.2.kids ++ [n.id] }) hx rfl]
        rfl
theorem RsOk.stood {st st' : RS} {n : Nd} {d : Nat} (h : RsOk st) (hs : Stood st n d st') (h1 : 1 ≤ n.id) (h2 : n.id < st.next) : RsOk st' := by
  have hlen : st'.nds.length = st.nds.length + 1 := by
    have := congrArg List.length hs.ids
    simpa using this
  refine ⟨by rw [hs.nx]; exact h.n1, by rw [hs.nx]; exact h.n2, by rw [hs.dp, hlen, List.length_append, h.dl]; rfl, by rw [hs.dp]; exact h.dk.snoc hs.dle hs.d64, by rw [hlen]; exact hs.ln, ?_, ?_⟩
  · rw [hs.ids, hs.nx]
    intro x hx
    rcases List.mem_append.1 hx with hx | hx
    · exact h.id x hx
    · obtain rfl : x = n.id := by simpa using hx
      exact ⟨h1, h2⟩
  · rw [hs.ids, List.nodup_append]
    refine ⟨h.ds, by simp, fun a ha b hb e => ?_⟩
    obtain rfl : b = n.id := by simpa using hb
    exact hs.nw (e ▸ ha)
theorem nodeP_stood {st st' : RS} {d : Nat} {s : List UInt8} (h : nodeP st d s = some st') : ∃ n : Nd, Stood st n d st' ∧ 1 ≤ n.id ∧ n.id < st.next := by
  unfold nodeP at h
  obtain ⟨id, hid, h⟩ := Option.bind_eq_some_iff.1 h
  obtain ⟨r, _, h⟩ := Option.bind_eq_some_iff.1 h
  split at h
  · exact ⟨_, standsV_stood h, (numberV_some hid).2⟩
  · cases h
theorem lastNd_some {st : RS} {d : Nat} {nd : Nd} (h : lastNd st d = some nd) : d = st.deep.getLastD 0 ∧ st.nds.getLast? = some nd := by
  unfold lastNd at h
  split at h
  · rename_i hd
    exact ⟨hd, h⟩
  · cases h
/-- a line read: the first one begins, each other one keeps -/
theorem line_ok {st st' : RS} {s : List UInt8} (h : st.next ≠ 0 → RsOk st) (hv : lineV st s = some st') : RsOk st' := by
  unfold lineV at hv
  split at hv
  · unfold firstP at hv
    split at hv
    · obtain ⟨n, hn, rfl⟩ := Option.map_eq_some_iff.1 hv
      obtain ⟨_, h1, h2⟩ := numberV_some hn
      exact ⟨h1, by simp only; omega, rfl, deepOk_nil, Nat.zero_le _, by simp, by simp⟩
    · cases hv
  · rename_i h0
    have hk := h h0
    simp only at hv
    split at hv
    · unfold propP at hv
      obtain ⟨nd, hnd, hv⟩ := Option.bind_eq_some_iff.1 hv
      split at hv
      · exact hasV_ok hk (lastNd_some hnd).2 hv
      · cases hv
    · unfold refP at hv
      obtain ⟨nd, hnd, hv⟩ := Option.bind_eq_some_iff.1 hv
      split at hv
      · exact refersV_ok hk (lastNd_some hnd).2 hv
      · cases hv
    · obtain ⟨n, hs, h1, h2⟩ := nodeP_stood hv
      exact hk.stood hs h1 h2
end Go.Proofs.YtjjlofaejpnnnaaGreatDoor
namespace Go.Proofs.YtjjlofaejpnnnaaGreatDoor
open Go Go.RowKit
set_option linter.unusedVariables false
def IdLt (a b : Nd) : Prop := a.id < b.id
theorem byId_perm (n : Nd) : ∀ l : List Nd, (byId n l).Perm (n :: l)
  | [] => .refl _
  | x :: l => by
    unfold byId
    split
    · exact .refl _
    · exact ((byId_perm n l).cons x).trans (.swap n x l)
theorem sortV_perm : ∀ l : List Nd, (l.foldr byId []).Perm l
  | [] => .refl _
  | x :: l => (byId_perm x _).trans ((sortV_perm l).cons x)
theorem byId_sorted {n : Nd} : ∀ {l : List Nd}, l.Pairwise IdLt → (∀ x ∈ l, x.id ≠ n.id) → (byId n l).Pairwise IdLt
  | [], _, _ => by simp [byId]
  | x :: l, h, hne => by
    rw [List.pairwise_cons] at h
    unfold byId
    split
    · rename_i hx
      rw [List.pairwise_cons, List.pairwise_cons]
      refine ⟨fun y hy => ?_, h⟩
      rcases List.mem_cons.1 hy with rfl | hy
      · exact hx
      · have := h.1 y hy
        unfold IdLt at this ⊢
        omega
    · rename_i hx
      have hxn := hne x (by simp)
      rw [List.pairwise_cons]
      refine ⟨fun y hy => ?_, byId_sorted h.2 fun y hy => hne y (by simp [hy])⟩
      rcases List.mem_cons.1 ((byId_perm n l).mem_iff.1 hy) with rfl | hy
      · unfold IdLt; omega
      · exact h.1 y hy
theorem sortV_sorted : ∀ {l : List Nd}, (l.map (·.id)).Nodup → (l.foldr byId []).Pairwise IdLt
  | [], _ => by simp
  | x :: l, h => by
    rw [List.map_cons, List.nodup_cons] at h
    rw [List.foldr_cons]
    refine byId_sorted (sortV_sorted h.2) fun y hy => ?_
    have hy2 := (sortV_perm l).mem_iff.1 hy
    intro e
    exact h.1 (e ▸ List.mem_map_of_mem hy2)
/-- sorted lists of the same nodes are the same -/
theorem sorted_one : ∀ {l m : List Nd}, l.Perm m → l.Pairwise IdLt → m.Pairwise IdLt → l = m
  | [], m, hp, _, _ => by rw [List.nil_perm.1 hp]
  | x :: l, [], hp, _, _ => by
    have := hp.length_eq
    simp at this
  | x :: l, y :: m, hp, hl, hm => by
    have hl1 := List.pairwise_cons.1 hl
    have hm1 := List.pairwise_cons.1 hm
    have e : x = y := by
      have hx : x ∈ y :: m := hp.mem_iff.1 (by simp)
      have hy : y ∈ x :: l := hp.mem_iff.2 (by simp)
      rcases List.mem_cons.1 hx with h | hx
      · exact h
      · rcases List.mem_cons.1 hy with h | hy
        · exact h.symm
        · have h1 := hm1.1 x hx
          have h2 := hl1.1 y hy
          unfold IdLt at h1 h2
          omega
    subst e
    rw [sorted_one (List.Perm.cons_inv hp) hl1.2 hm1.2]
/-- the nodes in the order of their numbers -/
def sortV (l : List Nd) : List Nd := l.foldr byId []
theorem sortV_is {l m : List Nd} (hd : (l.map (·.id)).Nodup) (hp : m.Perm l) (hm : m.Pairwise IdLt) : m = sortV l :=
  sorted_one (hp.trans (sortV_perm l).symm) hm (sortV_sorted hd)
/-- the least node with a number greater than one's: where it stands in the sorted list -/
theorem sortV_next {l : List Nd} (hd : (l.map (·.id)).Nodup) {k : Nat} {nd : Nd} (h : (sortV l)[k]? = some nd) : nd ∈ l ∧ (∀ x ∈ l, x ∉ (sortV l).take k → nd.id ≤ x.id) := by
  have hs := sortV_sorted hd
  have hp := sortV_perm l
  refine ⟨hp.mem_iff.1 (List.mem_of_getElem? h), fun x hx hno => ?_⟩
  have hx2 : x ∈ sortV l := hp.mem_iff.2 hx
  obtain ⟨j, hj⟩ := List.getElem?_of_mem hx2
  rcases Nat.lt_or_ge j k with hjk | hjk
  · exact absurd (List.mem_of_getElem? (show ((sortV l).take k)[j]? = some x by rw [List.getElem?_take, if_pos hjk]; exact hj)) hno
  · rcases Nat.eq_or_lt_of_le hjk with rfl | hlt
    · rw [h] at hj
      obtain rfl := Option.some.inj hj
      omega
    · obtain ⟨hk1, e1⟩ := List.getElem?_eq_some_iff.1 h
      obtain ⟨hj1, e2⟩ := List.getElem?_eq_some_iff.1 hj
      have := List.pairwise_iff_getElem.1 hs k j hk1 hj1 hlt
      unfold IdLt at this
      rw [← e1, ← e2]
      exact Int.le_of_lt this
end Go.Proofs.YtjjlofaejpnnnaaGreatDoor
namespace Go.Proofs.YtjjlofaejpnnnaaGreatDoor
open Go Go.RowKit
set_option linter.unusedVariables false
section
variable {p v : ByteArray}
theorem size_shift (p v : ByteArray) : (p ++ v).size = p.size + v.size := ByteArray.size_append
theorem get_shift {i : Nat} (h : i < v.size) (h' : p.size + i < (p ++ v).size) : (p ++ v)[p.size + i] = v[i] := by
  rw [ByteArray.getElem_append_right (by omega)]
  congr 1
  omega
theorem digS_shift (i : Nat) : digS (p ++ v) (p.size + i) = digS v i := by
  unfold digS
  by_cases h : i < v.size
  · have h' : p.size + i < (p ++ v).size := by rw [size_shift]; omega
    rw [dif_pos h, dif_pos h', get_shift h h']
  · have h' : ¬ p.size + i < (p ++ v).size := by rw [size_shift]; omega
    rw [dif_neg h, dif_neg h']
theorem stepNum_shift (i : Nat) : stepNum (p ++ v) (p.size + i) = stepNum v i := by
  unfold stepNum
  rw [digS_shift, Nat.add_assoc, digS_shift]
theorem stepEsc_shift (i : Nat) : stepEsc (p ++ v) (p.size + i) = stepEsc v i := by
  unfold stepEsc
  by_cases h : i < v.size
  · have h' : p.size + i < (p ++ v).size := by rw [size_shift]; omega
    rw [dif_pos h, dif_pos h', get_shift h h', Nat.add_assoc, stepNum_shift]
  · have h' : ¬ p.size + i < (p ++ v).size := by rw [size_shift]; omega
    rw [dif_neg h, dif_neg h']
theorem stepAt_shift {i : Nat} (h : i < v.size) (h' : p.size + i < (p ++ v).size) : stepAt (p ++ v) (p.size + i) h' = stepAt v i h := by
  unfold stepAt
  rw [get_shift h h', Nat.add_assoc, stepEsc_shift]
theorem scan_shift : ∀ (m i : Nat), v.size - i ≤ m → scan (p ++ v) (p.size + i) = ((scan v i).1, p.size + (scan v i).2) := by
  intro m
  induction m with
  | zero =>
    intro i hm
    have h : ¬ i < v.size := by omega
    have h' : ¬ p.size + i < (p ++ v).size := by rw [size_shift]; omega
    rw [scan_end h, scan_end h']
  | succ m ih =>
    intro i hm
    by_cases h : i < v.size
    · have h' : p.size + i < (p ++ v).size := by rw [size_shift]; omega
      by_cases hq : v[i].toNat = 34
      · rw [scan_quote h hq, scan_quote h' (by rw [get_shift h h']; exact hq), Nat.add_assoc]
      · have hq' : ¬ (p ++ v)[p.size + i].toNat = 34 := by rw [get_shift h h']; exact hq
        obtain ⟨n, r, hs⟩ : ∃ n r, stepAt v i h = (n, r) := ⟨_, _, rfl⟩
        have hs' : stepAt (p ++ v) (p.size + i) h' = (n, r) := by rw [stepAt_shift h h']; exact hs
        cases r with
        | some b =>
          have hn := (stepAt_le hs).2 _ rfl
          rw [scan_step h hq hs, scan_step h' hq' hs', Nat.add_assoc, ih (i + n) (by omega)]
        | none =>
          rw [scan_stop h hq hs, scan_stop h' hq' hs', Nat.add_assoc]
    · have h' : ¬ p.size + i < (p ++ v).size := by rw [size_shift]; omega
      rw [scan_end h, scan_end h']
/-- from the place where v begins -/
theorem unq_shift : unq (p ++ v) (p.size : Int) = ((unq v 0).1, (p.size : Int) + (unq v 0).2.1, (unq v 0).2.2) := by
  unfold unq
  rw [if_neg (by rw [size_shift]; omega), if_neg (by omega)]
  by_cases h : 0 < v.size
  · have h' : p.size + 0 < (p ++ v).size := by rw [size_shift]; omega
    have e : ((p.size : Int)).toNat = p.size + 0 := by omega
    simp only [e]
    rw [dif_pos h', dif_pos (show (0 : Int).toNat < v.size from h)]
    have eg : (p ++ v)[p.size + 0]'h' = v[(0 : Int).toNat]'h := get_shift h h'
    rw [eg]
    by_cases hq : (v[(0 : Int).toNat]'h).toNat = 34
    · rw [if_pos hq, if_pos hq, Nat.add_assoc, scan_shift (v.size) (0 + 1) (by omega)]
      rw [show (0 : Int).toNat + 1 = 0 + 1 from rfl]
      rcases scan v (0 + 1) with ⟨_ | l, b⟩
      · simp
      · simp
    · rw [if_neg hq, if_neg hq]
      simp
  · have h' : ¬ ((p.size : Int)).toNat < (p ++ v).size := by rw [size_shift]; omega
    rw [dif_neg h', dif_neg (show ¬ (0 : Int).toNat < v.size from h)]
    simp
end
end Go.Proofs.YtjjlofaejpnnnaaGreatDoor
namespace Go.Proofs.YtjjlofaejpnnnaaGreatDoor
open Go Go.RowKit Go.Sort
set_option linter.unusedVariables false
theorem flatN_get {α : Type} {f : α → List Value} {s : Nat} (hs : ∀ a, (f a).length = s) (l : List α) : ∀ (i : Nat) (p : α), l[i]? = some p → ∀ j, j < s → (l.flatMap f)[i * s + j]? = (f p)[j]? := by
  induction l with
  | nil => intro i p h; simp at h
  | cons q l ih =>
    intro i p h j hj
    have hq := hs q
    rw [List.flatMap_cons]
    match i, h with
    | 0, h =>
      obtain rfl : q = p := by simpa using h
      rw [Nat.zero_mul, Nat.zero_add, List.getElem?_append_left (by omega)]
    | i + 1, h =>
      have := ih i p (by simpa using h) j hj
      rw [Nat.succ_mul, List.getElem?_append_right (by omega), hq]
      rw [show i * s + s + j - s = i * s + j from by omega]
      exact this
/-- a node's seven cells -/
def ndCells (p : Nd × Leaf) : List Value := [.int .i64 p.1.id, .string p.1.con, .int .i64 p.1.par, .string p.1.role, .slice p.2.p.A p.2.p.n p.2.p.c, .slice p.2.k.A p.2.k.n p.2.k.c, .slice p.2.r.A p.2.r.n p.2.r.c]
theorem ndCells_len (p : Nd × Leaf) : (ndCells p).length = 7 := rfl
def allCells (l : List (Nd × Leaf)) : List Value := l.flatMap ndCells
section
variable {w w' : World} {B : Nat} {e : TypeId} {size n : Nat} {v : Value} {xs : List Value}
/-- an own row reads as a row -/
theorem own_row {A : Option Addr} {c : Nat} (h : w.ownsRow B e size (.slice A n c) n xs) : Row w B w.heap.size size A n c xs := by
  refine ⟨h.1, ?_⟩
  rcases h.2 with ⟨hv, hn⟩ | ⟨g, cap, cur, hv, hb, hg, hn, hm, _, _⟩
  · injection hv with h1 h2 h3
    subst hn
    exact ⟨by omega, by unfold maxLen; omega, fun h => absurd h (by omega)⟩
  · injection hv with h1 h2 h3
    subst h3
    refine ⟨hn, hm, fun h0 => ⟨g, 0, h1, hb, (Array.getElem?_eq_some_iff.1 hg).1, fun j u hu => ?_⟩⟩
    subst h1
    have := World.ownsRow.cells h (g := g) rfl j u hu
    simpa [Addr.add_lit] using this
theorem own_after (h : w.ownsRow B e size v n xs) (hb : Below w.heap.size w w') : w'.ownsRow B e size v n xs := by
  refine ⟨h.1, ?_⟩
  rcases h.2 with hn | ⟨g, cap, cur, rfl, hbg, hgg, rest⟩
  · exact .inl hn
  · refine .inr ⟨g, cap, cur, rfl, hbg, ?_, rest⟩
    rw [hb.block g (Array.getElem?_eq_some_iff.1 hgg).1]
    exact hgg
/-- .. while a block of another type is written -/
theorem own_other {g : Nat} {t : TypeId} {cs : Array Value} (h : w.ownsRow B e size v n xs) (hg : Blk w g t cs) (hne : e ≠ t) (i : Nat) (u : Value) : (w.setCell ⟨g, i, none⟩ u).ownsRow B e size v n xs := by
  refine ⟨h.1, ?_⟩
  rcases h.2 with hn | ⟨g', cap, cur, rfl, hbg, hgg, rest⟩
  · exact .inl hn
  · refine .inr ⟨g', cap, cur, rfl, hbg, ?_, rest⟩
    have hne' : g' ≠ g := Blk.ne_ (t := e) hgg hg hne
    rw [Below.heap_setCell _ ⟨g, i, none⟩ _ _ hne']
    exact hgg
theorem own_blk_ne {g : Nat} {t : TypeId} {cs : Array Value} (h : w.ownsRow B e size v n xs) (hg : Blk w g t cs) (hne : e ≠ t) : v.ownBlock ≠ some g := by
  rcases h.2 with ⟨rfl, _⟩ | ⟨g', cap, cur, rfl, _, hh, _⟩
  · simp [Value.ownBlock]
  · intro he
    have : g' = g := by simpa [Value.ownBlock] using he
    subst this
    exact Blk.ne_ (t := e) hh hg hne rfl
theorem own_own_ne {B' : Nat} {e' : TypeId} {size' n' : Nat} {v' : Value} {xs' : List Value} (h : w.ownsRow B e size v n xs) (h' : w.ownsRow B' e' size' v' n' xs') (hne : e ≠ e') : v.ownBlock = none ∨ v.ownBlock ≠ v'.ownBlock := by
  rcases h.2 with ⟨rfl, _⟩ | ⟨g, cap, cur, rfl, _, hh, _⟩
  · exact .inl rfl
  · right
    rcases h'.2 with ⟨rfl, _⟩ | ⟨g', cap', cur', rfl, _, hh', _⟩
    · simp [Value.ownBlock]
    · intro he
      have : g = g' := by simpa [Value.ownBlock] using he
      subst this
      exact Blk.ne_ (t := e) hh hh' hne rfl
theorem own_mono {B' : Nat} (h : w.ownsRow B e size v n xs) (hB : B' ≤ B) : w.ownsRow B' e size v n xs := by
  refine ⟨h.1, ?_⟩
  rcases h.2 with hn | ⟨g, cap, cur, hv, hb, rest⟩
  · exact .inl hn
  · exact .inr ⟨g, cap, cur, hv, by omega, rest⟩
/-- the first ones of an own row -/
theorem own_take {A : Option Addr} {c : Nat} {k : Nat} (h : w.ownsRow B e size (.slice A n c) n xs) (hk : k ≤ n) (hA : A ≠ none) : w.ownsRow B e size (.slice A k c) k (xs.take (k * size)) := by
  have hle : k * size ≤ n * size := Nat.mul_le_mul_right _ hk
  refine ⟨by rw [List.length_take, h.1]; omega, ?_⟩
  rcases h.2 with ⟨hv, hn⟩ | ⟨g, cap, cur, hv, hb, hg, hn, hm, hs, ht⟩
  · injection hv with h1; exact absurd h1 hA
  · injection hv with h1 h2 h3
    subst h1 h3
    refine .inr ⟨g, c, cur, rfl, hb, hg, by omega, hm, hs, ?_⟩
    rw [← ht, List.take_take, Nat.min_eq_left hle]
end
/-- a block that is known whole, as a row -/
theorem row_blk {w : World} {g n c size : Nat} {e : TypeId} {fr : Nat × Nat} {cs : Array Value} (hg : w.heap[g]? = some (.cells cs e fr)) (hs : cs.size = n * size) (hn : n ≤ c) (hc : c ≤ maxLen) : Row w g (g + 1) size (some ⟨g, 0, none⟩) n c cs.toList :=
  ⟨by simpa using hs, hn, hc, fun _ => ⟨g, 0, rfl, Nat.le_refl _, Nat.lt_succ_self _, fun j u hu => by
    rw [cell_of_row w g (0 + j) cs e fr hg, Nat.zero_add]; simpa using hu⟩⟩
section
variable {P : Program} (w : World)
theorem run_app_nil (base : Nat) (t ty e : TypeId) (i : TypeInfo) (size : Nat) (ht : P.underlying t = some (.slice e)) (hi : P.info? e = some i)
    (v : Value) (n : Nat) (xs : List Value) (hown : w.ownsRow base e size v n xs) (c : Nat) : (Builtin.append_ #[t, t] ty #[v, .slice none 0 c]).run P w = .ok v w := by
  rcases hown.2 with ⟨rfl, rfl⟩ | ⟨g, cap, cur, rfl, _, _, hnc, _⟩
  · simp [Builtin.append_, run_underlying ht, sizeOf, typeInfo, hi, Builtin.lenOf, Builtin.firstCells]
  · simp [Builtin.append_, run_underlying ht, sizeOf, typeInfo, hi, Builtin.lenOf, Builtin.firstCells, hnc, storeCells]
theorem run_app (base : Nat) (t ty e : TypeId) (i : TypeInfo) (z : Value) (size bytes : Nat) (ht : P.underlying t = some (.slice e)) (hi : P.info? e = some i) (hz : i.zero = some z)
    (hsize : i.size = size) (hby : i.bytes = bytes) (hzs : z.cells.size = size) (hsz : 0 < size)
    (v : Value) (n : Nat) (xs : List Value) (hown : w.ownsRow base e size v n xs)
    (lo hi' : Nat) (A : Option Addr) (m c : Nat) (news : List Value) (hr : Row w lo hi' size A m c news) (h1 : ∀ u ∈ news, u.oneCell' = true)
    (h63 : n + m ≤ maxLen) (hbytes : (n + m) * bytes ≤ 140737488355328) (hbase : base ≤ w.heap.size) :
    ∃ v' w', (Builtin.append_ #[t, t] ty #[v, .slice A m c]).run P w = .ok v' w' ∧ w'.ownsRow base e size v' (n + m) (xs ++ news) ∧ w.grownBy w' v.ownBlock ∧
      (v'.ownBlock = v.ownBlock ∨ v'.ownBlock = some w.heap.size) := by
  rcases A with _ | ad
  · have hm : m = 0 := by
      rcases Nat.eq_zero_or_pos m with h0 | h0
      · exact h0
      · obtain ⟨b, o, h, _⟩ := hr.2.2.2 h0
        cases h
    subst hm
    have hn : news = [] := List.eq_nil_of_length_eq_zero (by simpa using hr.1)
    subst hn
    exact ⟨v, w, run_app_nil w base t ty e i size ht hi v n xs hown c, by simpa using hown, World.grownBy.refl w _, .inl rfl⟩
  · have hcells : ∀ j u, news[j]? = some u → w.cell? (ad.add j) = some u := by
      intro j u hu
      rcases Nat.eq_zero_or_pos m with h0 | h0
      · subst h0
        have hn : news = [] := List.eq_nil_of_length_eq_zero (by simpa using hr.1)
        subst hn
        simp at hu
      · obtain ⟨b, o, h, _, _, hc⟩ := hr.2.2.2 h0
        injection h with h
        subst h
        rw [Addr.add_lit]
        exact hc j u hu
    obtain ⟨v', w', hrun, h2, h3, _, h5⟩ := run_append_own_at (P := P) w base t ty e i z size bytes ht hi hz hsize hby hzs hsz v n xs hown ad m c news hr.1 hcells h1 h63 hbytes hbase
    exact ⟨v', w', hrun, h2, h3, h5⟩
theorem wp_app {o : Oper} {a : Act} {K : Act → World → Prop} {Q : Exit → Act → World → Prop} (s x : Operand) (t : TypeId)
    (ho : o.op = .call { callee := .builtin .append, args := #[s, x], argTypes := #[t, t] })
    (base : Nat) (e : TypeId) (i : TypeInfo) (z : Value) (size bytes : Nat) (ht : P.underlying t = some (.slice e)) (hi : P.info? e = some i) (hz : i.zero = some z)
    (hsize : i.size = size) (hby : i.bytes = bytes) (hzs : z.cells.size = size) (hsz : 0 < size)
    (v : Value) (n : Nat) (xs : List Value) (hs : a.eval s = v) (hown : w.ownsRow base e size v n xs)
    (lo hi' : Nat) (A : Option Addr) (m c : Nat) (news : List Value) (hx : a.eval x = .slice A m c) (hr : Row w lo hi' size A m c news) (h1 : ∀ u ∈ news, u.oneCell' = true)
    (h63 : n + m ≤ maxLen) (hbytes : (n + m) * bytes ≤ 140737488355328) (hbase : base ≤ w.heap.size)
    (h : ∀ v' w', w'.ownsRow base e size v' (n + m) (xs ++ news) → w.grownBy w' v.ownBlock → (v'.ownBlock = v.ownBlock ∨ v'.ownBlock = some w.heap.size) → K (a.put o.dst v') w') : o.wp P a w K Q := by
  obtain ⟨v', w', hrun, h2, h3, h4⟩ := run_app (P := P) w base t o.type e i z size bytes ht hi hz hsize hby hzs hsz v n xs hown lo hi' A m c news hr h1 h63 hbytes hbase
  unfold Oper.wp execOp
  simp only [ho, resolve, invoke, builtin, Sem.run_bind, Sem.run_pure, Result.andThen_ok, List.map_toArray, List.map_cons, List.map_nil, hs, hx, hrun]
  exact h v' w' h2 h3 h4
/-- append as the walk takes it, in a plain region -/
theorem wpList_app {ops : Array Oper} {rest : List Oper} {o : Oper} {a : Act} {Q : Exit → Act → World → Prop} (hgd : o.guard = none) (s x : Operand) (t : TypeId)
    (ho : o.op = .call { callee := .builtin .append, args := #[s, x], argTypes := #[t, t] })
    (base : Nat) (e : TypeId) (i : TypeInfo) (z : Value) (size bytes : Nat) (ht : P.underlying t = some (.slice e)) (hi : P.info? e = some i) (hz : i.zero = some z)
    (hsize : i.size = size) (hby : i.bytes = bytes) (hzs : z.cells.size = size) (hsz : 0 < size)
    (v : Value) (n : Nat) (xs : List Value) (hs : a.eval s = v) (hown : w.ownsRow base e size v n xs)
    (lo hi' : Nat) (A : Option Addr) (m c : Nat) (news : List Value) (hx : a.eval x = .slice A m c) (hr : Row w lo hi' size A m c news) (h1 : ∀ u ∈ news, u.oneCell' = true)
    (h63 : n + m ≤ maxLen) (hbytes : (n + m) * bytes ≤ 140737488355328) (hbase : base ≤ w.heap.size)
    (h : ∀ v' w', w'.ownsRow base e size v' (n + m) (xs ++ news) → w.grownBy w' v.ownBlock → (v'.ownBlock = v.ownBlock ∨ v'.ownBlock = some w.heap.size) → wpList P ops Q rest (a.put o.dst v') w') : wpList P ops Q (o :: rest) a w :=
  wpList_plain hgd fun _ hK => wp_app w s x t ho base e i z size bytes ht hi hz hsize hby hzs hsz v n xs hs hown lo hi' A m c news hx hr h1 h63 hbytes hbase fun v' w' h2 h3 h4 => hK _ _ (h v' w' h2 h3 h4)
/-- .. as a step of a region that draws its order -/
theorem step_app {ops : Array Oper} {o : Oper} {a : Act} {K : Act → World → Prop} {Q : Exit → Act → World → Prop} {E : Prop} (hgd : o.guard = none) (s x : Operand) (t : TypeId)
    (ho : o.op = .call { callee := .builtin .append, args := #[s, x], argTypes := #[t, t] })
    (base : Nat) (e : TypeId) (i : TypeInfo) (z : Value) (size bytes : Nat) (ht : P.underlying t = some (.slice e)) (hi : P.info? e = some i) (hz : i.zero = some z)
    (hsize : i.size = size) (hby : i.bytes = bytes) (hzs : z.cells.size = size) (hsz : 0 < size)
    (v : Value) (n : Nat) (xs : List Value) (hs : a.eval s = v) (hown : w.ownsRow base e size v n xs)
    (lo hi' : Nat) (A : Option Addr) (m c : Nat) (news : List Value) (hx : a.eval x = .slice A m c) (hr : Row w lo hi' size A m c news) (h1 : ∀ u ∈ news, u.oneCell' = true)
    (h63 : n + m ≤ maxLen) (hbytes : (n + m) * bytes ≤ 140737488355328) (hbase : base ≤ w.heap.size)
    (h : ∀ v' w', w'.ownsRow base e size v' (n + m) (xs ++ news) → w.grownBy w' v.ownBlock → (v'.ownBlock = v.ownBlock ∨ v'.ownBlock = some w.heap.size) → K (a.put o.dst v') w') :
    if Region.wanted o (yielded ops a.tmps) = true then Oper.wp P o a w K Q else E := by
  have hw : Region.wanted o (yielded ops a.tmps) = true := by simp [Region.wanted, hgd]
  rw [if_pos hw]
  exact wp_app w s x t ho base e i z size bytes ht hi hz hsize hby hzs hsz v n xs hs hown lo hi' A m c news hx hr h1 h63 hbytes hbase h
end
/-- the slice holds these nodes, in memory of the call's own -/
def OwnN (w : World) (B : Nat) (v : Value) (l : List (Nd × Leaf)) : Prop := w.ownsRow B 55 7 v l.length (allCells l)
theorem OwnN.nodesIn {w : World} {B n c : Nat} {A : Option Addr} {l : List (Nd × Leaf)} {lo hi : Nat} (h : OwnN w B (.slice A n c) l) (hn : l.length = n) (hl : ∀ p ∈ l, LeafIn w lo hi p.1 p.2) (hlo : lo ≤ B) (hhi : w.heap.size ≤ hi) : NodesIn w lo hi A n c (l.map (·.1)) := by
  subst hn
  have hr := own_row h
  refine ⟨by simp, hr.2.1, hr.2.2.1, fun h0 => ?_⟩
  obtain ⟨b, o, hA, h1, h2, hc⟩ := hr.2.2.2 h0
  refine ⟨b, o, hA, by omega, by omega, fun i => (l.getD i (l[0]'h0)).2, fun i nd hi' => ?_⟩
  rw [List.getElem?_map] at hi'
  obtain ⟨p, hp, rfl⟩ := Option.map_eq_some_iff.1 hi'
  have hg : l.getD i (l[0]'h0) = p := by rw [List.getD_eq_getElem?_getD, hp]; rfl
  simp only [hg]
  refine ⟨?_, hl p (List.mem_of_getElem? hp)⟩
  have key : ∀ j u, j < 7 → (ndCells p)[j]? = some u → w.cell? ⟨b, o + i * 7 + j, none⟩ = some u := by
    intro j u hj hu
    have := hc (i * 7 + j) u (by unfold allCells; rw [flatN_get ndCells_len l i p hp j hj]; exact hu)
    rwa [Nat.add_assoc]
  exact ⟨key 0 _ (by omega) rfl, key 1 _ (by omega) rfl, key 2 _ (by omega) rfl, key 3 _ (by omega) rfl, key 4 _ (by omega) rfl, key 5 _ (by omega) rfl, key 6 _ (by omega) rfl⟩
end Go.Proofs.YtjjlofaejpnnnaaGreatDoor
namespace Go.Proofs.YtjjlofaejpnnnaaGreatDoor
open Go Go.RowKit Go.Sort
set_option linter.unusedVariables false
/-- the lists of a node, each in memory of its own -/
structure OwnLeaf (w : World) (B : Nat) (nd : Nd) (L : Leaf) : Prop where
  pn : L.p.n = nd.props.length
  kn : L.k.n = nd.kids.length
  rn : L.r.n = nd.refs.length
  p : w.ownsRow B 60 2 (.slice L.p.A L.p.n L.p.c) L.p.n (propCells nd.props)
  k : w.ownsRow B 3 1 (.slice L.k.A L.k.n L.k.c) L.k.n (intCells nd.kids)
  r : w.ownsRow B 62 2 (.slice L.r.A L.r.n L.r.c) L.r.n (refCells nd.refs)
  sz : SzN nd
section
variable {w w' : World} {B : Nat} {nd : Nd} {L : Leaf}
theorem OwnLeaf.leafIn (h : OwnLeaf w B nd L) : LeafIn w B w.heap.size nd L := ⟨h.pn, h.kn, h.rn, own_row h.p, own_row h.k, own_row h.r, h.sz⟩
theorem OwnLeaf.after (h : OwnLeaf w B nd L) (hb : Below w.heap.size w w') : OwnLeaf w' B nd L := ⟨h.pn, h.kn, h.rn, own_after h.p hb, own_after h.k hb, own_after h.r hb, h.sz⟩
theorem OwnLeaf.mono (h : OwnLeaf w B nd L) {B' : Nat} (hB : B' ≤ B) : OwnLeaf w B' nd L := ⟨h.pn, h.kn, h.rn, own_mono h.p hB, own_mono h.k hB, own_mono h.r hB, h.sz⟩
theorem OwnLeaf.other (h : OwnLeaf w B nd L) {g : Nat} {t : TypeId} {cs : Array Value} (hg : Blk w g t cs) (h1 : 60 ≠ t) (h2 : 3 ≠ t) (h3 : 62 ≠ t) (i : Nat) (u : Value) : OwnLeaf (w.setCell ⟨g, i, none⟩ u) B nd L :=
  ⟨h.pn, h.kn, h.rn, own_other h.p hg h1 i u, own_other h.k hg h2 i u, own_other h.r hg h3 i u, h.sz⟩
theorem own_kept {e e' : TypeId} {size size' n n' B' : Nat} {v v' : Value} {xs xs' : List Value} (h : w.ownsRow B e size v n xs) (h' : w.ownsRow B' e' size' v' n' xs') (hne : e ≠ e') (hg : w.grownBy w' v'.ownBlock) : w'.ownsRow B e size v n xs :=
  World.ownsRow.kept h hg (own_own_ne h h' hne)
theorem OwnLeaf.kept (h : OwnLeaf w B nd L) {B' size' n' : Nat} {v' : Value} {xs' : List Value} (h' : w.ownsRow B' 55 size' v' n' xs') (hg : w.grownBy w' v'.ownBlock) : OwnLeaf w' B nd L :=
  ⟨h.pn, h.kn, h.rn, own_kept h.p h' (by decide) hg, own_kept h.k h' (by decide) hg, own_kept h.r h' (by decide) hg, h.sz⟩
end
/-- a list of nodes of the call's own -/
structure OwnM (w : World) (B : Nat) (v : Value) (l : List (Nd × Leaf)) : Prop where
  own : OwnN w B v l
  leaf : ∀ p ∈ l, OwnLeaf w B p.1 p.2
section
variable {w w' : World} {B : Nat} {v : Value} {l : List (Nd × Leaf)}
theorem OwnM.after (h : OwnM w B v l) (hb : Below w.heap.size w w') : OwnM w' B v l := ⟨own_after h.own hb, fun p hp => (h.leaf p hp).after hb⟩
theorem OwnM.mono (h : OwnM w B v l) {B' : Nat} (hB : B' ≤ B) : OwnM w B' v l := ⟨own_mono h.own hB, fun p hp => (h.leaf p hp).mono hB⟩
theorem OwnM.other (h : OwnM w B v l) {g : Nat} {cs : Array Value} (hg : Blk w g 25 cs) (i : Nat) (u : Value) : OwnM (w.setCell ⟨g, i, none⟩ u) B v l :=
  ⟨own_other h.own hg (by decide) i u, fun p hp => (h.leaf p hp).other hg (by decide) (by decide) (by decide) i u⟩
theorem OwnM.nodesIn {A : Option Addr} {n c : Nat} (h : OwnM w B (.slice A n c) l) (hn : l.length = n) : NodesIn w B w.heap.size A n c (l.map (·.1)) :=
  OwnN.nodesIn h.own hn (fun p hp => (h.leaf p hp).leafIn) (Nat.le_refl _) (Nat.le_refl _)
theorem own_blk {e : TypeId} {size n c g : Nat} {xs : List Value} (h : w.ownsRow B e size (.slice (some ⟨g, 0, none⟩) n c) n xs) : ∃ cs, Blk w g e cs ∧ B ≤ g ∧ cs.size = c * size := by
  rcases h.2 with ⟨h', _⟩ | ⟨g', cap', cur, h', hb, hg, _, _, hs, _⟩
  · simp at h'
  · simp only [Value.slice.injEq, Option.some.injEq, Addr.mk.injEq, and_true, true_and] at h'
    obtain ⟨rfl, rfl⟩ := h'
    exact ⟨cur, hg, hb, hs⟩
/-- the cells of a list of nodes of which one has turned -/
theorem allCells_set {l : List (Nd × Leaf)} {i j : Nat} {p q : Nd × Leaf} {u : Value} (hp : l[i]? = some p) (hj : j < 7) (hq : (ndCells p).set j u = ndCells q) : (allCells l).set (i * 7 + j) u = allCells (l.set i q) := by
  induction l generalizing i with
  | nil => simp at hp
  | cons x l ih =>
    have hx := ndCells_len x
    match i, hp with
    | 0, hp =>
      obtain rfl : x = p := by simpa using hp
      simp only [allCells, List.flatMap_cons, List.set_cons_zero, Nat.zero_mul, Nat.zero_add]
      rw [List.set_append_left _ _ (by omega), hq]
    | i + 1, hp =>
      have := ih (i := i) (by simpa using hp)
      simp only [allCells, List.flatMap_cons, List.set_cons_succ] at this ⊢
      rw [List.set_append_right _ _ (by omega), hx, show (i + 1) * 7 + j - 7 = i * 7 + j from by omega, this]
/-- a cell of a node is stored -/
theorem OwnM.store {n c g i j : Nat} {p q : Nd × Leaf} {u : Value} (h : OwnM w B (.slice (some ⟨g, 0, none⟩) n c) l) (hn : l.length = n) (hp : l[i]? = some p) (hj : j < 7) (hq : (ndCells p).set j u = ndCells q) (hl : OwnLeaf w B q.1 q.2) :
    OwnM (w.setCell ⟨g, i * 7 + j, none⟩ u) B (.slice (some ⟨g, 0, none⟩) n c) (l.set i q) := by
  subst hn
  have h1 : w.ownsRow B 55 7 (.slice (some ⟨g, 0, none⟩) l.length c) l.length (allCells l) := h.own
  obtain ⟨cs, hg, _, _⟩ := own_blk h1
  have h2 := (World.ownsRow.stored h1 (i * 7 + j) u).1
  rw [allCells_set hp hj hq] at h2
  refine ⟨?_, fun x hx => ?_⟩
  · unfold OwnN
    rw [List.length_set]
    exact h2
  · rcases List.mem_or_eq_of_mem_set hx with hx | rfl
    · exact (h.leaf x hx).other hg (by decide) (by decide) (by decide) _ u
    · exact hl.other hg (by decide) (by decide) (by decide) _ u
end
section
variable {P : Program} (w : World)
end
end Go.Proofs.YtjjlofaejpnnnaaGreatDoor

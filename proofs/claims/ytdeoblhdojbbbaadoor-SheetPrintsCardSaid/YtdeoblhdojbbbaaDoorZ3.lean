/-
  PLAIN VALUES: when nodes are a right model. No program stands in it.
  PLAIN VALUES: a model is right, told in two ways; they are the same. No program stands in it.
-/
import Derived.Test.YtdeoblhdojbbbaaDoorZ2
import Derived.Laws.Strings
namespace Go.Proofs.YtdeoblhdojbbbaaDoor
open Go Go.RowKit
set_option linter.unusedVariables false
def ltS (a b : ByteArray) : Bool := Op.bytesLess a.toList b.toList
theorem less_irrefl (a : List UInt8) : Op.bytesLess a a = false := by
  induction a with
  | nil => rfl
  | cons c r ih =>
    simp only [Op.bytesLess, ih, Bool.and_false, Bool.or_false, decide_eq_false_iff_not]
    exact UInt8.lt_irrefl c
theorem less_trans : ∀ {a b c : List UInt8}, Op.bytesLess a b = true → Op.bytesLess b c = true → Op.bytesLess a c = true
  | _, [], _, h, _ => by cases ‹List UInt8› <;> simp [Op.bytesLess] at h
  | _, _ :: _, [], _, h => by simp [Op.bytesLess] at h
  | [], _ :: _, _ :: _, _, _ => rfl
  | x :: a, y :: b, z :: c, h, k => by
    simp only [Op.bytesLess, Bool.or_eq_true, decide_eq_true_eq, Bool.and_eq_true, beq_iff_eq] at h k ⊢
    rcases h with h | ⟨rfl, h⟩
    · rcases k with k | ⟨rfl, k⟩
      · exact .inl (UInt8.lt_trans h k)
      · exact .inl h
    · rcases k with k | ⟨rfl, k⟩
      · exact .inl k
      · exact .inr ⟨rfl, less_trans h k⟩
theorem less_tri : ∀ (a b : List UInt8), Op.bytesLess a b = true ∨ a = b ∨ Op.bytesLess b a = true
  | [], [] => .inr (.inl rfl)
  | [], _ :: _ => .inl rfl
  | _ :: _, [] => .inr (.inr rfl)
  | x :: a, y :: b => by
    simp only [Op.bytesLess, Bool.or_eq_true, decide_eq_true_eq, Bool.and_eq_true, beq_iff_eq, List.cons.injEq]
    by_cases h : x < y
    · exact .inl (.inl h)
    · by_cases h' : y < x
      · exact .inr (.inr (.inl h'))
      · have e : x = y := UInt8.le_antisymm (UInt8.not_lt.1 h') (UInt8.not_lt.1 h)
        subst e
        rcases less_tri a b with k | k | k
        · exact .inl (.inr ⟨rfl, k⟩)
        · exact .inr (.inl ⟨rfl, k⟩)
        · exact .inr (.inr (.inr ⟨rfl, k⟩))
theorem less_asymm {a b : List UInt8} (h : Op.bytesLess a b = true) : Op.bytesLess b a = false := by
  cases k : Op.bytesLess b a with
  | false => rfl
  | true => have := less_trans h k; rw [less_irrefl] at this; cases this
theorem leq_not (a b : List UInt8) : (Op.bytesLess a b || a == b) = !Op.bytesLess b a := by
  rcases less_tri a b with h | rfl | h
  · rw [h, less_asymm h]; rfl
  · rw [less_irrefl]; simp
  · rw [h, less_asymm h]
    have : (a == b) = false := by rw [beq_eq_false_iff_ne]; rintro rfl; rw [less_irrefl] at h; cases h
    rw [this]; rfl
theorem toList_data (s : ByteArray) : s.toList = s.data.toList := Lib.toList_data s
def aboveB (q : Option ByteArray) (s : ByteArray) : Bool := match q with | none => true | some q => ltS q s
def propsB : Option ByteArray → List (ByteArray × ByteArray) → Bool
  | _, [] => true
  | q, p :: r => wordB p.1 && decide (p.2.size ≤ 4096) && aboveB q p.1 && propsB (some p.1) r
def refsB (next : Int) : Option ByteArray → List (ByteArray × Int) → Bool
  | _, [] => true
  | q, p :: r => wordB p.1 && decide (1 ≤ p.2) && decide (p.2 < next) && aboveB q p.1 && refsB next (some p.1) r
def roleB (nd : Nd) : Bool := if nd.par = 0 then nd.role.toList.isEmpty else wordB nd.role
def speltB (next : Int) (nd : Nd) : Bool := wordB nd.con && roleB nd && propsB none nd.props && refsB next none nd.refs
def idsB (next : Int) : Int → List Nd → Bool
  | _, [] => true
  | last, nd :: r => decide (last < nd.id) && decide (nd.id < next) && idsB next nd.id r
def headB (next : Int) (nds : List Nd) : Bool := decide (1 ≤ next) && decide (next ≤ 1048577) && decide (nds.length ≤ 4096)
def numB (next : Int) (nds : List Nd) : Bool := headB next nds && idsB next 0 nds
/-- the place of the node with that number -/
def ixOf (nds : List Nd) (id : Int) : Option Nat := nds.findIdx? (fun n => n.id == id)
/-- the numbers rise, from above 0 on -/
structure Rise (nds : List Nd) : Prop where
  pos : ∀ (i : Nat) nd, nds[i]? = some nd → 1 ≤ nd.id
  lt : ∀ (i j : Nat) a b, i < j → nds[i]? = some a → nds[j]? = some b → a.id < b.id
theorem idsB_rise {next : Int} : ∀ {last : Int} {nds : List Nd}, 0 ≤ last → idsB next last nds = true → (∀ (i : Nat) nd, nds[i]? = some nd → last < nd.id ∧ nd.id < next) ∧ (∀ (i j : Nat) a b, i < j → nds[i]? = some a → nds[j]? = some b → a.id < b.id)
  | _, [], _, _ => ⟨fun i nd h => by simp at h, fun i j a b _ h => by simp at h⟩
  | last, x :: r, h0, h => by
    simp only [idsB, Bool.and_eq_true, decide_eq_true_eq] at h
    obtain ⟨⟨h1, h2⟩, h3⟩ := h
    have ih := idsB_rise (by omega) h3
    refine ⟨fun i nd hi => ?_, fun i j a b hij ha hb => ?_⟩
    · match i, hi with
      | 0, hi => obtain rfl : x = nd := by simpa using hi
                 exact ⟨h1, h2⟩
      | i + 1, hi => have := ih.1 i nd (by simpa using hi); omega
    · match i, j, ha, hb with
      | _, 0, _, _ => omega
      | 0, j + 1, ha, hb =>
        obtain rfl : x = a := by simpa using ha
        exact (ih.1 j b (by simpa using hb)).1
      | i + 1, j + 1, ha, hb => exact ih.2 i j a b (by omega) (by simpa using ha) (by simpa using hb)
theorem Rise.of {next : Int} {nds : List Nd} (h : idsB next 0 nds = true) : Rise nds :=
  ⟨fun i nd hi => by have := ((idsB_rise (by omega) h).1 i nd hi).1; omega, (idsB_rise (by omega) h).2⟩
theorem Rise.inj {nds : List Nd} (h : Rise nds) {i j : Nat} {a b : Nd} (ha : nds[i]? = some a) (hb : nds[j]? = some b) (e : a.id = b.id) : i = j := by
  rcases Nat.lt_trichotomy i j with k | k | k
  · have := h.lt i j a b k ha hb; omega
  · exact k
  · have := h.lt j i b a k hb ha; omega
theorem ixOf_some {nds : List Nd} {id : Int} {i : Nat} (h : ixOf nds id = some i) : ∃ nd, nds[i]? = some nd ∧ nd.id = id := by
  obtain ⟨hl, hp, _⟩ := List.findIdx?_eq_some_iff_getElem.1 h
  exact ⟨nds[i], List.getElem?_eq_getElem hl, by simpa using hp⟩
theorem ixOf_lt {nds : List Nd} {id : Int} {i : Nat} (h : ixOf nds id = some i) : i < nds.length := by
  obtain ⟨hl, _⟩ := List.findIdx?_eq_some_iff_getElem.1 h
  exact hl
theorem ixOf_none {nds : List Nd} {id : Int} (h : ixOf nds id = none) : ∀ (i : Nat) nd, nds[i]? = some nd → nd.id ≠ id := by
  intro i nd hi
  have := List.findIdx?_eq_none_iff.1 h nd (List.mem_of_getElem? hi)
  simpa using this
theorem ixOf_is {nds : List Nd} (h : Rise nds) {id : Int} {i : Nat} {nd : Nd} (hi : nds[i]? = some nd) (e : nd.id = id) : ixOf nds id = some i := by
  cases hx : ixOf nds id with
  | none => exact absurd e (ixOf_none hx i nd hi)
  | some j =>
    obtain ⟨nd', hj, e'⟩ := ixOf_some hx
    rw [h.inj hj hi (by omega)]
theorem ixOf_no {nds : List Nd} {id : Int} (h : ∀ (i : Nat) nd, nds[i]? = some nd → nd.id ≠ id) : ixOf nds id = none := by
  cases hx : ixOf nds id with
  | none => rfl
  | some j => obtain ⟨nd', hj, e'⟩ := ixOf_some hx; exact absurd e' (h j nd' hj)
/-- what a search by halves comes to -/
theorem ixOf_at {nds : List Nd} (h : Rise nds) {id : Int} {k : Nat} (hb : ∀ (i : Nat) nd, i < k → nds[i]? = some nd → nd.id < id) (ha : ∀ (i : Nat) nd, k ≤ i → nds[i]? = some nd → id ≤ nd.id) :
    ixOf nds id = match nds[k]? with | some nd => if nd.id = id then some k else none | none => none := by
  cases hk : nds[k]? with
  | none =>
    refine ixOf_no fun i nd hi e => ?_
    by_cases hik : i < k
    · have := hb i nd hik hi; omega
    · have hl : i < nds.length := (List.getElem?_eq_some_iff.1 hi).1
      have := List.getElem?_eq_none_iff.1 hk
      omega
  | some nd =>
    simp only
    by_cases e : nd.id = id
    · rw [if_pos e]; exact ixOf_is h hk e
    · rw [if_neg e]
      refine ixOf_no fun i nd' hi e' => ?_
      rcases Nat.lt_trichotomy i k with g | rfl | g
      · have := hb i nd' g hi; omega
      · rw [hk] at hi; injection hi with hi; subst hi; exact e e'
      · have := h.lt k i nd nd' g hk hi
        have := ha k nd (Nat.le_refl _) hk
        omega
end Go.Proofs.YtdeoblhdojbbbaaDoor
namespace Go.Proofs.YtdeoblhdojbbbaaDoor
open Go Go.RowKit
set_option linter.unusedVariables false
def ndOf (nds : List Nd) (id : Int) : Option Nd := (ixOf nds id).bind (nds[·]?)
def kidsB (nds : List Nd) (id : Int) : List Int → List Int → Bool
  | _, [] => true
  | seen, k :: r => (match ndOf nds k with | none => false | some nd => nd.par == id) && !seen.contains k && kidsB nds id (k :: seen) r
def plainB (next : Int) (nds : List Nd) (nd : Nd) : Bool :=
  wordB nd.con && decide (nd.kids.length ≤ nds.length) && propsB none nd.props && refsB next none nd.refs && kidsB nds nd.id [] nd.kids
def belowB (nds : List Nd) : Nat → Nd → Bool
  | 0, _ => false
  | f + 1, n => if n.par = 0 then n.role.toList.isEmpty else
    match ndOf nds n.par with
    | none => false
    | some p => wordB n.role && p.kids.contains n.id && belowB nds f p
/-- the document's: is a model right? -/
def rightB (next : Int) (nds : List Nd) : Bool := numB next nds && nds.all (fun nd => plainB next nds nd && belowB nds 64 nd)
/-- parents and kids agree: the index of each one's parent (-1: none) -/
def joinK (nds : List Nd) (i : Nat) (id : Int) : List Int → List Int → Option (List Int)
  | a, [] => some a
  | a, k :: r => match ixOf nds k with
    | none => none
    | some j => match nds[j]? with
      | none => none
      | some nd => if nd.par = id ∧ a.getD j 0 = -1 then joinK nds i id (a.set j i) r else none
def joinN (nds : List Nd) : Nat → List Int → List Nd → Option (List Int)
  | _, a, [] => some a
  | i, a, nd :: r => match joinK nds i nd.id a nd.kids with
    | none => none
    | some a' => joinN nds (i + 1) a' r
def looseB : List Int → List Nd → Bool
  | x :: a, nd :: r => (x == -1 && nd.par != 0) || looseB a r
  | _, _ => false
def joinS (nds : List Nd) : Option (List Int) :=
  match joinN nds 0 (List.replicate nds.length (-1)) nds with
  | none => none
  | some a => if looseB a nds then none else some a
/-- how many nodes deep, if no deeper than that -/
def lvl (a : List Int) : Nat → Int → Option Nat
  | 0, i => if i = -1 then some 0 else none
  | f + 1, i => if i = -1 then some 0 else (lvl a f (a.getD i.toNat (-1))).map (· + 1)
def rootedB (a : List Int) : Bool := (List.range a.length).all (fun i => (lvl a 64 i).isSome)
/-- the program's: is a model right? -/
def checkB (next : Int) (nds : List Nd) : Bool := numB next nds && nds.all (speltB next) && (match joinS nds with | none => false | some a => rootedB a)
structure Pair where
  i : Nat
  id : Int
  k : Int
def joinF (nds : List Nd) : List Int → List Pair → Option (List Int)
  | a, [] => some a
  | a, p :: r => match ixOf nds p.k with
    | none => none
    | some j => match nds[j]? with
      | none => none
      | some nd => if nd.par = p.id ∧ a.getD j 0 = -1 then joinF nds (a.set j p.i) r else none
def pairsOf (i : Nat) (nd : Nd) : List Pair := nd.kids.map fun k => ⟨i, nd.id, k⟩
def pairsN : Nat → List Nd → List Pair
  | _, [] => []
  | i, nd :: r => pairsOf i nd ++ pairsN (i + 1) r
theorem joinF_append (nds : List Nd) : ∀ (l m : List Pair) (a : List Int), joinF nds a (l ++ m) = (joinF nds a l).bind (fun a => joinF nds a m)
  | [], m, a => rfl
  | p :: l, m, a => by
    simp only [List.cons_append, joinF]
    cases ixOf nds p.k with
    | none => rfl
    | some j =>
      simp only
      cases nds[j]? with
      | none => rfl
      | some nd =>
        simp only
        split
        · exact joinF_append nds l m _
        · rfl
theorem joinK_F (nds : List Nd) (i : Nat) (id : Int) : ∀ (ks : List Int) (a : List Int), joinK nds i id a ks = joinF nds a (ks.map fun k => ⟨i, id, k⟩)
  | [], a => rfl
  | k :: r, a => by
    simp only [List.map_cons, joinK, joinF]
    cases ixOf nds k with
    | none => rfl
    | some j =>
      simp only
      cases nds[j]? with
      | none => rfl
      | some nd => simp only; rw [joinK_F nds i id r]
theorem joinN_F (nds : List Nd) : ∀ (r : List Nd) (i : Nat) (a : List Int), joinN nds i a r = joinF nds a (pairsN i r)
  | [], i, a => rfl
  | nd :: r, i, a => by
    simp only [joinN, pairsN, pairsOf]
    rw [joinF_append, joinK_F]
    cases joinF nds a (List.map (fun k => (⟨i, nd.id, k⟩ : Pair)) nd.kids) with
    | none => rfl
    | some a' => exact joinN_F nds r (i + 1) a'
theorem mem_pairs : ∀ {r : List Nd} {i : Nat} {p : Pair}, p ∈ pairsN i r ↔ ∃ m nd, r[m]? = some nd ∧ p.i = i + m ∧ p.id = nd.id ∧ p.k ∈ nd.kids
  | [], i, p => by simp [pairsN]
  | x :: r, i, p => by
    rw [pairsN, List.mem_append, mem_pairs]
    constructor
    · rintro (h | ⟨m, nd, h1, h2, h3, h4⟩)
      · obtain ⟨k, hk, rfl⟩ := List.mem_map.1 h
        exact ⟨0, x, rfl, rfl, rfl, hk⟩
      · exact ⟨m + 1, nd, by simpa using h1, by omega, h3, h4⟩
    · rintro ⟨m, nd, h1, h2, h3, h4⟩
      match m, h1, h2 with
      | 0, h1, h2 =>
        obtain rfl : x = nd := by simpa using h1
        refine .inl (List.mem_map.2 ⟨p.k, h4, ?_⟩)
        obtain ⟨pi, pid, pk⟩ := p
        simp only [Pair.mk.injEq] at h2 h3 ⊢
        exact ⟨by omega, h3.symm, trivial⟩
      | m + 1, h1, h2 => exact .inr ⟨m, nd, by simpa using h1, by omega, h3, h4⟩
/-- a pair is right -/
def PairOk (nds : List Nd) (p : Pair) : Prop := ∃ j nd, ixOf nds p.k = some j ∧ nds[j]? = some nd ∧ nd.par = p.id
theorem ixOf_inj {nds : List Nd} {k k' : Int} {j : Nat} (h : ixOf nds k = some j) (h' : ixOf nds k' = some j) : k = k' := by
  obtain ⟨a, ha, e⟩ := ixOf_some h
  obtain ⟨b, hb, e'⟩ := ixOf_some h'
  rw [ha] at hb
  injection hb with hb
  subst hb
  omega
theorem joinF_len {nds : List Nd} : ∀ {l : List Pair} {a a' : List Int}, joinF nds a l = some a' → a'.length = a.length
  | [], a, a', h => by injection h with h; rw [h]
  | p :: r, a, a', h => by
    simp only [joinF] at h
    split at h
    · cases h
    · split at h
      · cases h
      · split at h
        · rw [joinF_len h, List.length_set]
        · cases h
theorem getD_set {a : List Int} {j m : Nat} {x d : Int} (hj : j < a.length) : (a.set j x).getD m d = if j = m then x else a.getD m d := by
  rw [List.getD_eq_getElem?_getD, List.getD_eq_getElem?_getD, List.getElem?_set]
  by_cases e : j = m
  · subst e; simp [hj]
  · simp [e]
theorem joinF_out {nds : List Nd} : ∀ {l : List Pair} {a a' : List Int}, a.length = nds.length → joinF nds a l = some a' →
    (∀ p ∈ l, PairOk nds p) ∧ (l.map (·.k)).Nodup ∧
    (∀ p ∈ l, ∀ j, ixOf nds p.k = some j → a.getD j 0 = -1 ∧ a'.getD j 0 = p.i) ∧
    (∀ j, (∀ p ∈ l, ixOf nds p.k ≠ some j) → a'.getD j 0 = a.getD j 0)
  | [], a, a', _, h => by
    injection h with h
    subst h
    exact ⟨fun p hp => (by cases hp), List.nodup_nil, fun p hp => (by cases hp), fun j _ => rfl⟩
  | p :: r, a, a', hl, h => by
    simp only [joinF] at h
    split at h
    · cases h
    · rename_i j hj
      split at h
      · cases h
      · rename_i nd hnd
        split at h
        · rename_i hc
          have hjl : j < a.length := by rw [hl]; exact ixOf_lt hj
          obtain ⟨h1, h2, h3, h4⟩ := joinF_out (by rw [List.length_set]; exact hl) h
          have hnot : ∀ q ∈ r, ixOf nds q.k ≠ some j := by
            intro q hq e
            have := (h3 q hq j e).1
            rw [getD_set hjl, if_pos rfl] at this
            omega
          refine ⟨fun q hq => ?_, ?_, fun q hq j' hj' => ?_, fun j' hj' => ?_⟩
          · rcases List.mem_cons.1 hq with rfl | hq
            · exact ⟨j, nd, hj, hnd, hc.1⟩
            · exact h1 q hq
          · rw [List.map_cons, List.nodup_cons]
            refine ⟨fun hm => ?_, h2⟩
            obtain ⟨q, hq, e⟩ := List.mem_map.1 hm
            exact hnot q hq (by rw [e]; exact hj)
          · rcases List.mem_cons.1 hq with rfl | hq
            · rw [hj] at hj'
              injection hj' with hj'
              subst hj'
              refine ⟨hc.2, ?_⟩
              rw [h4 j hnot, getD_set hjl, if_pos rfl]
            · have := h3 q hq j' hj'
              have hne : j ≠ j' := by rintro rfl; exact hnot q hq hj'
              rw [getD_set hjl, if_neg hne] at this
              exact this
          · rw [h4 j' (fun q hq => hj' q (List.mem_cons_of_mem _ hq)), getD_set hjl, if_neg]
            rintro rfl
            exact hj' p (List.mem_cons_self ..) hj
        · cases h
theorem joinF_in {nds : List Nd} : ∀ {l : List Pair} {a : List Int}, a.length = nds.length → (∀ p ∈ l, PairOk nds p) → (l.map (·.k)).Nodup → (∀ p ∈ l, ∀ j, ixOf nds p.k = some j → a.getD j 0 = -1) → ∃ a', joinF nds a l = some a'
  | [], a, _, _, _, _ => ⟨a, rfl⟩
  | p :: r, a, hl, h1, h2, h3 => by
    obtain ⟨j, nd, hj, hnd, hp⟩ := h1 p (List.mem_cons_self ..)
    have hjl : j < a.length := by rw [hl]; exact ixOf_lt hj
    have ha := h3 p (List.mem_cons_self ..) j hj
    rw [List.map_cons, List.nodup_cons] at h2
    obtain ⟨a', ha'⟩ := joinF_in (a := a.set j p.i) (by rw [List.length_set]; exact hl) (fun q hq => h1 q (List.mem_cons_of_mem _ hq)) h2.2 (fun q hq j' hj' => by
      rw [getD_set hjl, if_neg]
      · exact h3 q (List.mem_cons_of_mem _ hq) j' hj'
      · rintro rfl
        exact h2.1 (List.mem_map.2 ⟨q, hq, ixOf_inj hj' hj⟩))
    exact ⟨a', by simp only [joinF, hj, hnd]; rw [if_pos ⟨hp, ha⟩]; exact ha'⟩
end Go.Proofs.YtdeoblhdojbbbaaDoor

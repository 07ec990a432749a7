/-
  PLAIN VALUES: when nodes are a right model. No program stands in it.
  PLAIN VALUES: a model is right, told in two ways; they are the same. No program stands in it.
  PLAIN VALUES: the two ways of telling that a model is right come to the same. No program stands in it.
  WALKS: Word, of the program and of the document.
-/
import Derived.Test.YtjjlofaejpnnnaaGreatDoorZB2
import Derived.Laws.Strings
import Derived.Test.YtjjlofaejpnnnaaGreatDoorRows
import Derived.WalkSpells
import Derived.WalkLawsBesides
import Derived.Test.YtjjlofaejpnnnaaGreatDoorShelf
namespace Go.Proofs.YtjjlofaejpnnnaaGreatDoor
open Go Go.RowKit
set_option linter.unusedVariables false
def ltS (a b : ByteArray) : Bool := Op.bytesLess a.toList b.toList
theorem less_irrefl (a : List UInt8) : Op.bytesLess a a = false := by
  induction a with
  | nil => rfl
  | cons c r ih =>
    simp only [Op.bytesLess, ih, Bool.and_false, Bool.or_false, decide_eq_false_iff_not]
    exact UInt8.lt_irrefl c
theorem less_trans : ∀ {a b c : List UInt8}, Op.bytesLess a b = true → Op.bytesLess b c = true → Op.bytesLess a c = true
  | _, [], _, h, _ => by cases ‹List UInt8› <;> simp [Op.bytesLess] at h
  | _, _ :: _, [], _, h => by simp [Op.bytesLess] at h
  | [], _ :: _, _ :: _, _, _ => rfl
  | x :: a, y :: b, z :: c, h, k => by
    simp only [Op.bytesLess, Bool.or_eq_true, decide_eq_true_eq, Bool.and_eq_true, beq_iff_eq] at h k ⊢
    rcases h with h | ⟨rfl, h⟩
    · rcases k with k | ⟨rfl, k⟩
      · exact .inl (UInt8.lt_trans h k)
      · exact .inl h
    · rcases k with k | ⟨rfl, k⟩
      · exact .inl k
      · exact .inr ⟨rfl, less_trans h k⟩
theorem less_tri : ∀ (a b : List UInt8), Op.bytesLess a b = true ∨ a = b ∨ Op.bytesLess b a = true
  | [], [] => .inr (.inl rfl)
  | [], _ :: _ => .inl rfl
  | _ :: _, [] => .inr (.inr rfl)
  | x :: a, y :: b => by
    simp only [Op.bytesLess, Bool.or_eq_true, decide_eq_true_eq, Bool.and_eq_true, beq_iff_eq, List.cons.injEq]
    by_cases h : x < y
    · exact .inl (.inl h)
    · by_cases h' : y < x
      · exact .inr (.inr (.inl h'))
      · have e : x = y := UInt8.le_antisymm (UInt8.not_lt.1 h') (UInt8.not_lt.1 h)
        subst e
        rcases less_tri a b with k | k | k
        · exact .inl (.inr ⟨rfl, k⟩)
        · exact .inr (.inl ⟨rfl, k⟩)
        · exact .inr (.inr (.inr ⟨rfl, k⟩))
theorem less_asymm {a b : List UInt8} (h : Op.bytesLess a b = true) : Op.bytesLess b a = false := by
  cases k : Op.bytesLess b a with
  | false => rfl
  | true => have := less_trans h k; rw [less_irrefl] at this; cases this
theorem leq_not (a b : List UInt8) : (Op.bytesLess a b || a == b) = !Op.bytesLess b a := by
  rcases less_tri a b with h | rfl | h
  · rw [h, less_asymm h]; rfl
  · rw [less_irrefl]; simp
  · rw [h, less_asymm h]
    have : (a == b) = false := by rw [beq_eq_false_iff_ne]; rintro rfl; rw [less_irrefl] at h; cases h
    rw [this]; rfl
theorem toList_data (s : ByteArray) : s.toList = s.data.toList := Lib.toList_data s
def aboveB (q : Option ByteArray) (s : ByteArray) : Bool := match q with | none => true | some q => ltS q s
def propsB : Option ByteArray → List (ByteArray × ByteArray) → Bool
  | _, [] => true
  | q, p :: r => wordB p.1 && decide (p.2.size ≤ 4096) && aboveB q p.1 && propsB (some p.1) r
def refsB (next : Int) : Option ByteArray → List (ByteArray × Int) → Bool
  | _, [] => true
  | q, p :: r => wordB p.1 && decide (1 ≤ p.2) && decide (p.2 < next) && aboveB q p.1 && refsB next (some p.1) r
def roleB (nd : Nd) : Bool := if nd.par = 0 then nd.role.toList.isEmpty else wordB nd.role
def speltB (next : Int) (nd : Nd) : Bool := wordB nd.con && roleB nd && propsB none nd.props && refsB next none nd.refs
def idsB (next : Int) : Int → List Nd → Bool
  | _, [] => true
  | last, nd :: r => decide (last < nd.id) && decide (nd.id < next) && idsB next nd.id r
def headB (next : Int) (nds : List Nd) : Bool := decide (1 ≤ next) && decide (next ≤ 1048577) && decide (nds.length ≤ 4096)
def numB (next : Int) (nds : List Nd) : Bool := headB next nds && idsB next 0 nds
/-- the place of the node with that number -/
def ixOf (nds : List Nd) (id : Int) : Option Nat := nds.findIdx? (fun n => n.id == id)
/-- the numbers rise, from above 0 on -/
structure Rise (nds : List Nd) : Prop where
  pos : ∀ (i : Nat) nd, nds[i]? = some nd → 1 ≤ nd.id
  lt : ∀ (i j : Nat) a b, i < j → nds[i]? = some a → nds[j]? = some b → a.id < b.id
theorem idsB_rise {next : Int} : ∀ {last : Int} {nds : List Nd}, 0 ≤ last → idsB next last nds = true → (∀ (i : Nat) nd, nds[i]? = some nd → last < nd.id ∧ nd.id < next) ∧ (∀ (i j : Nat) a b, i < j → nds[i]? = some a → nds[j]? = some b → a.id < b.id)
  | _, [], _, _ => ⟨fun i nd h => by simp at h, fun i j a b _ h => by simp at h⟩
  | last, x :: r, h0, h => by
    simp only [idsB, Bool.and_eq_true, decide_eq_true_eq] at h
    obtain ⟨⟨h1, h2⟩, h3⟩ := h
    have ih := idsB_rise (by omega) h3
    refine ⟨fun i nd hi => ?_, fun i j a b hij ha hb => ?_⟩
    · match i, hi with
      | 0, hi => obtain rfl : x = nd := by simpa using hi
                 exact ⟨h1, h2⟩
      | i + 1, hi => have := ih.1 i nd (by simpa using hi); omega
    · match i, j, ha, hb with
      | _, 0, _, _ => omega
      | 0, j + 1, ha, hb =>
        obtain rfl : x = a := by simpa using ha
        exact (ih.1 j b (by simpa using hb)).1
      | i + 1, j + 1, ha, hb => exact ih.2 i j a b (by omega) (by simpa using ha) (by simpa using hb)
theorem Rise.of {next : Int} {nds : List Nd} (h : idsB next 0 nds = true) : Rise nds :=
  ⟨fun i nd hi => by have := ((idsB_rise (by omega) h).1 i nd hi).1; omega, (idsB_rise (by omega) h).2⟩
theorem Rise.inj {nds : List Nd} (h : Rise nds) {i j : Nat} {a b : Nd} (ha : nds[i]? = some a) (hb : nds[j]? = some b) (e : a.id = b.id) : i = j := by
  rcases Nat.lt_trichotomy i j with k | k | k
  · have := h.lt i j a b k ha hb; omega
  · exact k
  · have := h.lt j i b a k hb ha; omega
theorem ixOf_some {nds : List Nd} {id : Int} {i : Nat} (h : ixOf nds id = some i) : ∃ nd, nds[i]? = some nd ∧ nd.id = id := by
  obtain ⟨hl, hp, _⟩ := List.findIdx?_eq_some_iff_getElem.1 h
  exact ⟨nds[i], List.getElem?_eq_getElem hl, by simpa using hp⟩
theorem ixOf_lt {nds : List Nd} {id : Int} {i : Nat} (h : ixOf nds id = some i) : i < nds.length := by
  obtain ⟨hl, _⟩ := List.findIdx?_eq_some_iff_getElem.1 h
  exact hl
theorem ixOf_none {nds : List Nd} {id : Int} (h : ixOf nds id = none) : ∀ (i : Nat) nd, nds[i]? = some nd → nd.id ≠ id := by
  intro i nd hi
  have := List.findIdx?_eq_none_iff.1 h nd (List.mem_of_getElem? hi)
  simpa using this
theorem ixOf_is {nds : List Nd} (h : Rise nds) {id : Int} {i : Nat} {nd : Nd} (hi : nds[i]? = some nd) (e : nd.id = id) : ixOf nds id = some i := by
  cases hx : ixOf nds id with
  | none => exact absurd e (ixOf_none hx i nd hi)
  | some j =>
    obtain ⟨nd', hj, e'⟩ := ixOf_some hx
    rw [h.inj hj hi (by omega)]
theorem ixOf_no {nds : List Nd} {id : Int} (h : ∀ (i : Nat) nd, nds[i]? = some nd → nd.id ≠ id) : ixOf nds id = none := by
  cases hx : ixOf nds id with
  | none => rfl
  | some j => obtain ⟨nd', hj, e'⟩ := ixOf_some hx; exact absurd e' (h j nd' hj)
/-- what a search by halves comes to -/
theorem ixOf_at {nds : List Nd} (h : Rise nds) {id : Int} {k : Nat} (hb : ∀ (i : Nat) nd, i < k → nds[i]? = some nd → nd.id < id) (ha : ∀ (i : Nat) nd, k ≤ i → nds[i]? = some nd → id ≤ nd.id) :
    ixOf nds id = match nds[k]? with | some nd => if nd.id = id then some k else none | none => none := by
  cases hk : nds[k]? with
  | none =>
    refine ixOf_no fun i nd hi e => ?_
    by_cases hik : i < k
    · have := hb i nd hik hi; omega
    · have hl : i < nds.length := (List.getElem?_eq_some_iff.1 hi).1
      have := List.getElem?_eq_none_iff.1 hk
      omega
  | some nd =>
    simp only
    by_cases e : nd.id = id
    · rw [if_pos e]; exact ixOf_is h hk e
    · rw [if_neg e]
      refine ixOf_no fun i nd' hi e' => ?_
      rcases Nat.lt_trichotomy i k with g | rfl | g
      · have := hb i nd' g hi; omega
      · rw [hk] at hi; injection hi with hi; subst hi; exact e e'
      · have := h.lt k i nd nd' g hk hi
        have := ha k nd (Nat.le_refl _) hk
        omega
end Go.Proofs.YtjjlofaejpnnnaaGreatDoor
namespace Go.Proofs.YtjjlofaejpnnnaaGreatDoor
open Go Go.RowKit
set_option linter.unusedVariables false
def ndOf (nds : List Nd) (id : Int) : Option Nd := (ixOf nds id).bind (nds[·]?)
def kidsB (nds : List Nd) (id : Int) : List Int → List Int → Bool
  | _, [] => true
  | seen, k :: r => (match ndOf nds k with | none => false | some nd => nd.par == id) && !seen.contains k && kidsB nds id (k :: seen) r
def plainB (next : Int) (nds : List Nd) (nd : Nd) : Bool :=
  wordB nd.con && decide (nd.kids.length ≤ nds.length) && propsB none nd.props && refsB next none nd.refs && kidsB nds nd.id [] nd.kids
def belowB (nds : List Nd) : Nat → Nd → Bool
  | 0, _ => false
  | f + 1, n => if n.par = 0 then n.role.toList.isEmpty else
    match ndOf nds n.par with
    | none => false
    | some p => wordB n.role && p.kids.contains n.id && belowB nds f p
/-- the document's: is a model right? -/
def rightB (next : Int) (nds : List Nd) : Bool := numB next nds && nds.all (fun nd => plainB next nds nd && belowB nds 64 nd)
/-- parents and kids agree: the index of each one's parent (-1: none) -/
def joinK (nds : List Nd) (i : Nat) (id : Int) : List Int → List Int → Option (List Int)
  | a, [] => some a
  | a, k :: r => match ixOf nds k with
    | none => none
    | some j => match nds[j]? with
      | none => none
      | some nd => if nd.par = id ∧ a.getD j 0 = -1 then joinK nds i id (a.set j i) r else none
def joinN (nds : List Nd) : Nat → List Int → List Nd → Option (List Int)
  | _, a, [] => some a
  | i, a, nd :: r => match joinK nds i nd.id a nd.kids with
    | none => none
    | some a' => joinN nds (i + 1) a' r
def looseB : List Int → List Nd → Bool
  | x :: a, nd :: r => (x == -1 && nd.par != 0) || looseB a r
  | _, _ => false
def joinS (nds : List Nd) : Option (List Int) :=
  match joinN nds 0 (List.replicate nds.length (-1)) nds with
  | none => none
  | some a => if looseB a nds then none else some a
/-- how many nodes deep, if no deeper than that -/
def lvl (a : List Int) : Nat → Int → Option Nat
  | 0, i => if i = -1 then some 0 else none
  | f + 1, i => if i = -1 then some 0 else (lvl a f (a.getD i.toNat (-1))).map (· + 1)
def rootedB (a : List Int) : Bool := (List.range a.length).all (fun i => (lvl a 64 i).isSome)
/-- the program's: is a model right? -/
def checkB (next : Int) (nds : List Nd) : Bool := numB next nds && nds.all (speltB next) && (match joinS nds with | none => false | some a => rootedB a)
structure Pair where
  i : Nat
  id : Int
  k : Int
def joinF (nds : List Nd) : List Int → List Pair → Option (List Int)
  | a, [] => some a
  | a, p :: r => match ixOf nds p.k with
    | none => none
    | some j => match nds[j]? with
      | none => none
      | some nd => if nd.par = p.id ∧ a.getD j 0 = -1 then joinF nds (a.set j p.i) r else none
def pairsOf (i : Nat) (nd : Nd) : List Pair := nd.kids.map fun k => ⟨i, nd.id, k⟩
def pairsN : Nat → List Nd → List Pair
  | _, [] => []
  | i, nd :: r => pairsOf i nd ++ pairsN (i + 1) r
theorem joinF_append (nds : List Nd) : ∀ (l m : List Pair) (a : List Int), joinF nds a (l ++ m) = (joinF nds a l).bind (fun a => joinF nds a m)
  | [], m, a => rfl
  | p :: l, m, a => by
    simp only [List.cons_append, joinF]
    cases ixOf nds p.k with
    | none => rfl
    | some j =>
      simp only
      cases nds[j]? with
      | none => rfl
      | some nd =>
        simp only
        split
        · exact joinF_append nds l m _
        · rfl
theorem joinK_F (nds : List Nd) (i : Nat) (id : Int) : ∀ (ks : List Int) (a : List Int), joinK nds i id a ks = joinF nds a (ks.map fun k => ⟨i, id, k⟩)
  | [], a => rfl
  | k :: r, a => by
    simp only [List.map_cons, joinK, joinF]
    cases ixOf nds k with
    | none => rfl
    | some j =>
      simp only
      cases nds[j]? with
      | none => rfl
      | some nd => simp only; rw [joinK_F nds i id r]
theorem joinN_F (nds : List Nd) : ∀ (r : List Nd) (i : Nat) (a : List Int), joinN nds i a r = joinF nds a (pairsN i r)
  | [], i, a => rfl
  | nd :: r, i, a => by
    simp only [joinN, pairsN, pairsOf]
    rw [joinF_append, joinK_F]
    cases joinF nds a (List.map (fun k => (⟨i, nd.id, k⟩ : Pair)) nd.kids) with
    | none => rfl
    | some a' => exact joinN_F nds r (i + 1) a'
theorem mem_pairs : ∀ {r : List Nd} {i : Nat} {p : Pair}, p ∈ pairsN i r ↔ ∃ m nd, r[m]? = some nd ∧ p.i = i + m ∧ p.id = nd.id ∧ p.k ∈ nd.kids
  | [], i, p => by simp [pairsN]
  | x :: r, i, p => by
    rw [pairsN, List.mem_append, mem_pairs]
    constructor
    · rintro (h | ⟨m, nd, h1, h2, h3, h4⟩)
      · obtain ⟨k, hk, rfl⟩ := List.mem_map.1 h
        exact ⟨0, x, rfl, rfl, rfl, hk⟩
      · exact ⟨m + 1, nd, by simpa using h1, by omega, h3, h4⟩
    · rintro ⟨m, nd, h1, h2, h3, h4⟩
      match m, h1, h2 with
      | 0, h1, h2 =>
        obtain rfl : x = nd := by simpa using h1
        refine .inl (List.mem_map.2 ⟨p.k, h4, ?_⟩)
        obtain ⟨pi, pid, pk⟩ := p
        simp only [Pair.mk.injEq] at h2 h3 ⊢
        exact ⟨by omega, h3.symm, trivial⟩
      | m + 1, h1, h2 => exact .inr ⟨m, nd, by simpa using h1, by omega, h3, h4⟩
/-- a pair is right -/
def PairOk (nds : List Nd) (p : Pair) : Prop := ∃ j nd, ixOf nds p.k = some j ∧ nds[j]? = some nd ∧ nd.par = p.id
theorem ixOf_inj {nds : List Nd} {k k' : Int} {j : Nat} (h : ixOf nds k = some j) (h' : ixOf nds k' = some j) : k = k' := by
  obtain ⟨a, ha, e⟩ := ixOf_some h
  obtain ⟨b, hb, e'⟩ := ixOf_some h'
  rw [ha] at hb
  injection hb with hb
  subst hb
  omega
theorem joinF_len {nds : List Nd} : ∀ {l : List Pair} {a a' : List Int}, joinF nds a l = some a' → a'.length = a.length
  | [], a, a', h => by injection h with h; rw [h]
  | p :: r, a, a', h => by
    simp only [joinF] at h
    split at h
    · cases h
    · split at h
      · cases h
      · split at h
        · rw [joinF_len h, List.length_set]
        · cases h
theorem getD_set {a : List Int} {j m : Nat} {x d : Int} (hj : j < a.length) : (a.set j x).getD m d = if j = m then x else a.getD m d := by
  rw [List.getD_eq_getElem?_getD, List.getD_eq_getElem?_getD, List.getElem?_set]
  by_cases e : j = m
  · subst e; simp [hj]
  · simp [e]
theorem joinF_out {nds : List Nd} : ∀ {l : List Pair} {a a' : List Int}, a.length = nds.length → joinF nds a l = some a' →
    (∀ p ∈ l, PairOk nds p) ∧ (l.map (·.k)).Nodup ∧
    (∀ p ∈ l, ∀ j, ixOf nds p.k = some j → a.getD j 0 = -1 ∧ a'.getD j 0 = p.i) ∧
    (∀ j, (∀ p ∈ l, ixOf nds p.k ≠ some j) → a'.getD j 0 = a.getD j 0)
  | [], a, a', _, h => by
    injection h with h
    subst h
    exact ⟨fun p hp => (by cases hp), List.nodup_nil, fun p hp => (by cases hp), fun j _ => rfl⟩
  | p :: r, a, a', hl, h => by
    simp only [joinF] at h
    split at h
    · cases h
    · rename_i j hj
      split at h
      · cases h
      · rename_i nd hnd
        split at h
        · rename_i hc
          have hjl : j < a.length := by rw [hl]; exact ixOf_lt hj
          obtain ⟨h1, h2, h3, h4⟩ := joinF_out (by rw [List.length_set]; exact hl) h
          have hnot : ∀ q ∈ r, ixOf nds q.k ≠ some j := by
            intro q hq e
            have := (h3 q hq j e).1
            rw [getD_set hjl, if_pos rfl] at this
            omega
          refine ⟨fun q hq => ?_, ?_, fun q hq j' hj' => ?_, fun j' hj' => ?_⟩
          · rcases List.mem_cons.1 hq with rfl | hq
            · exact ⟨j, nd, hj, hnd, hc.1⟩
            · exact h1 q hq
          · rw [List.map_cons, List.nodup_cons]
            refine ⟨fun hm => ?_, h2⟩
            obtain ⟨q, hq, e⟩ := List.mem_map.1 hm
            exact hnot q hq (by rw [e]; exact hj)
          · rcases List.mem_cons.1 hq with rfl | hq
            · rw [hj] at hj'
              injection hj' with hj'
              subst hj'
              refine ⟨hc.2, ?_⟩
              rw [h4 j hnot, getD_set hjl, if_pos rfl]
            · have := h3 q hq j' hj'
              have hne : j ≠ j' := by rintro rfl; exact hnot q hq hj'
              rw [getD_set hjl, if_neg hne] at this
              exact this
          · rw [h4 j' (fun q hq => hj' q (List.mem_cons_of_mem _ hq)), getD_set hjl, if_neg]
            rintro rfl
            exact hj' p (List.mem_cons_self ..) hj
        · cases h
theorem joinF_in {nds : List Nd} : ∀ {l : List Pair} {a : List Int}, a.length = nds.length → (∀ p ∈ l, PairOk nds p) → (l.map (·.k)).Nodup → (∀ p ∈ l, ∀ j, ixOf nds p.k = some j → a.getD j 0 = -1) → ∃ a', joinF nds a l = some a'
  | [], a, _, _, _, _ => ⟨a, rfl⟩
  | p :: r, a, hl, h1, h2, h3 => by
    obtain ⟨j, nd, hj, hnd, hp⟩ := h1 p (List.mem_cons_self ..)
    have hjl : j < a.length := by rw [hl]; exact ixOf_lt hj
    have ha := h3 p (List.mem_cons_self ..) j hj
    rw [List.map_cons, List.nodup_cons] at h2
    obtain ⟨a', ha'⟩ := joinF_in (a := a.set j p.i) (by rw [List.length_set]; exact hl) (fun q hq => h1 q (List.mem_cons_of_mem _ hq)) h2.2 (fun q hq j' hj' => by
      rw [getD_set hjl, if_neg]
      · exact h3 q (List.mem_cons_of_mem _ hq) j' hj'
      · rintro rfl
        exact h2.1 (List.mem_map.2 ⟨q, hq, ixOf_inj hj' hj⟩))
    exact ⟨a', by simp only [joinF, hj, hnd]; rw [if_pos ⟨hp, ha⟩]; exact ha'⟩
end Go.Proofs.YtjjlofaejpnnnaaGreatDoor
namespace Go.Proofs.YtjjlofaejpnnnaaGreatDoor
open Go Go.RowKit
set_option linter.unusedVariables false
theorem ndOf_some {nds : List Nd} {id : Int} {nd : Nd} (h : ndOf nds id = some nd) : ∃ i, ixOf nds id = some i ∧ nds[i]? = some nd ∧ nd.id = id := by
  unfold ndOf at h
  cases hi : ixOf nds id with
  | none => rw [hi] at h; cases h
  | some i =>
    rw [hi] at h
    obtain ⟨nd', h1, h2⟩ := ixOf_some hi
    have h : nds[i]? = some nd := h
    rw [h1] at h
    injection h with h
    subst h
    exact ⟨i, rfl, h1, h2⟩
theorem ndOf_is {nds : List Nd} (hr : Rise nds) {i : Nat} {nd : Nd} (h : nds[i]? = some nd) : ndOf nds nd.id = some nd := by
  unfold ndOf; rw [ixOf_is hr h rfl]; exact h
theorem kidsB_spec {nds : List Nd} {id : Int} : ∀ {ks seen : List Int}, kidsB nds id seen ks = true ↔ (∀ k ∈ ks, (∃ nd, ndOf nds k = some nd ∧ nd.par = id) ∧ k ∉ seen) ∧ ks.Nodup
  | [], seen => by simp [kidsB]
  | k :: r, seen => by
    simp only [kidsB, Bool.and_eq_true]
    rw [kidsB_spec]
    constructor
    · rintro ⟨⟨h1, h2⟩, h3, h4⟩
      have hk : k ∉ seen := by simpa using h2
      refine ⟨fun x hx => ?_, ?_⟩
      · rcases List.mem_cons.1 hx with rfl | hx
        · refine ⟨?_, hk⟩
          cases hn : ndOf nds x with
          | none => rw [hn] at h1; cases h1
          | some nd => rw [hn] at h1; exact ⟨nd, rfl, by simpa using h1⟩
        · have := h3 x hx
          exact ⟨this.1, fun hs => this.2 (List.mem_cons_of_mem _ hs)⟩
      · rw [List.nodup_cons]
        exact ⟨fun hm => (h3 k hm).2 (List.mem_cons_self ..), h4⟩
    · rintro ⟨h1, h2⟩
      rw [List.nodup_cons] at h2
      obtain ⟨⟨nd, hn, hp⟩, hk⟩ := h1 k (List.mem_cons_self ..)
      refine ⟨⟨by rw [hn]; simpa using hp, by simpa using hk⟩, fun x hx => ⟨(h1 x (List.mem_cons_of_mem _ hx)).1, fun hs => ?_⟩, h2.2⟩
      rcases List.mem_cons.1 hs with rfl | hs
      · exact h2.1 hx
      · exact (h1 x (List.mem_cons_of_mem _ hx)).2 hs
/-- no more numbers than there are, if each is met once -/
theorem nodup_le : ∀ {l m : List Int}, l.Nodup → (∀ x ∈ l, x ∈ m) → l.length ≤ m.length
  | [], m, _, _ => Nat.zero_le _
  | x :: l, m, h, hs => by
    rw [List.nodup_cons] at h
    have hx := hs x (List.mem_cons_self ..)
    have := nodup_le (l := l) (m := m.erase x) h.2 (fun y hy => (List.mem_erase_of_ne (fun e => h.1 (by rw [← e]; exact hy))).2 (hs y (List.mem_cons_of_mem _ hy)))
    rw [List.length_erase_of_mem hx] at this
    have := List.length_pos_of_mem hx
    rw [List.length_cons]
    omega
theorem looseB_spec : ∀ {a : List Int} {nds : List Nd}, looseB a nds = false ↔ ∀ (j : Nat) x nd, a[j]? = some x → nds[j]? = some nd → x ≠ -1 ∨ nd.par = 0
  | [], nds => by simp [looseB]
  | _ :: _, [] => by simp [looseB]
  | x :: a, n :: r => by
    simp only [looseB, Bool.or_eq_false_iff, looseB_spec]
    constructor
    · rintro ⟨h1, h2⟩ j y nd hy hn
      match j, hy, hn with
      | 0, hy, hn =>
        obtain rfl : x = y := by simpa using hy
        obtain rfl : n = nd := by simpa using hn
        by_cases e : x = -1
        · right; subst e; simpa using h1
        · exact .inl e
      | j + 1, hy, hn => exact h2 j y nd (by simpa using hy) (by simpa using hn)
    · intro h
      refine ⟨?_, fun j y nd hy hn => h (j + 1) y nd (by simpa using hy) (by simpa using hn)⟩
      rcases h 0 x n rfl rfl with e | e
      · simp [e]
      · simp [e]
/-- what the numbers of the parents tell -/
structure Join (nds : List Nd) (a : List Int) : Prop where
  len : a.length = nds.length
  kid : ∀ (i : Nat) nd, nds[i]? = some nd → ∀ k ∈ nd.kids, ∃ j kd, ixOf nds k = some j ∧ nds[j]? = some kd ∧ kd.par = nd.id ∧ a.getD j 0 = i
  nodup : ∀ (i : Nat) nd, nds[i]? = some nd → nd.kids.Nodup
  root : ∀ (j : Nat) nd, nds[j]? = some nd → nd.par ≠ 0 → a.getD j 0 ≠ -1
  from_ : ∀ (j : Nat) nd, nds[j]? = some nd → a.getD j 0 ≠ -1 → ∃ (i : Nat) (p : Nd), nds[i]? = some p ∧ nd.id ∈ p.kids ∧ a.getD j 0 = i ∧ nd.par = p.id
theorem pairs_nodup {nds : List Nd} {i : Nat} {nd : Nd} (h : (List.map (·.k) (pairsN 0 nds)).Nodup) (hi : nds[i]? = some nd) : nd.kids.Nodup := by
  have key : ∀ (r : List Nd) (m i : Nat) (nd : Nd), (List.map (·.k) (pairsN m r)).Nodup → r[i]? = some nd → nd.kids.Nodup := by
    intro r
    induction r with
    | nil => intro m i nd _ h; simp at h
    | cons x r ih =>
      intro m i nd h hi
      rw [pairsN, List.map_append, List.nodup_append] at h
      match i, hi with
      | 0, hi =>
        obtain rfl : x = nd := by simpa using hi
        have := h.1
        rw [pairsOf, List.map_map] at this
        have e : ((fun p : Pair => p.k) ∘ fun k => (⟨m, x.id, k⟩ : Pair)) = id := rfl
        rw [e, List.map_id] at this
        exact this
      | i + 1, hi => exact ih (m + 1) i nd h.2.1 (by simpa using hi)
  exact key nds 0 i nd h hi
theorem join_of {nds : List Nd} (hr : Rise nds) {a : List Int} (h : joinS nds = some a) : Join nds a := by
  unfold joinS at h
  rw [joinN_F] at h
  cases hf : joinF nds (List.replicate nds.length (-1)) (pairsN 0 nds) with
  | none => rw [hf] at h; cases h
  | some a' =>
    rw [hf] at h
    simp only at h
    split at h
    · cases h
    · rename_i hl
      injection h with h
      subst h
      have hl : looseB a' nds = false := by simpa using hl
      have hlen := joinF_len hf
      rw [List.length_replicate] at hlen
      obtain ⟨h1, h2, h3, h4⟩ := joinF_out (by simp) hf
      have hroot : ∀ (j : Nat) nd, nds[j]? = some nd → nd.par ≠ 0 → a'.getD j 0 ≠ -1 := by
        intro j nd hj hp
        have hjl : j < a'.length := by rw [hlen]; exact (List.getElem?_eq_some_iff.1 hj).1
        have := looseB_spec.1 hl j a'[j] nd (List.getElem?_eq_getElem hjl) hj
        rw [List.getD_eq_getElem?_getD, List.getElem?_eq_getElem hjl, Option.getD_some]
        rcases this with e | e
        · exact e
        · exact absurd e hp
      refine ⟨hlen, fun i nd hi k hk => ?_, fun i nd hi => pairs_nodup h2 hi, hroot, fun j nd hj hne => ?_⟩
      · have hm : (⟨i, nd.id, k⟩ : Pair) ∈ pairsN 0 nds := mem_pairs.2 ⟨i, nd, hi, by simp, rfl, hk⟩
        obtain ⟨j, kd, hj, hkd, hp⟩ := h1 _ hm
        exact ⟨j, kd, hj, hkd, hp, (h3 _ hm j hj).2⟩
      · apply Classical.byContradiction
        intro hno
        apply hne
        rw [h4 j (fun p hp e => hno ?_), List.getD_eq_getElem?_getD, List.getElem?_replicate]
        · have : j < nds.length := (List.getElem?_eq_some_iff.1 hj).1
          simp [this]
        · obtain ⟨m, q, hq, e1, e2, e3⟩ := mem_pairs.1 hp
          obtain ⟨j', kd, hj', hkd, hpar⟩ := h1 p hp
          rw [e] at hj'
          injection hj' with hj'
          subst hj'
          rw [hj] at hkd
          injection hkd with hkd
          subst hkd
          obtain ⟨kd', hk', hid⟩ := ixOf_some e
          rw [hj] at hk'
          injection hk' with hk'
          subst hk'
          refine ⟨m, q, hq, by rw [hid]; exact e3, ?_, by rw [hpar, e2]⟩
          rw [(h3 p hp j e).2, e1]; simp
theorem below_of_lvl {nds : List Nd} (hr : Rise nds) {a : List Int} (hj : Join nds a) (hrole : ∀ (i : Nat) nd, nds[i]? = some nd → roleB nd = true) :
    ∀ (f i : Nat) nd, nds[i]? = some nd → (lvl a f i).isSome = true → belowB nds f nd = true
  | 0, i, nd, hi, h => by
    rw [lvl, if_neg (by omega)] at h
    cases h
  | f + 1, i, nd, hi, h => by
    have ro := hrole i nd hi
    unfold roleB at ro
    rw [belowB]
    by_cases hp : nd.par = 0
    · rw [if_pos hp] at ro ⊢; exact ro
    · rw [if_neg hp] at ro ⊢
      obtain ⟨i', p, hp', hk, ha, hpar⟩ := hj.from_ i nd hi (hj.root i nd hi hp)
      rw [hpar, ndOf_is hr hp']
      simp only [Bool.and_eq_true]
      rw [lvl, if_neg (by omega)] at h
      have e : a.getD (i : Int).toNat (-1) = i' := by
        have hl : i < a.length := by rw [hj.len]; exact (List.getElem?_eq_some_iff.1 hi).1
        rw [Int.toNat_natCast, ← ha, List.getD_eq_getElem?_getD, List.getD_eq_getElem?_getD, List.getElem?_eq_getElem hl]
        rfl
      rw [e] at h
      exact ⟨⟨ro, by simpa using hk⟩, below_of_lvl hr hj hrole f i' p hp' (by simpa using h)⟩
theorem lvl_of_below {nds : List Nd} (hr : Rise nds) {a : List Int} (hj : Join nds a) :
    ∀ (f i : Nat) nd, nds[i]? = some nd → belowB nds f nd = true → (lvl a f i).isSome = true
  | 0, i, nd, hi, h => by rw [belowB] at h; cases h
  | f + 1, i, nd, hi, h => by
    have hl : i < a.length := by rw [hj.len]; exact (List.getElem?_eq_some_iff.1 hi).1
    have e0 : a.getD (i : Int).toNat (-1) = a.getD i 0 := by
      rw [Int.toNat_natCast, List.getD_eq_getElem?_getD, List.getD_eq_getElem?_getD, List.getElem?_eq_getElem hl]
      rfl
    rw [lvl, if_neg (by omega), e0]
    rw [belowB] at h
    by_cases hp : nd.par = 0
    · have : a.getD i 0 = -1 := by
        apply Classical.byContradiction
        intro hne
        obtain ⟨i', p, hp', hk, ha, hpar⟩ := hj.from_ i nd hi hne
        have := hr.pos i' p hp'
        omega
      rw [this]
      cases f <;> simp [lvl]
    · rw [if_neg hp] at h
      obtain ⟨i', p, hp', hk, ha, hpar⟩ := hj.from_ i nd hi (hj.root i nd hi hp)
      rw [hpar, ndOf_is hr hp'] at h
      simp only [Bool.and_eq_true] at h
      rw [ha]
      have := lvl_of_below hr hj f i' p hp' h.2
      simpa using this
theorem checkB_eq (next : Int) (nds : List Nd) : checkB next nds = rightB next nds := by
  unfold checkB rightB
  cases hn : numB next nds with
  | false => rfl
  | true =>
    rw [Bool.true_and, Bool.true_and]
    have hr : Rise nds := by unfold numB at hn; rw [Bool.and_eq_true] at hn; exact Rise.of hn.2
    rw [Bool.eq_iff_iff, Bool.and_eq_true, List.all_eq_true, List.all_eq_true]
    constructor
    · rintro ⟨hs, hj⟩
      cases ha : joinS nds with
      | none => rw [ha] at hj; cases hj
      | some a =>
        rw [ha] at hj
        have hj : rootedB a = true := hj
        have J := join_of hr ha
        intro nd hm
        obtain ⟨i, hi⟩ := List.getElem?_of_mem hm
        have hsp := hs nd hm
        unfold speltB at hsp
        simp only [Bool.and_eq_true] at hsp
        have hk : kidsB nds nd.id [] nd.kids = true := kidsB_spec.2 ⟨fun k hk => by
          obtain ⟨j, kd, h1, h2, h3, h4⟩ := J.kid i nd hi k hk
          refine ⟨⟨kd, ?_, h3⟩, by simp⟩
          unfold ndOf; rw [h1]; exact h2, J.nodup i nd hi⟩
        have hlen : nd.kids.length ≤ nds.length := by
          have := nodup_le (m := nds.map (·.id)) (J.nodup i nd hi) (fun k hk => by
            obtain ⟨j, kd, h1, h2, h3, h4⟩ := J.kid i nd hi k hk
            obtain ⟨kd', h5, h6⟩ := ixOf_some h1
            exact List.mem_map.2 ⟨kd', List.mem_of_getElem? h5, h6⟩)
          simpa using this
        rw [Bool.and_eq_true]
        refine ⟨?_, below_of_lvl hr J (fun i nd hi => ?_) 64 i nd hi ?_⟩
        · unfold plainB
          simp only [Bool.and_eq_true, decide_eq_true_eq]
          exact ⟨⟨⟨⟨hsp.1.1.1, hlen⟩, hsp.1.2⟩, hsp.2⟩, hk⟩
        · have := hs nd (List.mem_of_getElem? hi)
          unfold speltB at this
          simp only [Bool.and_eq_true] at this
          exact this.1.1.2
        · unfold rootedB at hj
          rw [List.all_eq_true] at hj
          exact hj i (by rw [List.mem_range, J.len]; exact (List.getElem?_eq_some_iff.1 hi).1)
    · intro hall
      have hk : ∀ nd ∈ nds, (∀ k ∈ nd.kids, ∃ kd, ndOf nds k = some kd ∧ kd.par = nd.id) ∧ nd.kids.Nodup := by
        intro nd hm
        have := hall nd hm
        unfold plainB at this
        simp only [Bool.and_eq_true] at this
        have h := kidsB_spec.1 this.1.2
        exact ⟨fun k hk => (h.1 k hk).1, h.2⟩
      obtain ⟨a', ha'⟩ : ∃ a', joinF nds (List.replicate nds.length (-1)) (pairsN 0 nds) = some a' := by
        refine joinF_in (by simp) (fun p hp => ?_) ?_ (fun p hp j hj => ?_)
        · obtain ⟨m, nd, h1, h2, h3, h4⟩ := mem_pairs.1 hp
          obtain ⟨kd, h5, h6⟩ := (hk nd (List.mem_of_getElem? h1)).1 _ h4
          obtain ⟨j, h7, h8, h9⟩ := ndOf_some h5
          exact ⟨j, kd, h7, h8, by rw [h6, h3]⟩
        · have key : ∀ (r : List Nd) (m : Nat), (∀ i nd, r[i]? = some nd → nds[m + i]? = some nd) → (List.map (·.k) (pairsN m r)).Nodup := by
            intro r
            induction r with
            | nil => intro m _; exact List.nodup_nil
            | cons x r ih =>
              intro m hsub
              rw [pairsN, List.map_append, List.nodup_append]
              have hx : nds[m]? = some x := by have := hsub 0 x rfl; simpa using this
              refine ⟨?_, ih (m + 1) (fun i nd hi => by have := hsub (i + 1) nd (by simpa using hi); rwa [show m + 1 + i = m + (i + 1) from by omega]), ?_⟩
              · rw [pairsOf, List.map_map]
                have e : ((fun p : Pair => p.k) ∘ fun k => (⟨m, x.id, k⟩ : Pair)) = id := rfl
                rw [e, List.map_id]
                exact (hk x (List.mem_of_getElem? hx)).2
              · intro k hk1 k' hk2 e
                subst e
                obtain ⟨p, hp, e1⟩ := List.mem_map.1 hk1
                obtain ⟨k', hk', rfl⟩ := List.mem_map.1 hp
                obtain ⟨q, hq, e2⟩ := List.mem_map.1 hk2
                obtain ⟨m', y, h1, h2, h3, h4⟩ := mem_pairs.1 hq
                have hy : nds[m + 1 + m']? = some y := by have := hsub (m' + 1) y (by simpa using h1); rwa [show m + 1 + m' = m + (m' + 1) from by omega]
                obtain ⟨kd, h5, h6⟩ := (hk x (List.mem_of_getElem? hx)).1 k' hk'
                obtain ⟨kd', h7, h8⟩ := (hk y (List.mem_of_getElem? hy)).1 q.k h4
                have e3 : q.k = k' := by rw [e2, ← e1]
                rw [e3, h5] at h7
                injection h7 with h7
                subst h7
                have := hr.inj hx hy (by omega)
                omega
          exact key nds 0 (fun i nd hi => by simpa using hi)
        · have := ixOf_lt hj
          rw [List.getD_eq_getElem?_getD, List.getElem?_replicate, if_pos this]
          rfl
      have hlen := joinF_len ha'
      rw [List.length_replicate] at hlen
      obtain ⟨h1, h2, h3, h4⟩ := joinF_out (by simp) ha'
      have hnl : looseB a' nds = false := by
        rw [looseB_spec]
        intro j x nd hx hnd
        by_cases hp : nd.par = 0
        · exact .inr hp
        · left
          have hb := hall nd (List.mem_of_getElem? hnd)
          rw [Bool.and_eq_true] at hb
          have hb := hb.2
          rw [belowB, if_neg hp] at hb
          cases hpn : ndOf nds nd.par with
          | none => rw [hpn] at hb; cases hb
          | some p =>
            rw [hpn] at hb
            simp only [Bool.and_eq_true] at hb
            obtain ⟨i, h5, h6, h7⟩ := ndOf_some hpn
            have hm : (⟨i, p.id, nd.id⟩ : Pair) ∈ pairsN 0 nds := mem_pairs.2 ⟨i, p, h6, by simp, rfl, by simpa using hb.1.2⟩
            have := (h3 _ hm j (ixOf_is hr hnd rfl)).2
            rw [List.getD_eq_getElem?_getD, hx] at this
            simp only [Option.getD_some] at this
            rw [this]
            omega
      have ha : joinS nds = some a' := by
        unfold joinS
        rw [joinN_F, ha']
        simp only
        rw [if_neg (by rw [hnl]; simp)]
      have J := join_of hr ha
      refine ⟨fun nd hm => ?_, ?_⟩
      · have h := hall nd hm
        rw [Bool.and_eq_true] at h
        have hb := h.2
        have hp := h.1
        unfold plainB at hp
        simp only [Bool.and_eq_true] at hp
        unfold speltB
        simp only [Bool.and_eq_true]
        refine ⟨⟨⟨hp.1.1.1.1, ?_⟩, hp.1.1.2⟩, hp.1.2⟩
        unfold roleB
        rw [belowB] at hb
        by_cases h0 : nd.par = 0
        · rw [if_pos h0] at hb ⊢; exact hb
        · rw [if_neg h0] at hb ⊢
          cases hpn : ndOf nds nd.par with
          | none => rw [hpn] at hb; cases hb
          | some p =>
            rw [hpn] at hb
            simp only [Bool.and_eq_true] at hb
            exact hb.1.1
      · rw [ha]
        show rootedB a' = true
        unfold rootedB
        rw [List.all_eq_true]
        intro i hi
        rw [List.mem_range, hlen] at hi
        have hi' : nds[i]? = some nds[i] := List.getElem?_eq_getElem hi
        have := hall nds[i] (List.mem_of_getElem? hi')
        rw [Bool.and_eq_true] at this
        exact lvl_of_below hr J 64 i _ hi' this.2
end Go.Proofs.YtjjlofaejpnnnaaGreatDoor
namespace Go.Proofs.YtjjlofaejpnnnaaGreatDoor
open Go Go.RowKit
set_option linter.unusedVariables false
/-- a yes or no, the world as it was -/
def Says (w : World) (b : Bool) (e : Ending) (w' : World) : Prop := e = .returned (.bool b) ∧ w = w'
theorem says_ret {b : Bool} {w : World} {P : Program} {f : FuncId} {args : Array Value} (h : Calls P f args w (Says w b)) : Calls P f args w (Ret w (.bool b)) :=
  h.mono fun e w' ⟨he, hw⟩ => ⟨he, by rw [← hw]; exact Below.refl _ _⟩
set_option maxHeartbeats 400000 in
theorem letter_any (n : Int) (w : World) : Calls Tryz.prog 98 #[.int .u8 n] w (Says w (letB n)) := by
  go_enter Tryz.func98, Tryz.ntmps98
  go_wp2
  all_goals go_ret
  all_goals refine ⟨ret_bool ?_, rfl⟩
  all_goals (unfold letB; first | (simp [*]; done) | (simp; omega) | (rw [Bool.eq_iff_iff]; simp; omega) | (rw [Bool.eq_iff_iff]; simp [*]; omega))
/-- a text without a sign of the workbench's own ahead of it -/
def strip (s : ByteArray) : ByteArray := if h : 0 < s.size then (if s[0].toNat = 63 then s.extract 1 s.size else s) else s
theorem strip_word (s : ByteArray) : wordB s = nameL (strip s).data.toList := by
  unfold strip
  by_cases h : 0 < s.size
  · rw [dif_pos h]
    by_cases hc : s[0].toNat = 63
    · rw [if_pos hc]; exact word_q s h hc
    · rw [if_neg hc]; exact word_p s (fun _ => hc)
  · rw [dif_neg h]; exact word_p s (fun h' => absurd h' h)
theorem strip_le (s : ByteArray) : (strip s).size ≤ s.size := by
  unfold strip
  split
  · split
    · have := behind1_size s ‹_›; omega
    · exact Nat.le_refl _
  · exact Nat.le_refl _
theorem trim_strip (s : ByteArray) : (⟨(Lib.trimPrefix s.data.toList [63]).toArray⟩ : ByteArray) = strip s := by
  apply ByteArray.ext
  unfold Lib.trimPrefix Lib.hasPrefix strip
  by_cases h : 0 < s.size
  · have e : s.data.toList = s[0] :: s.data.toList.drop 1 := by have := drop_get' s 0 h; simpa using this
    rw [dif_pos h]
    by_cases hc : s[0].toNat = 63
    · have e63 : s[0] = 63 := UInt8.toNat_inj.1 hc
      rw [if_pos hc, if_pos (by rw [e, e63]; simp [List.isPrefixOf])]
      apply Array.toList_inj.1
      rw [behind1]
      simp
    · have e63 : ¬ s[0] = 63 := fun e => hc (by rw [e]; rfl)
      rw [if_neg hc, if_neg (by rw [e]; simp only [List.isPrefixOf, Bool.and_eq_true, beq_iff_eq]; exact fun h => e63 h.1.symm)]
  · have h0 : s.data.toList = [] := List.length_eq_zero_iff.1 (by rw [toList_eq]; omega)
    rw [dif_neg h, if_neg (by rw [h0]; simp [List.isPrefixOf])]
theorem trim_q (s : ByteArray) (w : World) : Calls Tryz.prog 97 #[.string s, .string ⟨#[63]⟩] w fun e w' => e = .returned (.string (strip s)) ∧ w = w' := by
  refine (Tryz.strings_TrimPrefix s ⟨#[63]⟩ w).mono ?_
  rintro e w' ⟨rfl, rfl⟩
  exact ⟨by rw [← trim_strip s], rfl⟩
set_option maxHeartbeats 800000 in
theorem name_walk (s x : ByteArray) (w : World) (hx : strip s = x) (hs : x.size ≤ maxLen) : Calls Tryz.prog 64 #[.string s] w (Says w (nameL x.data.toList)) := by
  unfold maxLen at hs
  have HX := Lib.hid hx
  clear hx
  by_cases h0 : 0 < x.size
  · have hR := name_eq x h0
    have d0 : ((x.size : Int) == 0) = false := by rw [beq_eq_false_iff_ne]; omega
    by_cases h1 : x.size ≤ 32
    · have d1 : decide ((32 : Int) < (x.size : Int)) = false := by simp; omega
      cases hl : letB (x[0].toNat : Int) with
      | false =>
        have H := Lib.hid hl
        have HR : Hid (nameL x.data.toList = false) := Lib.hid (by rw [hR, hl]; simp)
        clear hR hl
        go_enter Tryz.func64, Tryz.ntmps64
        go_wp2_with (first | (go_at_call 97; refine (trim_q _ _).mono ?_; rintro e w' ⟨rfl, rfl⟩; rw [HX.out]) | (go_at_call 98; refine (letter_any _ _).mono ?_; rintro e w' ⟨rfl, rfl⟩; rw [H.out]))
        go_ret
        exact ⟨ret_bool HR.out.symm, rfl⟩
      | true =>
        have H := Lib.hid hl
        have HR : Hid (nameL x.data.toList = (x.data.toList.drop 1).all innC) := Lib.hid (by rw [hR, hl]; simp [h1])
        clear hR hl
        go_enter Tryz.func64, Tryz.ntmps64
        go_wp2_with (first | (go_at_call 97; refine (trim_q _ _).mono ?_; rintro e w' ⟨rfl, rfl⟩; rw [HX.out]) | (go_at_call 98; refine (letter_any _ _).mono ?_; rintro e w' ⟨rfl, rfl⟩; rw [H.out]))
        go_loop [3] (fun i => ∃ k : Nat, 1 ≤ k ∧ k ≤ x.size ∧ i = .int .i64 k ∧ Hid (nameL x.data.toList = (x.data.toList.drop k).all innC)) (fun i => x.size - (intOf i).toNat)
        case atStart => exact ⟨1, by omega, by omega, rfl, HR⟩
        case round =>
          obtain ⟨k, hk1, hk, rfl, HK⟩ := hrel
          by_cases hlt : k < x.size
          · cases hn : letB (x[k].toNat : Int) with
            | true =>
              have HN := Lib.hid hn
              have HY : Hid (nameL x.data.toList = (x.data.toList.drop (k + 1)).all innC) := Lib.hid (by rw [HK.out, drop_get' x k hlt, List.all_cons]; simp [innC, innB, hn])
              clear hn
              go_wp2_with (go_at_call 98; refine (letter_any _ _).mono ?_; rintro e w' ⟨rfl, rfl⟩; rw [HN.out])
              go_round
              case rel => exact ⟨k + 1, by omega, by omega, by go_num, HY⟩
              case measure => simp [intOf]; omega
            | false =>
              have HN := Lib.hid hn
              have HY : Hid (nameL x.data.toList = ((decide (48 ≤ (x[k].toNat : Int) ∧ (x[k].toNat : Int) ≤ 57) || (x[k].toNat : Int) == 95) && (x.data.toList.drop (k + 1)).all innC)) := Lib.hid (by rw [HK.out, drop_get' x k hlt, List.all_cons]; simp [innC, innB, hn])
              clear hn
              by_cases h48 : (x[k].toNat : Int) < 48
              · by_cases h95 : (x[k].toNat : Int) = 95
                · omega
                · have d95 : ((x[k].toNat : Int) == 95) = false := by rw [beq_eq_false_iff_ne]; exact h95
                  have HZ : Hid (nameL x.data.toList = false) := Lib.hid (by rw [HY.out, d95, decide_eq_false (by omega)]; rfl)
                  go_wp2_with (go_at_call 98; refine (letter_any _ _).mono ?_; rintro e w' ⟨rfl, rfl⟩; rw [HN.out])
                  go_ret
                  exact ⟨ret_bool HZ.out.symm, rfl⟩
              · have d48 : decide ((x[k].toNat : Int) < 48) = false := by simp; omega
                by_cases h57 : (x[k].toNat : Int) ≤ 57
                · have d57 : decide ((57 : Int) < (x[k].toNat : Int)) = false := by simp; omega
                  have HZ : Hid (nameL x.data.toList = (x.data.toList.drop (k + 1)).all innC) := Lib.hid (by rw [HY.out, decide_eq_true (by omega)]; rfl)
                  go_wp2_with (go_at_call 98; refine (letter_any _ _).mono ?_; rintro e w' ⟨rfl, rfl⟩; rw [HN.out])
                  go_round
                  case rel => exact ⟨k + 1, by omega, by omega, by go_num, HZ⟩
                  case measure => simp [intOf]; omega
                · have d57 : decide ((57 : Int) < (x[k].toNat : Int)) = true := by simp; omega
                  by_cases h95 : (x[k].toNat : Int) = 95
                  · have d95 : ((x[k].toNat : Int) == 95) = true := by rw [beq_iff_eq]; exact h95
                    have HZ : Hid (nameL x.data.toList = (x.data.toList.drop (k + 1)).all innC) := Lib.hid (by rw [HY.out, d95]; simp)
                    clear h95
                    go_wp2_with (go_at_call 98; refine (letter_any _ _).mono ?_; rintro e w' ⟨rfl, rfl⟩; rw [HN.out])
                    go_round
                    case rel => exact ⟨k + 1, by omega, by omega, by go_num, HZ⟩
                    case measure => simp [intOf]; omega
                  · have d95 : ((x[k].toNat : Int) == 95) = false := by rw [beq_eq_false_iff_ne]; exact h95
                    have HZ : Hid (nameL x.data.toList = false) := Lib.hid (by rw [HY.out, d95, decide_eq_false (by omega)]; rfl)
                    go_wp2_with (go_at_call 98; refine (letter_any _ _).mono ?_; rintro e w' ⟨rfl, rfl⟩; rw [HN.out])
                    go_ret
                    exact ⟨ret_bool HZ.out.symm, rfl⟩
          · have HY : Hid (nameL x.data.toList = true) := Lib.hid (by rw [HK.out, drop_nil' x k hlt]; rfl)
            go_wp2
            go_ret
            exact ⟨ret_bool HY.out.symm, rfl⟩
    · have d1 : decide ((32 : Int) < (x.size : Int)) = true := by simp; omega
      have HR : Hid (nameL x.data.toList = false) := Lib.hid (by rw [hR]; simp [h1])
      clear hR
      go_enter Tryz.func64, Tryz.ntmps64
      go_wp2_with (go_at_call 97; refine (trim_q _ _).mono ?_; rintro e w' ⟨rfl, rfl⟩; rw [HX.out])
      go_ret
      exact ⟨ret_bool HR.out.symm, rfl⟩
  · have HR : Hid (nameL x.data.toList = false) := Lib.hid (name_nil x h0)
    have d0 : ((x.size : Int) == 0) = true := by rw [beq_iff_eq]; omega
    go_enter Tryz.func64, Tryz.ntmps64
    go_wp2_with (go_at_call 97; refine (trim_q _ _).mono ?_; rintro e w' ⟨rfl, rfl⟩; rw [HX.out])
    go_ret
    exact ⟨ret_bool HR.out.symm, rfl⟩
theorem word_any (s : ByteArray) (w : World) (hs : s.size ≤ maxLen) : Calls Tryz.prog 64 #[.string s] w (Says w (wordB s)) := by
  rw [strip_word]
  exact name_walk s _ w rfl (Nat.le_trans (strip_le s) hs)
theorem word_is (s : ByteArray) (b : Bool) (w : World) (hs : s.size ≤ maxLen) (h : wordB s = b) : Calls Tryz.prog 64 #[.string s] w (Says w b) := h ▸ word_any s w hs
end Go.Proofs.YtjjlofaejpnnnaaGreatDoor

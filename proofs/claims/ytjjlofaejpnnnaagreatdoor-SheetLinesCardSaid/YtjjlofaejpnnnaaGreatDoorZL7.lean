/-
  A MODEL's TEXT in plain mathematics: its lines; a page that takes no more once it is too long.
  A MODEL's TEXT IS READ, in plain mathematics, line by line, as the document's own reader does (topiaryref03.Parse): takesV, parseV.
  WHERE THE LAST NODES STAND, in plain mathematics: the way from the last root down to the last node, and what a node more makes of it.
  A LINE AS THE PROGRAM READS IT (cut at the first sign), in plain mathematics, and that it is the document's reading of the line.
  A LINE WHOLE, as the program reads it, in plain mathematics: it is the document's reading.
  WHAT HOLDS of what has been read, in plain mathematics: numbers, depths, lengths.
  IN THE ORDER OF THEIR NUMBERS, in plain mathematics: one list alone is sorted and has these nodes.
  THE MODELS that awake reads and prints, computed by the kernel.
-/
import Derived.Test.YtjjlofaejpnnnaaGreatDoorZL6
import Derived.Lib.ItoaLen
namespace Go.Proofs.YtjjlofaejpnnnaaGreatDoor
open Go Go.RowKit
set_option linter.unusedVariables false
def bl (k : Nat) : List UInt8 := List.replicate k 32
theorem bl_len (k : Nat) : (bl k).length = k := List.length_replicate
theorem bl_succ (k : Nat) : bl (k + 1) = bl k ++ [32] := List.replicate_succ'
/-- the lines of a node that stands so deep -/
def lineN (nd : Nd) (deep : Nat) : List UInt8 := bl (deep - 1) ++ (Lib.itoa nd.id ++ 32 :: ((if nd.par = 0 then [] else nd.role.data.toList ++ [32]) ++ nd.con.data.toList)) ++ [10]
def lineP (p : ByteArray × ByteArray) (deep : Nat) : List UInt8 := bl deep ++ (46 :: (p.1.data.toList ++ 61 :: quote p.2.data.toList)) ++ [10]
def lineR (r : ByteArray × Int) (deep : Nat) : List UInt8 := bl deep ++ (62 :: (r.1.data.toList ++ 61 :: Lib.itoa r.2)) ++ [10]
def nodeL (nd : Nd) (deep : Nat) : List (List UInt8) := lineN nd deep :: (nd.props.map (lineP · deep) ++ nd.refs.map (lineR · deep))
def headL (next : Int) : List UInt8 := [110, 101, 120, 116, 32] ++ Lib.itoa next ++ [10]
/-- a line more, unless the page is too long already -/
def pageA (L ln : List UInt8) : List UInt8 := if 1048576 < L.length then L else L ++ ln
def pageV (L : List UInt8) (ls : List (List UInt8)) : List UInt8 := ls.foldl pageA L
theorem pageV_nil (L : List UInt8) : pageV L [] = L := rfl
theorem pageV_cons (L l : List UInt8) (ls : List (List UInt8)) : pageV L (l :: ls) = pageV (pageA L l) ls := rfl
theorem pageV_append (L : List UInt8) (a b : List (List UInt8)) : pageV L (a ++ b) = pageV (pageV L a) b := List.foldl_append
theorem pageV_stuck : ∀ (ls : List (List UInt8)) (L : List UInt8), 1048576 < L.length → pageV L ls = L
  | [], _, _ => rfl
  | l :: ls, L, h => by rw [pageV_cons, show pageA L l = L from by unfold pageA; rw [if_pos h]]; exact pageV_stuck ls L h
theorem pageV_short : ∀ (ls : List (List UInt8)) (L : List UInt8), (L ++ ls.flatten).length ≤ 1048576 → pageV L ls = L ++ ls.flatten
  | [], L, _ => by simp [pageV_nil]
  | l :: ls, L, h => by
    rw [List.flatten_cons, ← List.append_assoc] at h
    have h1 : ¬ 1048576 < L.length := by simp only [List.length_append] at h; omega
    rw [pageV_cons, show pageA L l = L ++ l from by unfold pageA; rw [if_neg h1], pageV_short ls _ h, List.flatten_cons, List.append_assoc]
theorem pageV_long : ∀ (ls : List (List UInt8)) (L : List UInt8), 1048576 < (L ++ ls.flatten).length → 1048576 < (pageV L ls).length
  | [], L, h => by simpa [pageV_nil] using h
  | l :: ls, L, h => by
    rw [pageV_cons]
    by_cases h1 : 1048576 < L.length
    · rw [show pageA L l = L from by unfold pageA; rw [if_pos h1], pageV_stuck ls L h1]; exact h1
    · rw [show pageA L l = L ++ l from by unfold pageA; rw [if_neg h1]]
      rw [List.flatten_cons, ← List.append_assoc] at h
      exact pageV_long ls _ h
/-- what is told of a text: it, or that it is too long -/
def toldV (T : List UInt8) : List UInt8 × Int := if 1048576 < T.length then ([], 3) else (T, 0)
theorem toldV_page (L : List UInt8) (ls : List (List UInt8)) : (if 1048576 < (pageV L ls).length then ([], 3) else (pageV L ls, 0)) = toldV (L ++ ls.flatten) := by
  unfold toldV
  by_cases h : 1048576 < (L ++ ls.flatten).length
  · rw [if_pos h, if_pos (pageV_long ls L h)]
  · rw [if_neg h, pageV_short ls L (by omega), if_neg h]
/-- a model's text, and the error -/
def nodeT (nds : List Nd) (p : Int × Nat) : List (List UInt8) := match ndOf nds p.1 with
  | some nd => nodeL nd p.2
  | none => []
def printV (next : Int) (nds : List Nd) : List UInt8 × Int :=
  if rightB next nds = true then toldV ((headL next :: (pre nds 64 1 (rootsV nds)).flatMap (nodeT nds)).flatten) else ([], 29)
end Go.Proofs.YtjjlofaejpnnnaaGreatDoor
namespace Go.Proofs.YtjjlofaejpnnnaaGreatDoor
open Go Go.RowKit
set_option linter.unusedVariables false
/-- what has been read: the next number (0 ahead of the first line), the nodes in the order in which they are told, how deep each stands -/
structure RS where
  next : Int
  nds : List Nd
  deep : List Nat
/-- the longest row of bytes of a word -/
def wordP (l : List UInt8) : List UInt8 := l.takeWhile fun c => c != 32 && c != 61
/-- a number's text from 1 to one less than a bound -/
def numberV (l : List UInt8) (bound : Int) : Option Int := match intT l with
  | some n => if 1 ≤ n ∧ n < bound then some n else none
  | none => none
def bytesOf (l : List UInt8) : ByteArray := ⟨l.toArray⟩
/-- behind a blank: a word, and what is left -/
def wordV : List UInt8 → Option (List UInt8 × List UInt8)
  | c :: t => if c = 32 ∧ wordL (wordP t) = true then some (wordP t, t.drop (wordP t).length) else none
  | [] => none
/-- the last node turned -/
def lastV (st : RS) (nd : Nd) : RS := ⟨st.next, st.nds.dropLast ++ [nd], st.deep⟩
def hasV (st : RS) (nd : Nd) (name v : List UInt8) : Option RS :=
  let r := unq (bytesOf v) 0
  if r.2.2 = 0 ∧ r.2.1 = (v.length : Int) ∧ r.1.length ≤ 4096 ∧ nd.refs = [] ∧ (∀ p ∈ nd.props.getLast?, p.1.data.toList < name) then
    some (lastV st { nd with props := nd.props ++ [(bytesOf name, bytesOf r.1)] })
  else none
def refersV (st : RS) (nd : Nd) (role v : List UInt8) : Option RS := match numberV v st.next with
  | some n => if ∀ p ∈ nd.refs.getLast?, p.1.data.toList < role then some (lastV st { nd with refs := nd.refs ++ [(bytesOf role, n)] }) else none
  | none => none
/-- the last node that stands so deep -/
def upV (st : RS) (d : Nat) : Option (Nat × Nd) := ((List.range st.nds.length).reverse.find? fun i => st.deep.getD i 0 == d).bind fun i => (st.nds[i]?).map fun nd => (i, nd)
/-- a node more, with so many blanks ahead -/
def standsV (st : RS) (n : Nd) (d : Nat) : Option RS :=
  if 4096 ≤ st.nds.length ∨ 64 ≤ d ∨ (0 < d ∧ st.deep.getLastD 0 < d) ∨ st.nds.any (·.id == n.id) = true then none
  else if d = 0 then
    (match upV st 1 with
     | some r => if n.id ≤ r.2.id then none else some ⟨st.next, st.nds ++ [n], st.deep ++ [1]⟩
     | none => if n.id ≤ 0 then none else some ⟨st.next, st.nds ++ [n], st.deep ++ [1]⟩)
  else match upV st d with
    | some u => some ⟨st.next, st.nds.set u.1 { u.2 with kids := u.2.kids ++ [n.id] } ++ [{ n with par := u.2.id }], st.deep ++ [d + 1]⟩
    | none => none
def nodeV (st : RS) (d : Nat) (id : Int) (u : List UInt8) : Option RS :=
  (if d = 0 then some ([], u) else wordV u).bind fun r => (wordV r.2).bind fun q =>
    if q.2 = [] then standsV st ⟨id, bytesOf q.1, 0, bytesOf r.1, [], [], []⟩ d else none
def takesV (st : RS) (s : List UInt8) : Option RS :=
  if st.next = 0 then
    (if 5 < s.length ∧ s.take 5 = [110, 101, 120, 116, 32] then (numberV (s.drop 5) 1048578).map fun n => ⟨n, [], []⟩ else none)
  else
    let d := (s.takeWhile (· == 32)).length
    match s.drop d with
    | [] => none
    | c :: t =>
      if c = 46 ∨ c = 62 then
        match st.nds.getLast?, t.drop (wordP t).length with
        | some nd, e :: v => if d = st.deep.getLastD 0 ∧ e = 61 ∧ wordL (wordP t) = true then (if c = 62 then refersV st nd (wordP t) v else hasV st nd (wordP t) v) else none
        | _, _ => none
      else (numberV (wordP (c :: t)) st.next).bind fun id => nodeV st d id ((c :: t).drop (wordP (c :: t)).length)
/-- the lines from here on: what has been read of them all, or how many lines were read when one was refused -/
def linesV : Nat → RS → Nat → List UInt8 → RS ⊕ Nat
  | 0, _, k, _ => .inr (k + 1)
  | f + 1, st, k, l =>
    match takesV st (l.takeWhile (· != 10)), l.drop (l.takeWhile (· != 10)).length with
    | some st', _ :: rest => if rest = [] then .inl st' else linesV f st' (k + 1) rest
    | _, _ => .inr (k + 1)
/-- a node goes among those with greater numbers -/
def byId (n : Nd) : List Nd → List Nd
  | [] => [n]
  | x :: l => if n.id < x.id then n :: x :: l else x :: byId n l
/-- what the text is: the model, or the line at which it is refused, and the error -/
def parseV (l : List UInt8) : (Int × List Nd) × Int × Int :=
  if 1048576 < l.length then ((0, []), 0, 3) else
  match linesV (l.length + 1) ⟨0, [], []⟩ 0 l with
  | .inl st => ((st.next, st.nds.foldr byId []), 0, 0)
  | .inr k => ((0, []), (k : Int), 30)
end Go.Proofs.YtjjlofaejpnnnaaGreatDoor
namespace Go.Proofs.YtjjlofaejpnnnaaGreatDoor
open Go Go.RowKit
set_option linter.unusedVariables false
/-- the last place at which d stands -/
def lastIx (l : List Nat) (d : Nat) : Option Nat := (List.range l.length).reverse.find? fun i => l.getD i 0 == d
theorem lastIx_snoc_eq (l : List Nat) (d : Nat) : lastIx (l ++ [d]) d = some l.length := by
  unfold lastIx
  rw [List.length_append, List.length_singleton, List.range_succ, List.reverse_append]
  simp
theorem find_congr {α : Type} {p q : α → Bool} : ∀ {l : List α}, (∀ x ∈ l, p x = q x) → l.find? p = l.find? q
  | [], _ => rfl
  | x :: l, h => by
    rw [List.find?_cons, List.find?_cons, h x (by simp), find_congr fun y hy => h y (by simp [hy])]
theorem lastIx_snoc_ne (l : List Nat) {x d : Nat} (h : x ≠ d) : lastIx (l ++ [x]) d = lastIx l d := by
  unfold lastIx
  rw [List.length_append, List.length_singleton, List.range_succ, List.reverse_append]
  have e : (l ++ [x]).getD l.length 0 = x := by simp
  simp only [List.reverse_singleton, List.singleton_append, List.find?_cons, e]
  have hx : (x == d) = false := by simpa using h
  rw [hx]
  refine find_congr fun i hi => ?_
  have hil : i < l.length := by simpa using hi
  rw [List.getD_eq_getElem?_getD, List.getD_eq_getElem?_getD, List.getElem?_append_left hil]
theorem lastIx_some {l : List Nat} {d i : Nat} (h : lastIx l d = some i) : i < l.length ∧ l.getD i 0 = d := by
  unfold lastIx at h
  have h1 := List.mem_of_find?_eq_some h
  have h2 := List.find?_some h
  exact ⟨by simpa using h1, by simpa using h2⟩
/-- the way from the last root down to the last node: their places -/
def wayV (deep : List Nat) : List Nat := (List.range (deep.getLastD 0)).map fun j => (lastIx deep (j + 1)).getD 0
theorem wayV_len (deep : List Nat) : (wayV deep).length = deep.getLastD 0 := by unfold wayV; simp
theorem wayV_at {deep : List Nat} {d : Nat} (h1 : 0 < d) (h : d ≤ deep.getLastD 0) : (wayV deep)[d - 1]? = some ((lastIx deep d).getD 0) := by
  unfold wayV
  rw [List.getElem?_map, List.getElem?_range (by omega)]
  simp only [Option.map_some]
  rw [show d - 1 + 1 = d from by omega]
/-- a node more, behind d blanks -/
theorem wayV_snoc {deep : List Nat} {d : Nat} (h : d ≤ deep.getLastD 0) : wayV (deep ++ [d + 1]) = (wayV deep).take d ++ [deep.length] := by
  unfold wayV
  have e : (deep ++ [d + 1]).getLastD 0 = d + 1 := by simp [List.getLastD_eq_getLast?]
  rw [e, List.range_succ, List.map_append, List.map_singleton, lastIx_snoc_eq, Option.getD_some, ← List.map_take, List.take_range, Nat.min_eq_left h]
  congr 1
  refine List.map_congr_left fun j hj => ?_
  have hj' : j < d := by simpa using hj
  rw [lastIx_snoc_ne deep (by omega)]
/-- so deep may they stand -/
structure DeepOk (deep : List Nat) : Prop where
  pos : ∀ x ∈ deep, 1 ≤ x ∧ x ≤ 64
  way : ∀ d, 1 ≤ d → d ≤ deep.getLastD 0 → ∃ i, lastIx deep d = some i
theorem deepOk_nil : DeepOk [] := ⟨by simp, fun d h1 h2 => by simp at h2; omega⟩
theorem DeepOk.snoc {deep : List Nat} {d : Nat} (h : DeepOk deep) (hd : d ≤ deep.getLastD 0) (h64 : d < 64) : DeepOk (deep ++ [d + 1]) := by
  refine ⟨fun x hx => ?_, fun k h1 h2 => ?_⟩
  · rcases List.mem_append.1 hx with hx | hx
    · exact h.pos x hx
    · obtain rfl : x = d + 1 := by simpa using hx
      omega
  · have e : (deep ++ [d + 1]).getLastD 0 = d + 1 := by simp [List.getLastD_eq_getLast?]
    rw [e] at h2
    by_cases hk : k = d + 1
    · subst hk; exact ⟨_, lastIx_snoc_eq _ _⟩
    · rw [lastIx_snoc_ne deep (fun e => hk e.symm)]
      exact h.way k h1 (by omega)
theorem upV_is {st : RS} {d : Nat} (hl : st.deep.length = st.nds.length) : upV st d = (lastIx st.deep d).bind fun i => (st.nds[i]?).map fun nd => (i, nd) := by
  unfold upV lastIx
  rw [hl]
end Go.Proofs.YtjjlofaejpnnnaaGreatDoor
namespace Go.Proofs.YtjjlofaejpnnnaaGreatDoor
open Go Go.RowKit
set_option linter.unusedVariables false
theorem innC_ne {c : UInt8} (h : innC c = true) : c ≠ 32 ∧ c ≠ 61 ∧ c ≠ 10 := by
  refine ⟨?_, ?_, ?_⟩ <;> rintro rfl <;> exact absurd h (by decide)
theorem nameL_ne : ∀ {l : List UInt8}, nameL l = true → ∀ c ∈ l, c ≠ 32 ∧ c ≠ 61 ∧ c ≠ 10
  | x :: r, h, c, hc => by
    unfold nameL at h
    simp only [Bool.and_eq_true, decide_eq_true_eq] at h
    rcases List.mem_cons.1 hc with rfl | hc
    · exact innC_ne (by unfold innC innB; rw [h.1.2]; rfl)
    · exact innC_ne (List.all_eq_true.1 h.2 c hc)
theorem wordL_ne {l : List UInt8} (h : wordL l = true) : ∀ c ∈ l, c ≠ 32 ∧ c ≠ 61 ∧ c ≠ 10 := by
  intro c hc
  unfold wordL at h
  cases l with
  | nil => cases hc
  | cons x r =>
    simp only [stripL] at h
    by_cases hx : x = 63
    · rw [if_pos hx] at h
      rcases List.mem_cons.1 hc with rfl | hc
      · subst hx; decide
      · exact nameL_ne h c hc
    · rw [if_neg hx] at h
      exact nameL_ne h c hc
theorem wordL_nil : wordL [] = false := by decide
/-- ahead of the first c, and behind it -/
def cutA (c : UInt8) (l : List UInt8) : List UInt8 := l.takeWhile (· != c)
def cutB (c : UInt8) (l : List UInt8) : List UInt8 := (l.drop (cutA c l).length).drop 1
theorem cutA_nil (c : UInt8) : cutA c [] = [] := rfl
theorem cut_all {c : UInt8} : ∀ {l : List UInt8}, (∀ x ∈ l, x ≠ c) → cutA c l = l ∧ cutB c l = []
  | [], _ => ⟨rfl, rfl⟩
  | x :: l, h => by
    have hx : (x != c) = true := by simpa using h x (by simp)
    obtain ⟨h1, h2⟩ := cut_all (l := l) fun y hy => h y (by simp [hy])
    have e : cutA c (x :: l) = x :: cutA c l := by unfold cutA; rw [List.takeWhile_cons, if_pos hx]
    refine ⟨by rw [e, h1], ?_⟩
    unfold cutB
    rw [e, h1]
    simp
theorem cut_at {c : UInt8} {a b : List UInt8} (h : ∀ x ∈ a, x ≠ c) : cutA c (a ++ c :: b) = a ∧ cutB c (a ++ c :: b) = b := by
  have e : cutA c (a ++ c :: b) = a := by
    unfold cutA
    rw [List.takeWhile_append_of_pos (fun x hx => by simpa using h x hx), List.takeWhile_cons]
    simp
  refine ⟨e, ?_⟩
  unfold cutB
  rw [e]
  simp
theorem takeWhile_mem {p : UInt8 → Bool} : ∀ {l : List UInt8} {x : UInt8}, x ∈ l.takeWhile p → p x = true
  | y :: l, x, h => by
    rw [List.takeWhile_cons] at h
    split at h
    · rename_i hy
      rcases List.mem_cons.1 h with rfl | h
      · exact hy
      · exact takeWhile_mem h
    · cases h
/-- a list is its row of bytes of a word, and what is left begins with a blank or an equals sign -/
theorem wordP_parts (t : List UInt8) : ∃ w r, t = w ++ r ∧ wordP t = w ∧ t.drop (wordP t).length = r ∧ (∀ x ∈ w, x ≠ 32 ∧ x ≠ 61) ∧ (r = [] ∨ ∃ v, r = 32 :: v ∨ r = 61 :: v) := by
  refine ⟨wordP t, t.drop (wordP t).length, ?_, rfl, rfl, fun x hx => ?_, ?_⟩
  · unfold wordP
    induction t with
    | nil => rfl
    | cons x l ih =>
      rw [List.takeWhile_cons]
      split
      · rw [List.length_cons, List.drop_succ_cons, List.cons_append, ← ih]
      · rfl
  · have := takeWhile_mem hx
    simpa using this
  · unfold wordP
    induction t with
    | nil => exact .inl rfl
    | cons x l ih =>
      rw [List.takeWhile_cons]
      split
      · rw [List.length_cons, List.drop_succ_cons]
        exact ih
      · rename_i hx
        refine .inr ⟨l, ?_⟩
        have : x = 32 ∨ x = 61 := by
          by_cases h1 : x = 32
          · exact .inl h1
          · by_cases h2 : x = 61
            · exact .inr h2
            · exact absurd (by simp [h1, h2]) hx
        rcases this with rfl | rfl
        · exact .inl rfl
        · exact .inr rfl
/-- a name, an equals sign, and the rest -/
theorem arm_eq (F : List UInt8 → List UInt8 → Option RS) (hF : ∀ w, F w [] = none) (t : List UInt8) :
    (match t.drop (wordP t).length with | e :: v => if e = 61 ∧ wordL (wordP t) = true then F (wordP t) v else none | [] => none) = if wordL (cutA 61 t) = true then F (cutA 61 t) (cutB 61 t) else none := by
  obtain ⟨w, r, ht, hw, hr, hne, hcase⟩ := wordP_parts t
  rw [hr, hw]
  rcases hcase with rfl | ⟨v, rfl | rfl⟩
  · obtain ⟨h1, h2⟩ := cut_all (c := 61) (l := t) fun x hx => (hne x (by rw [ht] at hx; simpa using hx)).2
    rw [h1, h2, hF]
    simp
  · have hno : wordL (cutA 61 t) = false := by
      cases hb : wordL (cutA 61 t) with
      | false => rfl
      | true =>
        have h3 : (32 : UInt8) ∈ cutA 61 t := by
          rw [ht]
          unfold cutA
          rw [List.takeWhile_append_of_pos (fun x hx => by simpa using (hne x hx).2), List.takeWhile_cons]
          simp
        exact absurd rfl (wordL_ne hb 32 h3).1
    rw [hno]
    simp
  · obtain ⟨h1, h2⟩ := cut_at (c := 61) (a := w) (b := v) fun x hx => (hne x hx).2
    rw [ht, h1, h2]
    simp
theorem wordV_cons (c : UInt8) (t : List UInt8) : wordV (c :: t) = if c = 32 ∧ wordL (wordP t) = true then some (wordP t, t.drop (wordP t).length) else none := rfl
theorem itoa_ne (v : Int) : ∀ c ∈ Lib.itoa v, c ≠ 61 ∧ c ≠ 32 := by
  have key : ∀ (u : Nat), ∀ c ∈ Lib.decDigits u, c ≠ 61 ∧ c ≠ 32 := by
    intro u c hc
    have h := List.all_eq_true.1 (dec_val u).2 c hc
    constructor <;> rintro rfl <;> exact absurd h (by decide)
  intro c hc
  unfold Lib.itoa at hc
  split at hc
  · rcases List.mem_cons.1 hc with rfl | hc
    · decide
    · exact key _ c hc
  · exact key _ c hc
theorem numberV_ne {l : List UInt8} {b n : Int} (h : numberV l b = some n) : ∀ c ∈ l, c ≠ 61 ∧ c ≠ 32 := by
  unfold numberV at h
  cases hi : intT l with
  | none => rw [hi] at h; cases h
  | some v =>
    have := (intT_out hi).1
    rw [← this]
    exact itoa_ne v
theorem numberV_nil (b : Int) : numberV [] b = none := by
  cases h : numberV [] b with
  | none => rfl
  | some n =>
    unfold numberV at h
    cases hi : intT [] with
    | none => rw [hi] at h; cases h
    | some v =>
      have h1 := (intT_out hi).1
      exfalso
      unfold Lib.itoa at h1
      split at h1
      · cases h1
      · have : ∀ u : Nat, Lib.decDigits u ≠ [] := by
          intro u h2
          rw [Lib.decDigits] at h2
          split at h2
          · cases h2
          · simp at h2
        exact this _ h1
/-- a node's line behind its blanks, as the program cuts it -/
def nodeP (st : RS) (d : Nat) (s : List UInt8) : Option RS := (numberV (cutA 32 s) st.next).bind fun id =>
  (if d = 0 then some ([], cutB 32 s) else if wordL (cutA 32 (cutB 32 s)) = true then some (cutA 32 (cutB 32 s), cutB 32 (cutB 32 s)) else none).bind fun r =>
    if wordL r.2 = true then standsV st ⟨id, bytesOf r.2, 0, bytesOf r.1, [], [], []⟩ d else none
/-- a word up to the end -/
theorem word_end (t : List UInt8) (F : List UInt8 → Option RS) :
    ((wordV (32 :: t)).bind fun q => if q.2 = [] then F q.1 else none) = if wordL t = true then F t else none := by
  obtain ⟨w, r, ht, hw, hr, hne, hcase⟩ := wordP_parts t
  rw [wordV_cons, hr, hw]
  by_cases hwl : wordL w = true
  · rw [if_pos ⟨rfl, hwl⟩]
    simp only [Option.bind_some]
    rcases hcase with rfl | ⟨v, hv⟩
    · have : t = w := by rw [ht]; simp
      rw [if_pos rfl, this, if_pos hwl]
    · have hrn : r ≠ [] := by rcases hv with rfl | rfl <;> simp
      rw [if_neg hrn]
      have hno : wordL t = false := by
        cases hb : wordL t with
        | false => rfl
        | true =>
          exfalso
          rcases hv with rfl | rfl
          · exact (wordL_ne hb 32 (by rw [ht]; simp)).1 rfl
          · exact (wordL_ne hb 61 (by rw [ht]; simp)).2.1 rfl
      rw [hno]; simp
  · rw [if_neg (fun h => hwl h.2)]
    simp only [Option.bind_none]
    have hno : wordL t = false := by
      cases hb : wordL t with
      | false => rfl
      | true =>
        exfalso
        have hall : t = w := by
          rcases hcase with rfl | ⟨v, rfl | rfl⟩
          · rw [ht]; simp
          · exact absurd rfl (wordL_ne hb 32 (by rw [ht]; simp)).1
          · exact absurd rfl (wordL_ne hb 61 (by rw [ht]; simp)).2.1
        rw [hall] at hb
        exact hwl hb
    rw [hno]; simp
theorem word_end' (u : List UInt8) (F : List UInt8 → Option RS) (h : ∀ v, u ≠ 32 :: v) : ((wordV u).bind fun q => if q.2 = [] then F q.1 else none) = none := by
  cases u with
  | nil => rfl
  | cons c t =>
    rw [wordV_cons, if_neg (fun hc => h t (by rw [hc.1]))]
    rfl
theorem nodeP_eq (st : RS) (d : Nat) (s : List UInt8) : nodeP st d s = (numberV (wordP s) st.next).bind fun id => nodeV st d id (s.drop (wordP s).length) := by
  obtain ⟨w, r, hs, hw, hr, hne, hcase⟩ := wordP_parts s
  rw [hr, hw]
  unfold nodeP
  rcases hcase with rfl | ⟨v, rfl | rfl⟩
  · obtain ⟨h1, h2⟩ := cut_all (c := 32) (l := s) fun x hx => (hne x (by rw [hs] at hx; simpa using hx)).1
    rw [h1, h2, show s = w from by rw [hs]; simp]
    congr 1
    funext id
    unfold nodeV
    by_cases hd : d = 0
    · simp [hd, wordL_nil, wordV]
    · simp [hd, wordL_nil, wordV, cutA_nil]
  · obtain ⟨h1, h2⟩ := cut_at (c := 32) (a := w) (b := v) fun x hx => (hne x hx).1
    rw [hs, h1, h2]
    congr 1
    funext id
    unfold nodeV
    by_cases hd : d = 0
    · rw [if_pos hd, if_pos hd]
      simp only [Option.bind_some]
      exact (word_end v fun q => standsV st ⟨id, bytesOf q, 0, bytesOf [], [], [], []⟩ d).symm
    · rw [if_neg hd, if_neg hd]
      obtain ⟨w2, r2, hv, hw2, hr2, hne2, hcase2⟩ := wordP_parts v
      have e : wordV (32 :: v) = if wordL w2 = true then some (w2, r2) else none := by
        rw [wordV_cons, hr2, hw2]
        simp
      rw [e]
      rcases hcase2 with rfl | ⟨v2, rfl | rfl⟩
      · obtain ⟨h3, h4⟩ := cut_all (c := 32) (l := v) fun x hx => (hne2 x (by rw [hv] at hx; simpa using hx)).1
        rw [h3, h4, show v = w2 from by rw [hv]; simp]
        by_cases hb : wordL w2 = true
        · simp [hb, wordL_nil, wordV]
        · simp [hb]
      · obtain ⟨h3, h4⟩ := cut_at (c := 32) (a := w2) (b := v2) fun x hx => (hne2 x hx).1
        rw [hv, h3, h4]
        by_cases hb : wordL w2 = true
        · rw [if_pos hb, if_pos hb]
          simp only [Option.bind_some]
          exact (word_end v2 fun q => standsV st ⟨id, bytesOf q, 0, bytesOf w2, [], [], []⟩ d).symm
        · rw [if_neg hb, if_neg hb]
          rfl
      · have hno : wordL (cutA 32 v) = false := by
          cases hb : wordL (cutA 32 v) with
          | false => rfl
          | true =>
            have h3 : (61 : UInt8) ∈ cutA 32 v := by
              rw [hv]
              unfold cutA
              rw [List.takeWhile_append_of_pos (fun x hx => by simpa using (hne2 x hx).1), List.takeWhile_cons]
              simp
            exact absurd rfl (wordL_ne hb 61 h3).2.1
        rw [hno]
        by_cases hb : wordL w2 = true
        · rw [if_pos hb]
          simp only [Option.bind_some]
          rw [word_end' _ (fun q => standsV st ⟨id, bytesOf q, 0, bytesOf w2, [], [], []⟩ d) (by intro x; simp)]
          simp
        · rw [if_neg hb]
          simp
  · have hno : numberV (cutA 32 s) st.next = none := by
      cases hb : numberV (cutA 32 s) st.next with
      | none => rfl
      | some n =>
        have h3 : (61 : UInt8) ∈ cutA 32 s := by
          rw [hs]
          unfold cutA
          rw [List.takeWhile_append_of_pos (fun x hx => by simpa using (hne x hx).1), List.takeWhile_cons]
          simp
        exact absurd rfl (numberV_ne hb 61 h3).1
    rw [hno]
    cases hb : numberV w st.next with
    | none => rfl
    | some id =>
      simp only [Option.bind_none, Option.bind_some]
      unfold nodeV
      by_cases hd : d = 0
      · rw [if_pos hd]
        simp only [Option.bind_some]
        rw [word_end' _ (fun q => standsV st ⟨id, bytesOf q, 0, bytesOf [], [], [], []⟩ d) (by intro x; simp)]
      · rw [if_neg hd]
        have : wordV (61 :: v) = none := by rw [wordV_cons, if_neg (fun h => absurd h.1 (by decide))]
        rw [this]
        rfl
end Go.Proofs.YtjjlofaejpnnnaaGreatDoor
namespace Go.Proofs.YtjjlofaejpnnnaaGreatDoor
open Go Go.RowKit
set_option linter.unusedVariables false
theorem hasV_nil (st : RS) (nd : Nd) (w : List UInt8) : hasV st nd w [] = none := by
  have h : unq (bytesOf []) 0 = ([], 0, 10) := by
    unfold unq
    rw [if_neg (by decide), dif_neg (by decide)]
  unfold hasV
  simp only [h]
  rw [if_neg (by simp)]
theorem refersV_nil (st : RS) (nd : Nd) (w : List UInt8) : refersV st nd w [] = none := by
  unfold refersV
  rw [numberV_nil]
/-- the last node, if a line with so many blanks is one of its lines -/
def lastNd (st : RS) (d : Nat) : Option Nd := if d = st.deep.getLastD 0 then st.nds.getLast? else none
def propP (st : RS) (d : Nat) (t : List UInt8) : Option RS := (lastNd st d).bind fun nd => if wordL (cutA 61 t) = true then hasV st nd (cutA 61 t) (cutB 61 t) else none
def refP (st : RS) (d : Nat) (t : List UInt8) : Option RS := (lastNd st d).bind fun nd => if wordL (cutA 61 t) = true then refersV st nd (cutA 61 t) (cutB 61 t) else none
def firstP (s : List UInt8) : Option RS := if s.take 5 = [110, 101, 120, 116, 32] then (numberV (s.drop 5) 1048578).map fun n => ⟨n, [], []⟩ else none
/-- a line as the program reads it -/
def lineV (st : RS) (s : List UInt8) : Option RS :=
  if st.next = 0 then firstP s
  else
    let d := (s.takeWhile (· == 32)).length
    match s.drop d with
    | 46 :: t => propP st d t
    | 62 :: t => refP st d t
    | r => nodeP st d r
theorem firstP_eq (s : List UInt8) : (if 5 < s.length ∧ s.take 5 = [110, 101, 120, 116, 32] then (numberV (s.drop 5) 1048578).map fun n => (⟨n, [], []⟩ : RS) else none) = firstP s := by
  unfold firstP
  by_cases h : s.take 5 = [110, 101, 120, 116, 32]
  · rw [if_pos h]
    by_cases h5 : 5 < s.length
    · rw [if_pos ⟨h5, h⟩]
    · rw [if_neg (fun hh => h5 hh.1), List.drop_eq_nil_of_le (by omega), numberV_nil]
      rfl
  · rw [if_neg h, if_neg (fun hh => h hh.2)]
theorem nodeP_nil (st : RS) (d : Nat) : nodeP st d [] = none := by
  unfold nodeP
  rw [cutA_nil, numberV_nil]
  rfl
theorem armV (st : RS) (d : Nat) (c : UInt8) (t : List UInt8) :
    (match st.nds.getLast?, t.drop (wordP t).length with
      | some nd, e :: v => if d = st.deep.getLastD 0 ∧ e = 61 ∧ wordL (wordP t) = true then (if c = 62 then refersV st nd (wordP t) v else hasV st nd (wordP t) v) else none
      | _, _ => none) = if c = 62 then refP st d t else propP st d t := by
  unfold refP propP lastNd
  cases hl : st.nds.getLast? with
  | none => simp
  | some nd =>
    have hF : ∀ w, (if c = 62 then refersV st nd w [] else hasV st nd w []) = none := by
      intro w
      split
      · exact refersV_nil _ _ _
      · exact hasV_nil _ _ _
    have h := arm_eq (fun w v => if c = 62 then refersV st nd w v else hasV st nd w v) hF t
    by_cases hd : d = st.deep.getLastD 0
    · rw [if_pos hd]
      simp only [Option.bind_some]
      have e : (if c = 62 then (if wordL (cutA 61 t) = true then refersV st nd (cutA 61 t) (cutB 61 t) else none) else (if wordL (cutA 61 t) = true then hasV st nd (cutA 61 t) (cutB 61 t) else none)) =
          if wordL (cutA 61 t) = true then (if c = 62 then refersV st nd (cutA 61 t) (cutB 61 t) else hasV st nd (cutA 61 t) (cutB 61 t)) else none := by
        by_cases hc : c = 62 <;> simp [hc]
      rw [e, ← h]
      cases t.drop (wordP t).length with
      | nil => rfl
      | cons x v => simp [hd]
    · rw [if_neg hd]
      simp only [Option.bind_none, ite_self]
      cases t.drop (wordP t).length with
      | nil => rfl
      | cons x v => exact if_neg fun hh => hd hh.1
theorem takesV_line (st : RS) (s : List UInt8) : takesV st s = lineV st s := by
  unfold takesV lineV
  by_cases h0 : st.next = 0
  · rw [if_pos h0, if_pos h0]
    exact firstP_eq s
  · rw [if_neg h0, if_neg h0]
    simp only
    cases hr : s.drop (s.takeWhile (· == 32)).length with
    | nil => simp only; exact (nodeP_nil _ _).symm
    | cons c t =>
      simp only
      by_cases h46 : c = 46
      · subst h46
        rw [if_pos (.inl rfl)]
        exact (armV st _ 46 t).trans (if_neg (by decide))
      · by_cases h62 : c = 62
        · subst h62
          rw [if_pos (.inr rfl)]
          exact (armV st _ 62 t).trans (if_pos rfl)
        · rw [if_neg (by simp [h46, h62]), ← nodeP_eq]
          split
          · rename_i heq; injection heq with h _; exact absurd h h46
          · rename_i heq; injection heq with h _; exact absurd h h62
          · rfl
end Go.Proofs.YtjjlofaejpnnnaaGreatDoor
namespace Go.Proofs.YtjjlofaejpnnnaaGreatDoor
open Go Go.RowKit
set_option linter.unusedVariables false
structure RsOk (st : RS) : Prop where
  n1 : 1 ≤ st.next
  n2 : st.next ≤ 1048577
  dl : st.deep.length = st.nds.length
  dk : DeepOk st.deep
  ln : st.nds.length ≤ 4096
  id : ∀ x ∈ st.nds.map (·.id), 1 ≤ x ∧ x < st.next
  ds : (st.nds.map (·.id)).Nodup
theorem numberV_some {l : List UInt8} {b n : Int} (h : numberV l b = some n) : intT l = some n ∧ 1 ≤ n ∧ n < b := by
  unfold numberV at h
  cases hi : intT l with
  | none => rw [hi] at h; cases h
  | some v =>
    rw [hi] at h
    simp only at h
    split at h
    · obtain rfl := Option.some.inj h
      rename_i hh
      exact ⟨rfl, hh⟩
    · cases h
theorem last_split {l : List Nd} {nd : Nd} (h : l.getLast? = some nd) : l = l.dropLast ++ [nd] := by
  have hne : l ≠ [] := by rintro rfl; cases h
  rw [List.getLast?_eq_some_getLast hne] at h
  obtain rfl := Option.some.inj h
  exact (List.dropLast_concat_getLast hne).symm
theorem lastV_ids {st : RS} {nd nd' : Nd} (h : st.nds.getLast? = some nd) (hi : nd'.id = nd.id) : (lastV st nd').nds.map (·.id) = st.nds.map (·.id) := by
  have e := last_split h
  unfold lastV
  simp only
  rw [List.map_append, List.map_singleton, hi]
  conv => rhs; rw [e]
  simp
theorem lastV_len {st : RS} {nd nd' : Nd} (h : st.nds.getLast? = some nd) : (lastV st nd').nds.length = st.nds.length := by
  have e := congrArg List.length (last_split h)
  unfold lastV
  simp only [List.length_append, List.length_singleton] at e ⊢
  omega
theorem RsOk.last {st : RS} {nd nd' : Nd} (h : RsOk st) (hl : st.nds.getLast? = some nd) (hi : nd'.id = nd.id) : RsOk (lastV st nd') :=
  ⟨h.n1, h.n2, h.dl.trans (lastV_len hl).symm, h.dk, by rw [lastV_len hl]; exact h.ln, by rw [lastV_ids hl hi]; exact h.id, by rw [lastV_ids hl hi]; exact h.ds⟩
theorem hasV_ok {st st' : RS} {nd : Nd} {w v : List UInt8} (h : RsOk st) (hl : st.nds.getLast? = some nd) (hv : hasV st nd w v = some st') : RsOk st' := by
  unfold hasV at hv
  simp only at hv
  split at hv
  · obtain rfl := Option.some.inj hv
    exact h.last hl rfl
  · cases hv
theorem refersV_ok {st st' : RS} {nd : Nd} {w v : List UInt8} (h : RsOk st) (hl : st.nds.getLast? = some nd) (hv : refersV st nd w v = some st') : RsOk st' := by
  unfold refersV at hv
  cases hn : numberV v st.next with
  | none => rw [hn] at hv; cases hv
  | some n =>
    rw [hn] at hv
    simp only at hv
    split at hv
    · obtain rfl := Option.some.inj hv
      exact h.last hl rfl
    · cases hv
theorem set_ids {l : List Nd} {i : Nat} {nd nd' : Nd} (h : l[i]? = some nd) (hi : nd'.id = nd.id) : (l.set i nd').map (·.id) = l.map (·.id) := by
  rw [List.map_set]
  have h1 : (l.map (·.id))[i]? = some nd'.id := by rw [List.getElem?_map, h, hi]; rfl
  obtain ⟨hlt, e⟩ := List.getElem?_eq_some_iff.1 h1
  rw [← e]
  exact List.set_getElem_self hlt
/-- a node more: the ids grow by its own -/
structure Stood (st : RS) (n : Nd) (d : Nat) (st' : RS) : Prop where
  nx : st'.next = st.next
  dp : st'.deep = st.deep ++ [d + 1]
  ln : st.nds.length < 4096
  d64 : d < 64
  dle : d ≤ st.deep.getLastD 0
  nw : n.id ∉ st.nds.map (·.id)
  ids : st'.nds.map (·.id) = st.nds.map (·.id) ++ [n.id]
theorem standsV_stood {st st' : RS} {n : Nd} {d : Nat} (h : standsV st n d = some st') : Stood st n d st' := by
  unfold standsV at h
  split at h
  · cases h
  · rename_i hno
    have h1 : st.nds.length < 4096 := by omega
    have h2 : d < 64 := by omega
    have h3 : d ≤ st.deep.getLastD 0 := by omega
    have h4 : n.id ∉ st.nds.map (·.id) := by
      intro hm
      obtain ⟨x, hx, he⟩ := List.mem_map.1 hm
      exact hno (.inr (.inr (.inr (List.any_eq_true.2 ⟨x, hx, by simpa using he⟩))))
    split at h
    · rename_i hd
      subst hd
      have key : ∀ st'', some (⟨st.next, st.nds ++ [n], st.deep ++ [1]⟩ : RS) = some st'' → Stood st n 0 st'' := by
        intro st'' e
        obtain rfl := Option.some.inj e
        exact ⟨rfl, rfl, h1, h2, h3, h4, by simp⟩
      cases hu : upV st 1 with
      | none =>
        rw [hu] at h
        simp only at h
        split at h
        · cases h
        · exact key _ h
      | some r =>
        rw [hu] at h
        simp only at h
        split at h
        · cases h
        · exact key _ h
    · cases hu : upV st d with
      | none => rw [hu] at h; cases h
      | some u =>
        rw [hu] at h
        simp only at h
        obtain rfl := Option.some.inj h
        have hx : st.nds[u.1]? = some u.2 := by
          unfold upV at hu
          obtain ⟨i, _, hi⟩ := Option.bind_eq_some_iff.1 hu
          obtain ⟨nd, hnd, rfl⟩ := Option.map_eq_some_iff.1 hi
          exact hnd
        refine ⟨rfl, rfl, h1, h2, h3, h4, ?_⟩
        simp only
        rw [List.map_append, set_ids (nd' := { u.2 with kids := u.2.kids ++ [n.id] }) hx rfl]
        rfl
theorem RsOk.stood {st st' : RS} {n : Nd} {d : Nat} (h : RsOk st) (hs : Stood st n d st') (h1 : 1 ≤ n.id) (h2 : n.id < st.next) : RsOk st' := by
  have hlen : st'.nds.length = st.nds.length + 1 := by
    have := congrArg List.length hs.ids
    simpa using this
  refine ⟨by rw [hs.nx]; exact h.n1, by rw [hs.nx]; exact h.n2, by rw [hs.dp, hlen, List.length_append, h.dl]; rfl, by rw [hs.dp]; exact h.dk.snoc hs.dle hs.d64, by rw [hlen]; exact hs.ln, ?_, ?_⟩
  · rw [hs.ids, hs.nx]
    intro x hx
    rcases List.mem_append.1 hx with hx | hx
    · exact h.id x hx
    · obtain rfl : x = n.id := by simpa using hx
      exact ⟨h1, h2⟩
  · rw [hs.ids, List.nodup_append]
    refine ⟨h.ds, by simp, fun a ha b hb e => ?_⟩
    obtain rfl : b = n.id := by simpa using hb
    exact hs.nw (e ▸ ha)
theorem nodeP_stood {st st' : RS} {d : Nat} {s : List UInt8} (h : nodeP st d s = some st') : ∃ n : Nd, Stood st n d st' ∧ 1 ≤ n.id ∧ n.id < st.next := by
  unfold nodeP at h
  obtain ⟨id, hid, h⟩ := Option.bind_eq_some_iff.1 h
  obtain ⟨r, _, h⟩ := Option.bind_eq_some_iff.1 h
  split at h
  · exact ⟨_, standsV_stood h, (numberV_some hid).2⟩
  · cases h
theorem lastNd_some {st : RS} {d : Nat} {nd : Nd} (h : lastNd st d = some nd) : d = st.deep.getLastD 0 ∧ st.nds.getLast? = some nd := by
  unfold lastNd at h
  split at h
  · rename_i hd
    exact ⟨hd, h⟩
  · cases h
/-- a line read: the first one begins, each other one keeps -/
theorem line_ok {st st' : RS} {s : List UInt8} (h : st.next ≠ 0 → RsOk st) (hv : lineV st s = some st') : RsOk st' := by
  unfold lineV at hv
  split at hv
  · unfold firstP at hv
    split at hv
    · obtain ⟨n, hn, rfl⟩ := Option.map_eq_some_iff.1 hv
      obtain ⟨_, h1, h2⟩ := numberV_some hn
      exact ⟨h1, by simp only; omega, rfl, deepOk_nil, Nat.zero_le _, by simp, by simp⟩
    · cases hv
  · rename_i h0
    have hk := h h0
    simp only at hv
    split at hv
    · unfold propP at hv
      obtain ⟨nd, hnd, hv⟩ := Option.bind_eq_some_iff.1 hv
      split at hv
      · exact hasV_ok hk (lastNd_some hnd).2 hv
      · cases hv
    · unfold refP at hv
      obtain ⟨nd, hnd, hv⟩ := Option.bind_eq_some_iff.1 hv
      split at hv
      · exact refersV_ok hk (lastNd_some hnd).2 hv
      · cases hv
    · obtain ⟨n, hs, h1, h2⟩ := nodeP_stood hv
      exact hk.stood hs h1 h2
end Go.Proofs.YtjjlofaejpnnnaaGreatDoor
namespace Go.Proofs.YtjjlofaejpnnnaaGreatDoor
open Go Go.RowKit
set_option linter.unusedVariables false
def IdLt (a b : Nd) : Prop := a.id < b.id
theorem byId_perm (n : Nd) : ∀ l : List Nd, (byId n l).Perm (n :: l)
  | [] => .refl _
  | x :: l => by
    unfold byId
    split
    · exact .refl _
    · exact ((byId_perm n l).cons x).trans (.swap n x l)
theorem sortV_perm : ∀ l : List Nd, (l.foldr byId []).Perm l
  | [] => .refl _
  | x :: l => (byId_perm x _).trans ((sortV_perm l).cons x)
theorem byId_sorted {n : Nd} : ∀ {l : List Nd}, l.Pairwise IdLt → (∀ x ∈ l, x.id ≠ n.id) → (byId n l).Pairwise IdLt
  | [], _, _ => by simp [byId]
  | x :: l, h, hne => by
    rw [List.pairwise_cons] at h
    unfold byId
    split
    · rename_i hx
      rw [List.pairwise_cons, List.pairwise_cons]
      refine ⟨fun y hy => ?_, h⟩
      rcases List.mem_cons.1 hy with rfl | hy
      · exact hx
      · have := h.1 y hy
        unfold IdLt at this ⊢
        omega
    · rename_i hx
      have hxn := hne x (by simp)
      rw [List.pairwise_cons]
      refine ⟨fun y hy => ?_, byId_sorted h.2 fun y hy => hne y (by simp [hy])⟩
      rcases List.mem_cons.1 ((byId_perm n l).mem_iff.1 hy) with rfl | hy
      · unfold IdLt; omega
      · exact h.1 y hy
theorem sortV_sorted : ∀ {l : List Nd}, (l.map (·.id)).Nodup → (l.foldr byId []).Pairwise IdLt
  | [], _ => by simp
  | x :: l, h => by
    rw [List.map_cons, List.nodup_cons] at h
    rw [List.foldr_cons]
    refine byId_sorted (sortV_sorted h.2) fun y hy => ?_
    have hy2 := (sortV_perm l).mem_iff.1 hy
    intro e
    exact h.1 (e ▸ List.mem_map_of_mem hy2)
/-- sorted lists of the same nodes are the same -/
theorem sorted_one : ∀ {l m : List Nd}, l.Perm m → l.Pairwise IdLt → m.Pairwise IdLt → l = m
  | [], m, hp, _, _ => by rw [List.nil_perm.1 hp]
  | x :: l, [], hp, _, _ => by
    have := hp.length_eq
    simp at this
  | x :: l, y :: m, hp, hl, hm => by
    have hl1 := List.pairwise_cons.1 hl
    have hm1 := List.pairwise_cons.1 hm
    have e : x = y := by
      have hx : x ∈ y :: m := hp.mem_iff.1 (by simp)
      have hy : y ∈ x :: l := hp.mem_iff.2 (by simp)
      rcases List.mem_cons.1 hx with h | hx
      · exact h
      · rcases List.mem_cons.1 hy with h | hy
        · exact h.symm
        · have h1 := hm1.1 x hx
          have h2 := hl1.1 y hy
          unfold IdLt at h1 h2
          omega
    subst e
    rw [sorted_one (List.Perm.cons_inv hp) hl1.2 hm1.2]
/-- the nodes in the order of their numbers -/
def sortV (l : List Nd) : List Nd := l.foldr byId []
theorem sortV_is {l m : List Nd} (hd : (l.map (·.id)).Nodup) (hp : m.Perm l) (hm : m.Pairwise IdLt) : m = sortV l :=
  sorted_one (hp.trans (sortV_perm l).symm) hm (sortV_sorted hd)
end Go.Proofs.YtjjlofaejpnnnaaGreatDoor
namespace Go.Proofs.YtjjlofaejpnnnaaGreatDoor
open Go Go.RowKit
def awT : List UInt8 := [110, 101, 120, 116, 32, 49, 50, 10, 49, 32, 67, 108, 97, 115, 115, 10, 32, 46, 110, 97, 109, 101, 61, 34, 97, 92, 34, 98, 34, 10, 32, 62, 115, 117, 112, 101, 114, 61, 57, 10, 32, 52, 32, 109, 101, 109, 98, 101, 114, 115, 32, 70, 105, 101, 108, 100, 10, 32, 32, 46, 120, 61, 34, 49, 34, 10, 32, 50, 32, 101, 120, 116, 114, 97, 32, 70, 105, 101, 108, 100, 10, 51, 32, 63, 75, 101, 112, 116, 10]
def awM : List Nd := [⟨1, ⟨#[67, 108, 97, 115, 115]⟩, 0, ⟨#[]⟩, [(⟨#[110, 97, 109, 101]⟩, ⟨#[97, 34, 98]⟩)], [4, 2], [(⟨#[115, 117, 112, 101, 114]⟩, 9)]⟩, ⟨2, ⟨#[70, 105, 101, 108, 100]⟩, 1, ⟨#[101, 120, 116, 114, 97]⟩, [], [], []⟩, ⟨3, ⟨#[63, 75, 101, 112, 116]⟩, 0, ⟨#[]⟩, [], [], []⟩, ⟨4, ⟨#[70, 105, 101, 108, 100]⟩, 1, ⟨#[109, 101, 109, 98, 101, 114, 115]⟩, [(⟨#[120]⟩, ⟨#[49]⟩)], [], []⟩]
theorem aw1 : parseV awT = ((12, awM), 0, 0) := by kernel_rfl
theorem aw2 : parseV [110, 101, 120, 116, 32, 53, 10, 50, 32, 65, 10, 49, 32, 66, 10] = ((0, []), 3, 30) := by kernel_rfl
theorem aw3 : parseV [] = ((0, []), 1, 30) := by kernel_rfl
theorem aw4 : printV 12 awM = (awT, 0) := by kernel_rfl
theorem aw5 : printV 0 [] = ([], 29) := by kernel_rfl
end Go.Proofs.YtjjlofaejpnnnaaGreatDoor

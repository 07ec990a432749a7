/-
  NAMES IN ORDER, each once: plain mathematics. No program stands in it.
  WALKS: the document: the names in order.
  WHAT TWO LANGUAGES THAT ARE THE SAME TELL OF A CONCEPT AND OF NAMES: plain mathematics. No program stands in it.
  A CONCEPT THAT IS TOLD, OR NONE, in one: the program's in own memory, the document's in the language's.
  WALKS: the program: the names in order.
-/
import Derived.Test.YtbnjblejbnapgaaZ8
import Derived.Lib.SlicesCompact
import Derived.Lib.RowBridge
import Derived.Sort.Walk0
import Derived.Test.YtbnjblejbnapgaaShelf
import Derived.Sort.OwnSorted
namespace Go.Proofs.Ytbnjblejbnapgaa
open Go Go.RowKit
set_option linter.unusedVariables false
abbrev Bys := List UInt8
theorem bys_irrefl (a : Bys) : ¬ a < a := List.lt_irrefl a
theorem bys_trans {a b c : Bys} (h : a < b) (h' : b < c) : a < c := List.lt_trans h h'
theorem bys_tri (a b : Bys) : a < b ∨ a = b ∨ b < a := by
  by_cases h1 : a < b
  · exact .inl h1
  · by_cases h2 : b < a
    · exact .inr (.inr h2)
    · exact .inr (.inl (List.le_antisymm (List.not_lt.1 h2) (List.not_lt.1 h1)))
theorem bys_le {a b : Bys} : a ≤ b ↔ a < b ∨ a = b := by
  constructor
  · intro h
    rcases bys_tri a b with h1 | h1 | h1
    · exact .inl h1
    · exact .inr h1
    · exact absurd h1 (List.not_lt.2 h)
  · rintro (h | rfl)
    · exact List.not_lt.1 (fun h' => bys_irrefl _ (bys_trans h h'))
    · exact List.not_lt.1 (bys_irrefl _)
abbrev Up (l : List Bys) : Prop := l.Pairwise (· < ·)
/-- lists that rise and have the same members are one -/
theorem up_eq : ∀ {l m : List Bys}, Up l → Up m → (∀ x, x ∈ l ↔ x ∈ m) → l = m
  | [], [], _, _, _ => rfl
  | [], y :: m, _, _, h => absurd ((h y).2 List.mem_cons_self) (by simp)
  | x :: l, [], _, _, h => absurd ((h x).1 List.mem_cons_self) (by simp)
  | x :: l, y :: m, hl, hm, h => by
    obtain ⟨hx, hl'⟩ := List.pairwise_cons.1 hl
    obtain ⟨hy, hm'⟩ := List.pairwise_cons.1 hm
    have e : x = y := by
      rcases List.mem_cons.1 ((h x).1 List.mem_cons_self) with e | e
      · exact e
      · rcases List.mem_cons.1 ((h y).2 List.mem_cons_self) with e' | e'
        · exact e'.symm
        · exact absurd (bys_trans (hy _ e) (hx _ e')) (bys_irrefl _)
    subst e
    congr 1
    refine up_eq hl' hm' fun z => ⟨fun hz => ?_, fun hz => ?_⟩
    · rcases List.mem_cons.1 ((h z).1 (List.mem_cons_of_mem _ hz)) with e | e
      · subst e; exact absurd (hx _ hz) (bys_irrefl _)
      · exact e
    · rcases List.mem_cons.1 ((h z).2 (List.mem_cons_of_mem _ hz)) with e | e
      · subst e; exact absurd (hy _ hz) (bys_irrefl _)
      · exact e
/-- a name put in its place, unless it stands there -/
def insN (s : Bys) : List Bys → List Bys
  | [] => [s]
  | x :: r => if x < s then x :: insN s r else if x = s then x :: r else s :: x :: r
theorem insN_mem (s z : Bys) : ∀ l, z ∈ insN s l ↔ z = s ∨ z ∈ l
  | [] => by simp [insN]
  | x :: r => by
    unfold insN
    split
    · rw [List.mem_cons, insN_mem s z r, List.mem_cons]; constructor <;> rintro (h | h | h) <;> simp [h]
    · split
      · rename_i h; subst h; simp
      · simp
theorem insN_up (s : Bys) : ∀ {l}, Up l → Up (insN s l)
  | [], _ => by simp [insN, Up]
  | x :: r, h => by
    obtain ⟨hx, hr⟩ := List.pairwise_cons.1 h
    unfold insN
    split
    · rename_i h1
      refine List.pairwise_cons.2 ⟨fun z hz => ?_, insN_up s hr⟩
      rcases (insN_mem s z r).1 hz with rfl | hz
      · exact h1
      · exact hx z hz
    · split
      · exact h
      · rename_i h1 h2
        refine List.pairwise_cons.2 ⟨fun z hz => ?_, h⟩
        have hsx : s < x := by
          rcases bys_tri s x with h3 | h3 | h3
          · exact h3
          · exact absurd h3.symm h2
          · exact absurd h3 h1
        rcases List.mem_cons.1 hz with rfl | hz
        · exact hsx
        · exact bys_trans hsx (hx z hz)
def namesV (B : List Bys) : List Bys := B.foldl (fun acc s => insN s acc) []
theorem names_fold : ∀ (B acc : List Bys), Up acc → Up (B.foldl (fun acc s => insN s acc) acc) ∧ ∀ z, z ∈ B.foldl (fun acc s => insN s acc) acc ↔ z ∈ acc ∨ z ∈ B
  | [], acc, h => ⟨h, by simp⟩
  | s :: B, acc, h => by
    obtain ⟨h1, h2⟩ := names_fold B (insN s acc) (insN_up s h)
    refine ⟨h1, fun z => ?_⟩
    rw [List.foldl_cons, h2, insN_mem, List.mem_cons]
    constructor
    · rintro ((h | h) | h) <;> simp [h]
    · rintro (h | h | h) <;> simp [h]
/-- what compact leaves of a list that does not fall -/
theorem compact_up {d : Array Bys} (hd : ∀ i j, i ≤ j → j < d.size → d[i]! ≤ d[j]!) : ∀ m, m ≤ d.size → Up (Lib.compactUpTo d m) ∧ ∀ z, z ∈ Lib.compactUpTo d m ↔ ∃ j, j < m ∧ d[j]! = z
  | 0, _ => ⟨by simp [Lib.compactUpTo, Up], by simp [Lib.compactUpTo]⟩
  | m + 1, h => by
    obtain ⟨h1, h2⟩ := compact_up hd m (by omega)
    rw [Lib.compactUpTo_succ]
    cases hk : Lib.keeps d m with
    | true =>
      rw [if_pos rfl]
      refine ⟨List.pairwise_append.2 ⟨h1, by simp, fun a ha b hb => ?_⟩, fun z => ?_⟩
      · rw [List.mem_singleton] at hb
        subst hb
        obtain ⟨j, hj, rfl⟩ := (h2 a).1 ha
        have hm : d[m - 1]! ≠ d[m]! := by
          intro e
          have := Lib.keeps_neg (d := d) (m := m) (by omega) e.symm
          rw [hk] at this; cases this
        have h3 : d[j]! ≤ d[m - 1]! := hd j (m - 1) (by omega) (by omega)
        have h4 : d[m - 1]! ≤ d[m]! := hd (m - 1) m (by omega) (by omega)
        have h5 : d[m - 1]! < d[m]! := (bys_le.1 h4).resolve_right hm
        rcases bys_le.1 h3 with h6 | h6
        · exact bys_trans h6 h5
        · rw [h6]; exact h5
      · rw [List.mem_append, h2, List.mem_singleton]
        constructor
        · rintro (⟨j, hj, e⟩ | e)
          · exact ⟨j, by omega, e⟩
          · exact ⟨m, by omega, e.symm⟩
        · rintro ⟨j, hj, e⟩
          rcases Nat.lt_or_ge j m with hj' | hj'
          · exact .inl ⟨j, hj', e⟩
          · exact .inr (by rw [← e, show j = m by omega])
    | false =>
      rw [if_neg (by simp), List.append_nil]
      refine ⟨h1, fun z => ?_⟩
      rw [h2]
      have hm : 0 < m ∧ d[m]! = d[m - 1]! := by
        rcases Nat.eq_zero_or_pos m with h0 | h0
        · subst h0; have := Lib.keeps_lt_one d 0 (by omega); rw [hk] at this; cases this
        · refine ⟨h0, Classical.byContradiction fun hne => ?_⟩
          have := Lib.keeps_pos hne; rw [hk] at this; cases this
      constructor
      · rintro ⟨j, hj, e⟩; exact ⟨j, by omega, e⟩
      · rintro ⟨j, hj, e⟩
        rcases Nat.lt_or_ge j m with hj' | hj'
        · exact ⟨j, hj', e⟩
        · exact ⟨m - 1, by omega, by rw [← hm.2, ← e, show j = m by omega]⟩
theorem sorted_le {l : List Bys} (h : l.Pairwise (· ≤ ·)) : ∀ i j, i ≤ j → j < l.toArray.size → l.toArray[i]! ≤ l.toArray[j]! := by
  intro i j hij hj
  have hj' : j < l.length := by simpa using hj
  have e1 : l.toArray[i]! = l[i]'(by omega) := by simp [show i < l.length by omega]
  have e2 : l.toArray[j]! = l[j] := by simp [hj']
  rw [e1, e2]
  rcases Nat.lt_or_ge i j with h1 | h1
  · exact List.pairwise_iff_getElem.1 h i j (by omega) hj' h1
  · have : i = j := by omega
    subst this
    exact bys_le.2 (.inr rfl)
/-- sorted and compacted: the names in order, each once -/
theorem compact_sort (B : List Bys) : Lib.compact (B.mergeSort fun x y => decide (x ≤ y)) = namesV B := by
  obtain ⟨S, hS⟩ : ∃ S, (B.mergeSort fun x y => decide (x ≤ y)) = S := ⟨_, rfl⟩
  have hp : S.Pairwise (· ≤ ·) := by
    rw [← hS]
    have := List.pairwise_mergeSort (le := fun x y : Bys => decide (x ≤ y)) (fun a b c h1 h2 => by
      simp only [decide_eq_true_eq] at h1 h2 ⊢
      exact List.le_trans h1 h2) (fun a b => by
      simp only [Bool.or_eq_true, decide_eq_true_eq]
      exact List.le_total a b) B
    exact this.imp (by intro a b h; simpa using h)
  have hm : ∀ z, z ∈ S ↔ z ∈ B := fun z => by rw [← hS]; exact List.mem_mergeSort
  rw [hS]
  obtain ⟨h1, h2⟩ := compact_up (sorted_le hp) S.length (by simp)
  obtain ⟨h3, h4⟩ := names_fold B [] (by simp [Up])
  refine up_eq h1 h3 fun z => ?_
  show z ∈ Lib.compactUpTo _ _ ↔ z ∈ List.foldl (fun acc s => insN s acc) [] B
  rw [h2, h4, ← hm]
  constructor
  · rintro ⟨j, hj, e⟩
    right
    have : S.toArray[j]! = S[j] := by simp [hj]
    rw [this] at e
    rw [← e]
    exact List.getElem_mem hj
  · rintro (h | h)
    · simp at h
    · obtain ⟨j, hj, e⟩ := List.getElem_of_mem h
      refine ⟨j, hj, ?_⟩
      have : S.toArray[j]! = S[j] := by simp [hj]
      rw [this, e]
end Go.Proofs.Ytbnjblejbnapgaa
namespace Go.Proofs.Ytbnjblejbnapgaa
open Go Go.RowKit Go.Sort
set_option linter.unusedVariables false
def enc (b : Bys) : Value := .string ⟨b.toArray⟩
def encs (l : List Bys) : List Value := l.map enc
theorem encs_len (l : List Bys) : (encs l).length = l.length := by simp [encs]
theorem encs_get {l : List Bys} {i : Nat} {b : Bys} (h : l[i]? = some b) : (encs l)[i]? = some (enc b) := by simp [encs, h]
theorem encs_one (l : List Bys) : ∀ u ∈ encs l, u.oneCell' = true := by
  intro u hu
  obtain ⟨b, _, rfl⟩ := List.mem_map.1 hu
  rfl
/-- names in own memory -/
def OwnS (w : World) (B : Nat) (v : Value) (l : List Bys) : Prop := w.ownsRow B 9 1 v l.length (encs l)
def NamesPost (w : World) (l : List Bys) (e : Ending) (w' : World) : Prop := ∃ v, e = .returned v ∧ OwnS w' w.heap.size v l ∧ Below w.heap.size w w'
/-- how many names at the beginning are less -/
def lowN (s : Bys) (l : List Bys) : Nat := (l.takeWhile fun x => decide (x < s)).length
theorem insN_split (s : Bys) : ∀ l : List Bys, insN s l = if l[lowN s l]? = some s then l else l.take (lowN s l) ++ s :: l.drop (lowN s l)
  | [] => by simp [insN, lowN]
  | x :: r => by
    unfold insN
    by_cases h : x < s
    · rw [if_pos h, insN_split s r]
      have e : lowN s (x :: r) = lowN s r + 1 := by simp [lowN, h]
      rw [e, List.getElem?_cons_succ, List.take_succ_cons, List.drop_succ_cons]
      split <;> simp
    · rw [if_neg h]
      have e : lowN s (x :: r) = 0 := by simp [lowN, h]
      rw [e]
      by_cases h2 : x = s
      · subst h2; simp
      · rw [if_neg h2, if_neg (by simp [h2])]; simp
theorem mem_tw {p : Bys → Bool} {x : Bys} : ∀ {l : List Bys}, x ∈ l.takeWhile p → p x = true
  | [], h => by simp at h
  | y :: l, h => by
    rw [List.takeWhile_cons] at h
    split at h
    · rename_i hp
      rcases List.mem_cons.1 h with rfl | h
      · exact hp
      · exact mem_tw h
    · simp at h
theorem lowN_le (s : Bys) (l : List Bys) : lowN s l ≤ l.length := by
  unfold lowN; exact (List.takeWhile_sublist _).length_le
theorem lowN_more {s : Bys} {l : List Bys} {a : Nat} {y : Bys} (ha : a ≤ lowN s l) (hy : l[a]? = some y) (h : y < s) : a + 1 ≤ lowN s l := by
  rcases Nat.lt_or_ge a (lowN s l) with h1 | h1
  · exact h1
  · have e : a = lowN s l := by omega
    subst e
    exfalso
    clear ha h1
    induction l with
    | nil => simp at hy
    | cons x r ih =>
      by_cases hx : x < s
      · have e : lowN s (x :: r) = lowN s r + 1 := by simp [lowN, hx]
        rw [e, List.getElem?_cons_succ] at hy
        exact ih hy
      · have e : lowN s (x :: r) = 0 := by simp [lowN, hx]
        rw [e] at hy
        simp at hy
        subst hy
        exact hx h
theorem lowN_stop {s : Bys} {l : List Bys} {a : Nat} {y : Bys} (ha : a ≤ lowN s l) (hy : l[a]? = some y) (h : ¬ y < s) : a = lowN s l := by
  rcases Nat.lt_or_ge a (lowN s l) with h1 | h1
  · exfalso
    unfold lowN at h1
    have h2 : (l.takeWhile fun x => decide (x < s))[a]? = some y := by
      have := List.takeWhile_prefix (l := l) (fun x => decide (x < s))
      obtain ⟨t, ht⟩ := this
      rw [← ht, List.getElem?_append_left h1] at hy
      exact hy
    have h3 := List.mem_of_getElem? h2
    exact h (of_decide_eq_true (mem_tw h3))
  · omega
theorem OwnS.after {w w' : World} {B : Nat} {v : Value} {l : List Bys} (h : OwnS w B v l) (hb : Below w.heap.size w w') : OwnS w' B v l := own_after h hb
theorem OwnS.num {w : World} {B n : Nat} {v : Value} {l : List Bys} (h : OwnS w B v l) (hl : l.length = n) : w.ownsRow B 9 1 v n (encs l) := by subst hl; exact h
theorem own_someS {w : World} {B n c : Nat} {A : Option Addr} {l : List Bys} (h : OwnS w B (.slice A n c) l) (hn : 0 < n) : ∃ g, A = some ⟨g, 0, none⟩ := by
  rcases h.2 with ⟨hv, _⟩ | ⟨g, cap, cur, hv, _⟩
  · injection hv with _ h2; omega
  · injection hv with h1; exact ⟨g, h1⟩
theorem own_atS {w : World} {B n c g a : Nat} {l : List Bys} {y : Bys} (h : OwnS w B (.slice (some ⟨g, 0, none⟩) n c) l) (hl : l.length = n) (hy : l[a]? = some y) : w.cell? ⟨g, a, none⟩ = some (.string ⟨y.toArray⟩) := by
  subst hl
  have hk := (List.getElem?_eq_some_iff.1 hy).1
  have := World.ownsRow.cellAt h (a * 1) (by omega)
  rw [Nat.mul_one] at this
  rw [this]
  exact encs_get hy
theorem own_takeS {w : World} {B n c g a : Nat} {l : List Bys} (h : OwnS w B (.slice (some ⟨g, 0, none⟩) n c) l) (hl : l.length = n) (ha : a ≤ n) : w.ownsRow B 9 1 (.slice (some ⟨g, 0, none⟩) a c) a (encs (l.take a)) := by
  subst hl
  rcases h.2 with ⟨hv, _⟩ | ⟨g', cap, cur, hv, hb, hg, h1, h2, h3, h4⟩
  · simp at hv
  · injection hv with e1 e2 e3
    subst e3
    injection e1 with e1; injection e1 with e1; subst e1
    refine ⟨by rw [encs_len, List.length_take]; omega, .inr ⟨g, c, cur, rfl, hb, hg, by omega, h2, h3, ?_⟩⟩
    rw [Nat.mul_one] at h4 ⊢
    have : cur.toList.take a = (cur.toList.take l.length).take a := by rw [List.take_take]; congr 1; omega
    rw [this, h4]
    simp [encs, List.map_take]
theorem own_dropS {w : World} {B n c g a : Nat} {l : List Bys} (h : OwnS w B (.slice (some ⟨g, 0, none⟩) n c) l) (hl : l.length = n) (ha : a ≤ n) : Row w B w.heap.size 1 (some ⟨g, a, none⟩) (n - a) (c - a) (encs (l.drop a)) := by
  subst hl
  have hr := own_row h
  refine ⟨by rw [encs_len, List.length_drop]; omega, by have := hr.2.1; omega, by have := hr.2.2.1; unfold maxLen at *; omega, fun hp => ?_⟩
  obtain ⟨b, o, e, h1, h2, hc⟩ := hr.2.2.2 (by omega)
  injection e with e
  injection e with e1 e2
  subst e1 e2
  refine ⟨g, a, rfl, h1, h2, fun j u hu => ?_⟩
  have := hc (a + j) u (by unfold encs at hu ⊢; rw [List.map_drop, List.getElem?_drop] at hu; exact hu)
  rwa [Nat.zero_add] at this
theorem own_dropZ {w : World} {lo hi n c g a : Nat} {l : List Bys} (hl : l.length = n) (ha : n ≤ a) (hc : c ≤ maxLen) : Row w lo hi 1 (some ⟨g, 0, none⟩) (n - a) (c - a) (encs (l.drop a)) :=
  ⟨by rw [encs_len, List.length_drop]; omega, by omega, by omega, fun hp => by omega⟩
theorem row_nilS {w : World} {lo hi : Nat} : Row w lo hi 1 none 0 0 (encs []) := Row.nil _ _ _ _
theorem app_strs {X : World} {ops : Array Oper} {rest : List Oper} {o : Oper} {a : Act} {Q : Exit → Act → World → Prop} (hgd : o.guard = none) (s x : Operand)
    (ho : o.op = .call { callee := .builtin .append, args := #[s, x], argTypes := #[22, 22] })
    (B : Nat) (v : Value) (n : Nat) (xs : List Value) (hs : a.eval s = v) (hown : X.ownsRow B 9 1 v n xs) (lo hi : Nat) (A : Option Addr) (m c : Nat) (ks : List Bys) (hx : a.eval x = .slice A m c) (hr : Row X lo hi 1 A m c (encs ks))
    (N : Nat) (hN : n + m = N) (hroom : N ≤ 4194304) (hB : B ≤ X.heap.size)
    (h : ∀ A' c' w', w'.ownsRow B 9 1 (.slice A' N c') N (xs ++ encs ks) → X.grownBy w' v.ownBlock → Below B X w' → wpList Try.prog ops Q rest (a.put o.dst (.slice A' N c')) w') : wpList Try.prog ops Q (o :: rest) a X := by
  subst hN
  obtain ⟨i0, hi0, hz0, hz1, hz2⟩ := info_parts info_str
  refine wpList_app X hgd s x _ ho B 9 i0 (.string ByteArray.empty) 1 16 Try.underlying22 hi0 hz0 hz1 hz2 rfl (by decide) v n xs hs hown lo hi A m c (encs ks) hx hr (encs_one ks) (by unfold maxLen; omega) (by omega) hB ?_
  intro v' w' hown' hg _
  obtain ⟨A', c', rfl⟩ := own_form hown'
  exact h A' c' w' hown' hg ((Below.refl _ _).grown hg hB (fun k hk => (World.ownsRow.lt hown k hk).1))
theorem row_one_str {w : World} {g : Nat} {S : Bys} (h : Blk w g 9 #[.string ⟨S.toArray⟩]) : Row w g (g + 1) 1 (some ⟨g, 0, none⟩) 1 1 (encs [S]) := row_blk h rfl (Nat.le_refl _) (by unfold maxLen; omega)
theorem own_casesS {w : World} {B n c : Nat} {A : Option Addr} {l : List Bys} (h : OwnS w B (.slice A n c) l) (hl : l.length = n) : (A = none ∧ n = 0 ∧ c = 0 ∧ l = []) ∨ ∃ g, A = some ⟨g, 0, none⟩ := by
  rcases h.2 with ⟨hv, h0⟩ | ⟨g, cap, cur, hv, _⟩
  · injection hv with h1 h2 h3
    exact .inl ⟨h1, h2, h3, List.length_eq_zero_iff.1 h0⟩
  · injection hv with h1; exact .inr ⟨g, h1⟩
theorem limS {g a c B : Nat} (h : g < B) : ∀ g', (Value.slice (some ⟨g, 0, none⟩) a c).ownBlock = some g' → g' < B := fun g' e => by
  have : g = g' := Option.some.inj e
  omega
theorem limN {B : Nat} : ∀ g', (Value.slice none 0 0).ownBlock = some g' → g' < B := fun g' e => by cases e
theorem other_rowS {w : World} {B s n : Nat} {e : TypeId} {v v' : Value} {xs : List Value} (h : w.ownsRow B e s v n xs) (lim : ∀ g, v'.ownBlock = some g → g < B) : v.ownBlock = none ∨ v.ownBlock ≠ v'.ownBlock := by
  rcases hv : v.ownBlock with _ | g
  · exact .inl rfl
  · refine .inr fun h' => ?_
    have h1 := (World.ownsRow.lt h g hv).1
    have := lim g h'.symm
    omega
set_option maxRecDepth 100000 in
set_option maxHeartbeats 6400000 in
theorem refNames_any (w : World) (hi : Nat) (x : LangM) (h : LangIn w 0 hi x) (hh : hi ≤ w.heap.size) (hn : x.C.n ≤ 1048576) : Calls Try.prog 14 #[.agg (langC x).toArray] w (NamesPost w (namesV (x.cs.map fun g => g.1.name.data.toList))) := by
  obtain ⟨nm, vr, ⟨Au, nu, cu⟩, us, ⟨Ac, nc, cc⟩, cs, ⟨An, nn, cn⟩, ru, ⟨Aq, nq, cq⟩, qs, ⟨Ae, ne, ce⟩, es, ⟨At, nt, ct⟩, ts⟩ := x
  obtain ⟨hun, hu, hc, hnn, hn_, hq, he, ht⟩ := h
  simp only at hc hn ⊢
  have HI := Lib.hid hc
  have HN := Lib.hid hc.n
  simp only at HN
  clear hun hu hc hnn hn_ hq he ht
  show Calls _ _ #[.agg #[.string nm, .int .i64 vr, .slice Au nu cu, .slice Ac nc cc, .slice An nn cn, .slice Aq nq cq, .slice Ae ne ce, .slice At nt ct]] _ _
  have HX0 : Hid (Blk (w.alloc (.cells #[.string nm, .int .i64 vr, .slice Au nu cu, .slice Ac nc cc, .slice An nn cn, .slice Aq nq cq, .slice Ae ne ce, .slice At nt ct] 29)) w.heap.size 29 #[.string nm, .int .i64 vr, .slice Au nu cu, .slice Ac nc cc, .slice An nn cn, .slice Aq nq cq, .slice Ae ne ce, .slice At nt ct]) := Lib.hid (Blk.new _ _ _)
  have HB0 : Hid (Below w.heap.size w (w.alloc (.cells #[.string nm, .int .i64 vr, .slice Au nu cu, .slice Ac nc cc, .slice An nn cn, .slice Aq nq cq, .slice Ae ne ce, .slice At nt ct] 29))) := Lib.hid (below_more (Below.refl _ _) _)
  obtain ⟨NM, hNM⟩ : ∃ NM : List Bys, cs.map (fun g => g.1.name.data.toList) = NM := ⟨_, rfl⟩
  rw [hNM]
  have HNM := Lib.hid hNM
  clear hNM
  have HL0 : Hid (namesV (NM.take 0) = []) := Lib.hid (by simp [namesV])
  go_enter Try.func14, Try.ntmps14
  go_wp2_with fail
  go_loopw [3, 4] (fun v i wr => ∃ (k n : Nat) (L : List Bys) (A : Option Addr) (c : Nat), v = .slice A n c ∧ i = .int .i64 k ∧ k ≤ nc ∧ n ≤ k ∧ Hid (L.length = n) ∧ Hid (namesV (NM.take k) = L) ∧ Hid (Blk wr w.heap.size 29 #[.string nm, .int .i64 vr, .slice Au nu cu, .slice Ac nc cc, .slice An nn cn, .slice Aq nq cq, .slice Ae ne ce, .slice At nt ct]) ∧ Hid (OwnS wr w.heap.size (.slice A n c) L) ∧ Hid (Below w.heap.size w wr)) (fun _ i _ => nc - (intOf i).toNat)
  case atStart => exact ⟨0, 0, [], none, 0, rfl, rfl, Nat.zero_le _, Nat.le_refl _, Lib.hid rfl, HL0, HX0, Lib.hid (World.ownsRow_nil _ _ _ _), HB0⟩
  case round =>
    obtain ⟨k, n, L, A, c, rfl, rfl, hk, hnk, HL, HV, HX, HO, HB⟩ := hrel
    have hsz := HX.out.lt
    have pf := (HX.out.cell 3).trans (show _ = some (.slice Ac nc cc) from rfl)
    by_cases hlt : k < nc
    · obtain ⟨b, o, hA, _, hb, V⟩ := HI.out.at_ (fun _ => rfl) (show 0 < nc by omega)
      simp only at hA
      subst hA
      obtain ⟨x, hx⟩ : ∃ x, cs[k]? = some x := ⟨cs[k]'(by have := HN.out; omega), List.getElem?_eq_getElem _⟩
      obtain ⟨hlf, hat⟩ := V k x hx
      obtain ⟨⟨x1, x2, x3, xp, xk, xr⟩, M⟩ := x
      have q0 : wr.cell? ⟨b, o + k * 6, none⟩ = some (.string x1) := (HB.out.cell (p := ⟨_, _, none⟩) (show b < w.heap.size by omega)).trans (hat 0 _ (by omega) rfl)
      obtain ⟨S, hS⟩ : ∃ S, x1.data.toList = S := ⟨_, rfl⟩
      have hx1 : x1 = ⟨S.toArray⟩ := by rw [← hS]
      have HS := Lib.hid hS
      have hnx : NM[k]? = some S := by rw [← HNM.out, List.getElem?_map, hx, ← hS]; rfl
      have HV2 : Hid (namesV (NM.take (k + 1)) = insN S L) := Lib.hid (by
        have e : NM.take (k + 1) = NM.take k ++ [S] := by rw [List.take_add_one, hnx]; rfl
        rw [e, ← HV.out]; unfold namesV; rw [List.foldl_append]; rfl)
      clear hlf hat V hx hnx hS
      go_wp2_with fail
      go_loop [6] (fun i => ∃ a : Nat, i = .int .i64 a ∧ a ≤ n ∧ Hid (a ≤ lowN S L)) (fun i => n - (intOf i).toNat)
      case atStart => exact ⟨0, rfl, Nat.zero_le _, Lib.hid (Nat.zero_le _)⟩
      case round =>
        obtain ⟨a, rfl, ha, HA⟩ := hrel
        by_cases hat : a < n
        · obtain ⟨y, hy⟩ : ∃ y, L[a]? = some y := ⟨L[a]'(by have := HL.out; omega), List.getElem?_eq_getElem _⟩
          obtain ⟨g, rfl⟩ := own_someS HO.out (by omega)
          have c0 : wr.cell? ⟨g, a, none⟩ = some (.string ⟨y.toArray⟩) := own_atS HO.out HL.out hy
          have hrow := own_row (OwnS.num HO.out HL.out)
          have hnc := hrow.2.1
          have hcm := hrow.2.2.1
          unfold maxLen at hcm
          clear hrow
          cases hbl : Op.bytesLess y S with
          | true =>
            have HA2 := Lib.hid (lowN_more HA.out hy (of_decide_eq_true (by rw [← Go.Proofs.bytesLess_eq]; exact hbl)))
            go_wp2_with fail
            go_round
            case rel => exact ⟨a + 1, by go_num, by omega, HA2⟩
            case measure => simp [intOf]; omega
          | false =>
            have hst := lowN_stop HA.out hy (of_decide_eq_false (by rw [← Go.Proofs.bytesLess_eq]; exact hbl))
            cases he : (y == S) with
            | true =>
              have hyS : y = S := by simpa using he
              have HV3 : Hid (namesV (NM.take (k + 1)) = L) := Lib.hid (by rw [HV2.out, insN_split, ← hst, hy, hyS, if_pos rfl])
              clear hst hyS
              go_wp2_with fail
              exact ⟨⟨k + 1, n, L, some ⟨g, 0, none⟩, c, rfl, by go_num, by omega, by omega, HL, HV3, HX, HO, HB⟩, by simp [intOf]; omega⟩
            | false =>
              have HIns : Hid (insN S L = L.take a ++ S :: L.drop a) := Lib.hid (by
                rw [insN_split, ← hst, hy, if_neg]
                intro e; injection e with e; rw [e] at he; simp at he)
              have hHa := ha
              clear hst
              have HE1 : Hid (Blk (wr.alloc (.cells #[] 9)) wr.heap.size 9 #[]) := Lib.hid (Blk.new _ _ _)
              have HB1 : Hid (Below wr.heap.size wr (wr.alloc (.cells #[] 9))) := Lib.hid (below_more (Below.refl _ _) _)
              have HO1 : Hid (OwnS (wr.alloc (.cells #[] 9)) w.heap.size (.slice (some ⟨g, 0, none⟩) n c) L) := Lib.hid (OwnS.after HO.out HB1.out)
              have hneT : (9 : TypeId) ≠ 29 := by decide
              have HgL : Hid (g < wr.heap.size) := Lib.hid (World.ownsRow.lt HO.out g rfl).2
              have HLn : Hid ((insN S L).length = n + 1) := Lib.hid (by rw [HIns.out, List.length_append, List.length_cons, List.length_take, List.length_drop]; have := HL.out; omega)
              go_wp2_with (first | (at_builtin; with_reducible show wpList _ _ _ (⟨some 51, _, _, _, _, _⟩ :: _) _ _; go_must (refine app_strs (o := ⟨some 51, _, _, _, _, _⟩) rfl (.tmp 47) (.tmp 50) rfl wr.heap.size (.slice (some ⟨wr.heap.size, 0, none⟩) 0 0) 0 [] (by go_simp) (own_emptyB HE1.out (Nat.le_refl _)) _ _ _ _ _ (L.drop a) (by go_simp) (own_dropS HO1.out HL.out ha) (n - a) (by omega) (by omega) HB1.out.size ?_; intro A7 c7 w1 hown7 hg7 hb7; rw [List.nil_append] at hown7; have HB7 := Lib.hid (below_grows HB1.out hg7 (own_emptyB (size := 1) (e := 9) (B := wr.heap.size) HE1.out (Nat.le_refl _)) (Nat.le_refl _)); have HO7 := Lib.hid hown7; have HOo : Hid (OwnS w1 w.heap.size (.slice (some ⟨g, 0, none⟩) n c) L) := Lib.hid (OwnS.after HO.out HB7.out); have HXo := Lib.hid (HX.out.after HB7.out); have HBo := Lib.hid (HB.out.trans (HB7.out.mono HB.out.size)); have hz7 := HB7.out.size; have hz8 := HBo.out.size; clear hown7 hg7 hb7)) | (at_builtin; with_reducible show wpList _ _ _ (⟨some 57, _, _, _, _, _⟩ :: _) _ _; go_must (refine app_strs (o := ⟨some 57, _, _, _, _, _⟩) rfl (.tmp 54) (.tmp 56) rfl w.heap.size (.slice (some ⟨g, 0, none⟩) a c) a (encs (L.take a)) (by go_simp) (World.ownsRow.alloc (own_takeS HOo.out HL.out ha) _) w1.heap.size (w1.heap.size + 1) (some ⟨w1.heap.size, 0, none⟩) 1 1 [S] (by go_simp) (row_one_str (Blk.new _ _ _)) (a + 1) rfl (by omega) (by simp; omega) ?_; intro A9 c9 w3 hown9 hg9 hb9; have HO9 := Lib.hid hown9; have HB9 := Lib.hid ((HBo.out.alloc HBo.out.size _).trans hb9); have HR9 : Hid (w3.ownsRow wr.heap.size 9 1 (.slice A7 (n - a) c7) (n - a) (encs (L.drop a))) := Lib.hid ((World.ownsRow.alloc HO7.out _).kept hg9 (other_rowS (v' := .slice (some ⟨g, 0, none⟩) a c) HO7.out (limS HgL.out))); have HX9 := Lib.hid (Blk.grown (HXo.out.alloc (.cells #[.string ⟨S.toArray⟩] 9)) hg9 (Ne.symm (own_blk_ne (World.ownsRow.alloc (own_takeS HOo.out HL.out ha) (.cells #[.string ⟨S.toArray⟩] 9)) (HXo.out.alloc (.cells #[.string ⟨S.toArray⟩] 9)) hneT))); have hz9 := HB9.out.size; clear hown9 hg9 hb9)) | (at_builtin; with_reducible show wpList _ _ _ (⟨some 59, _, _, _, _, _⟩ :: _) _ _; go_must (refine app_strs (o := ⟨some 59, _, _, _, _, _⟩) rfl (.tmp 57) (.tmp 58) rfl w.heap.size (.slice A9 (a + 1) c9) (a + 1) _ (by go_simp) HO9.out _ _ A7 (n - a) c7 (L.drop a) (by go_simp) (own_row HR9.out) (n + 1) (by omega) (by omega) HB9.out.size ?_; intro A10 c10 w4 hown10 hg10 hb10; have HO10 := Lib.hid hown10; have HB10 := Lib.hid (HB9.out.trans hb10); have HX10 := Lib.hid (HX9.out.grown hg10 (Ne.symm (own_blk_ne HO9.out HX9.out hneT))); clear hown10 hg10 hb10)))
              have HO11 : Hid (OwnS w4 w.heap.size (.slice A10 (n + 1) c10) (insN S L)) := Lib.hid (by unfold OwnS; rw [HLn.out, HIns.out]; have := HO10.out; simpa [encs, List.map_take, List.map_drop] using this)
              exact ⟨⟨k + 1, n + 1, insN S L, A10, c10, rfl, by go_num, by omega, by omega, HLn, HV2, HX10, HO11, HB10⟩, by simp [intOf]; omega⟩
        · have han : a = n := by omega
          have hlo : lowN S L = a := by have h1 := lowN_le S L; have h2 := HL.out; have h3 := HA.out; omega
          have HIns : Hid (insN S L = L.take a ++ S :: L.drop a) := Lib.hid (by
            rw [insN_split, hlo, if_neg (by rw [List.getElem?_eq_none (by have := HL.out; omega)]; simp)])
          clear hlo
          rcases own_casesS HO.out HL.out with ⟨rfl, hn0, rfl, hL0⟩ | ⟨g, rfl⟩
          · subst hn0
            subst han
            have HIns2 : Hid (insN S L = [S]) := Lib.hid (by rw [HIns.out, hL0]; rfl)
            clear hL0
            have HE1 : Hid (Blk (wr.alloc (.cells #[] 9)) wr.heap.size 9 #[]) := Lib.hid (Blk.new _ _ _)
            have HB1 : Hid (Below wr.heap.size wr (wr.alloc (.cells #[] 9))) := Lib.hid (below_more (Below.refl _ _) _)
            have HO1 : Hid (OwnS (wr.alloc (.cells #[] 9)) w.heap.size (.slice none 0 0) L) := Lib.hid (OwnS.after HO.out HB1.out)
            have hneT : (9 : TypeId) ≠ 29 := by decide
            have HLn : Hid ((insN S L).length = 0 + 1) := Lib.hid (by rw [HIns2.out]; rfl)
            go_wp2_with (first | (at_builtin; with_reducible show wpList _ _ _ (⟨some 51, _, _, _, _, _⟩ :: _) _ _; go_must (refine app_strs (o := ⟨some 51, _, _, _, _, _⟩) rfl (.tmp 47) (.tmp 50) rfl wr.heap.size (.slice (some ⟨wr.heap.size, 0, none⟩) 0 0) 0 [] (by go_simp) (own_emptyB HE1.out (Nat.le_refl _)) 0 0 _ _ _ [] (by go_simp) row_nilS 0 (by omega) (by omega) HB1.out.size ?_; intro A7 c7 w1 hown7 hg7 hb7; rw [List.nil_append] at hown7; have HB7 := Lib.hid (below_grows HB1.out hg7 (own_emptyB (size := 1) (e := 9) (B := wr.heap.size) HE1.out (Nat.le_refl _)) (Nat.le_refl _)); have HO7 := Lib.hid hown7; have HOo : Hid (OwnS w1 w.heap.size (.slice none 0 0) L) := Lib.hid (OwnS.after HO.out HB7.out); have HXo := Lib.hid (HX.out.after HB7.out); have HBo := Lib.hid (HB.out.trans (HB7.out.mono HB.out.size)); have hz7 := HB7.out.size; have hz8 := HBo.out.size; clear hown7 hg7 hb7)) | (at_builtin; with_reducible show wpList _ _ _ (⟨some 57, _, _, _, _, _⟩ :: _) _ _; go_must (refine app_strs (o := ⟨some 57, _, _, _, _, _⟩) rfl (.tmp 54) (.tmp 56) rfl w.heap.size (.slice none 0 0) 0 [] (by go_simp) (World.ownsRow_nil _ _ _ _) w1.heap.size (w1.heap.size + 1) (some ⟨w1.heap.size, 0, none⟩) 1 1 [S] (by go_simp) (row_one_str (Blk.new _ _ _)) (0 + 1) rfl (by omega) (by simp; omega) ?_; intro A9 c9 w3 hown9 hg9 hb9; have HO9 := Lib.hid hown9; have HB9 := Lib.hid ((HBo.out.alloc HBo.out.size _).trans hb9); have HR9 : Hid (w3.ownsRow wr.heap.size 9 1 (.slice A7 0 c7) 0 (encs [])) := Lib.hid ((World.ownsRow.alloc HO7.out _).kept hg9 (other_rowS (v' := .slice none 0 0) HO7.out limN)); have HX9 := Lib.hid (Blk.grown (HXo.out.alloc (.cells #[.string ⟨S.toArray⟩] 9)) hg9 (Ne.symm (own_blk_ne (World.ownsRow_nil (w1.alloc (.cells #[.string ⟨S.toArray⟩] 9)) w.heap.size 9 1) (HXo.out.alloc (.cells #[.string ⟨S.toArray⟩] 9)) hneT))); have hz9 := HB9.out.size; clear hown9 hg9 hb9)) | (at_builtin; with_reducible show wpList _ _ _ (⟨some 59, _, _, _, _, _⟩ :: _) _ _; go_must (refine app_strs (o := ⟨some 59, _, _, _, _, _⟩) rfl (.tmp 57) (.tmp 58) rfl w.heap.size (.slice A9 (0 + 1) c9) (0 + 1) _ (by go_simp) HO9.out _ _ A7 0 c7 [] (by go_simp) (own_row HR9.out) (0 + 1) (by omega) (by omega) HB9.out.size ?_; intro A10 c10 w4 hown10 hg10 hb10; have HO10 := Lib.hid hown10; have HB10 := Lib.hid (HB9.out.trans hb10); have HX10 := Lib.hid (HX9.out.grown hg10 (Ne.symm (own_blk_ne HO9.out HX9.out hneT))); clear hown10 hg10 hb10)))
            have HO11 : Hid (OwnS w4 w.heap.size (.slice A10 (0 + 1) c10) (insN S L)) := Lib.hid (by unfold OwnS; rw [HLn.out, HIns2.out]; have := HO10.out; simpa [encs, List.map_take, List.map_drop] using this)
            exact ⟨⟨k + 1, 0 + 1, insN S L, A10, c10, rfl, by go_num, by omega, by omega, HLn, HV2, HX10, HO11, HB10⟩, by simp [intOf]; omega⟩
          · clear han
            have hrow := own_row (OwnS.num HO.out HL.out)
            have hnc := hrow.2.1
            have hcm := hrow.2.2.1
            unfold maxLen at hcm
            clear hrow
            have haz : n ≤ a := by omega
            by_cases hca : c = a
            · subst hca
              have HE1 : Hid (Blk (wr.alloc (.cells #[] 9)) wr.heap.size 9 #[]) := Lib.hid (Blk.new _ _ _)
              have HB1 : Hid (Below wr.heap.size wr (wr.alloc (.cells #[] 9))) := Lib.hid (below_more (Below.refl _ _) _)
              have HO1 : Hid (OwnS (wr.alloc (.cells #[] 9)) w.heap.size (.slice (some ⟨g, 0, none⟩) n c) L) := Lib.hid (OwnS.after HO.out HB1.out)
              have hneT : (9 : TypeId) ≠ 29 := by decide
              have HgL : Hid (g < wr.heap.size) := Lib.hid (World.ownsRow.lt HO.out g rfl).2
              have HLn : Hid ((insN S L).length = n + 1) := Lib.hid (by rw [HIns.out, List.length_append, List.length_cons, List.length_take, List.length_drop]; have := HL.out; omega)
              go_wp2_with (first | (at_builtin; with_reducible show wpList _ _ _ (⟨some 51, _, _, _, _, _⟩ :: _) _ _; go_must (refine app_strs (o := ⟨some 51, _, _, _, _, _⟩) rfl (.tmp 47) (.tmp 50) rfl wr.heap.size (.slice (some ⟨wr.heap.size, 0, none⟩) 0 0) 0 [] (by go_simp) (own_emptyB HE1.out (Nat.le_refl _)) 0 0 _ _ _ (L.drop c) (by go_simp) (own_dropZ (g := g) (c := c) HL.out haz (by unfold maxLen; exact hcm)) (n - c) (by omega) (by omega) HB1.out.size ?_; intro A7 c7 w1 hown7 hg7 hb7; rw [List.nil_append] at hown7; have HB7 := Lib.hid (below_grows HB1.out hg7 (own_emptyB (size := 1) (e := 9) (B := wr.heap.size) HE1.out (Nat.le_refl _)) (Nat.le_refl _)); have HO7 := Lib.hid hown7; have HOo : Hid (OwnS w1 w.heap.size (.slice (some ⟨g, 0, none⟩) n c) L) := Lib.hid (OwnS.after HO.out HB7.out); have HXo := Lib.hid (HX.out.after HB7.out); have HBo := Lib.hid (HB.out.trans (HB7.out.mono HB.out.size)); have hz7 := HB7.out.size; have hz8 := HBo.out.size; clear hown7 hg7 hb7)) | (at_builtin; with_reducible show wpList _ _ _ (⟨some 57, _, _, _, _, _⟩ :: _) _ _; go_must (refine app_strs (o := ⟨some 57, _, _, _, _, _⟩) rfl (.tmp 54) (.tmp 56) rfl w.heap.size (.slice (some ⟨g, 0, none⟩) c c) c (encs (L.take c)) (by go_simp) (World.ownsRow.alloc (own_takeS HOo.out HL.out ha) _) w1.heap.size (w1.heap.size + 1) (some ⟨w1.heap.size, 0, none⟩) 1 1 [S] (by go_simp) (row_one_str (Blk.new _ _ _)) (c + 1) rfl (by omega) (by simp; omega) ?_; intro A9 c9 w3 hown9 hg9 hb9; have HO9 := Lib.hid hown9; have HB9 := Lib.hid ((HBo.out.alloc HBo.out.size _).trans hb9); have HR9 : Hid (w3.ownsRow wr.heap.size 9 1 (.slice A7 (n - c) c7) (n - c) (encs (L.drop c))) := Lib.hid ((World.ownsRow.alloc HO7.out _).kept hg9 (other_rowS (v' := .slice (some ⟨g, 0, none⟩) c c) HO7.out (limS HgL.out))); have HX9 := Lib.hid (Blk.grown (HXo.out.alloc (.cells #[.string ⟨S.toArray⟩] 9)) hg9 (Ne.symm (own_blk_ne (World.ownsRow.alloc (own_takeS HOo.out HL.out ha) (.cells #[.string ⟨S.toArray⟩] 9)) (HXo.out.alloc (.cells #[.string ⟨S.toArray⟩] 9)) hneT))); have hz9 := HB9.out.size; clear hown9 hg9 hb9)) | (at_builtin; with_reducible show wpList _ _ _ (⟨some 59, _, _, _, _, _⟩ :: _) _ _; go_must (refine app_strs (o := ⟨some 59, _, _, _, _, _⟩) rfl (.tmp 57) (.tmp 58) rfl w.heap.size (.slice A9 (c + 1) c9) (c + 1) _ (by go_simp) HO9.out _ _ A7 (n - c) c7 (L.drop c) (by go_simp) (own_row HR9.out) (n + 1) (by omega) (by omega) HB9.out.size ?_; intro A10 c10 w4 hown10 hg10 hb10; have HO10 := Lib.hid hown10; have HB10 := Lib.hid (HB9.out.trans hb10); have HX10 := Lib.hid (HX9.out.grown hg10 (Ne.symm (own_blk_ne HO9.out HX9.out hneT))); clear hown10 hg10 hb10)))
              have HO11 : Hid (OwnS w4 w.heap.size (.slice A10 (n + 1) c10) (insN S L)) := Lib.hid (by unfold OwnS; rw [HLn.out, HIns.out]; have := HO10.out; simpa [encs, List.map_take, List.map_drop] using this)
              exact ⟨⟨k + 1, n + 1, insN S L, A10, c10, rfl, by go_num, by omega, by omega, HLn, HV2, HX10, HO11, HB10⟩, by simp [intOf]; omega⟩
            · have hca2 : ((c : Int) == (a : Int)) = false := by rw [beq_eq_false_iff_ne]; omega
              have HE1 : Hid (Blk (wr.alloc (.cells #[] 9)) wr.heap.size 9 #[]) := Lib.hid (Blk.new _ _ _)
              have HB1 : Hid (Below wr.heap.size wr (wr.alloc (.cells #[] 9))) := Lib.hid (below_more (Below.refl _ _) _)
              have HO1 : Hid (OwnS (wr.alloc (.cells #[] 9)) w.heap.size (.slice (some ⟨g, 0, none⟩) n c) L) := Lib.hid (OwnS.after HO.out HB1.out)
              have hneT : (9 : TypeId) ≠ 29 := by decide
              have HgL : Hid (g < wr.heap.size) := Lib.hid (World.ownsRow.lt HO.out g rfl).2
              have HLn : Hid ((insN S L).length = n + 1) := Lib.hid (by rw [HIns.out, List.length_append, List.length_cons, List.length_take, List.length_drop]; have := HL.out; omega)
              go_wp2_with (first | (at_builtin; with_reducible show wpList _ _ _ (⟨some 51, _, _, _, _, _⟩ :: _) _ _; go_must (refine app_strs (o := ⟨some 51, _, _, _, _, _⟩) rfl (.tmp 47) (.tmp 50) rfl wr.heap.size (.slice (some ⟨wr.heap.size, 0, none⟩) 0 0) 0 [] (by go_simp) (own_emptyB HE1.out (Nat.le_refl _)) _ _ _ _ _ (L.drop a) (by go_simp) (own_dropS HO1.out HL.out ha) (n - a) (by omega) (by omega) HB1.out.size ?_; intro A7 c7 w1 hown7 hg7 hb7; rw [List.nil_append] at hown7; have HB7 := Lib.hid (below_grows HB1.out hg7 (own_emptyB (size := 1) (e := 9) (B := wr.heap.size) HE1.out (Nat.le_refl _)) (Nat.le_refl _)); have HO7 := Lib.hid hown7; have HOo : Hid (OwnS w1 w.heap.size (.slice (some ⟨g, 0, none⟩) n c) L) := Lib.hid (OwnS.after HO.out HB7.out); have HXo := Lib.hid (HX.out.after HB7.out); have HBo := Lib.hid (HB.out.trans (HB7.out.mono HB.out.size)); have hz7 := HB7.out.size; have hz8 := HBo.out.size; clear hown7 hg7 hb7)) | (at_builtin; with_reducible show wpList _ _ _ (⟨some 57, _, _, _, _, _⟩ :: _) _ _; go_must (refine app_strs (o := ⟨some 57, _, _, _, _, _⟩) rfl (.tmp 54) (.tmp 56) rfl w.heap.size (.slice (some ⟨g, 0, none⟩) a c) a (encs (L.take a)) (by go_simp) (World.ownsRow.alloc (own_takeS HOo.out HL.out ha) _) w1.heap.size (w1.heap.size + 1) (some ⟨w1.heap.size, 0, none⟩) 1 1 [S] (by go_simp) (row_one_str (Blk.new _ _ _)) (a + 1) rfl (by omega) (by simp; omega) ?_; intro A9 c9 w3 hown9 hg9 hb9; have HO9 := Lib.hid hown9; have HB9 := Lib.hid ((HBo.out.alloc HBo.out.size _).trans hb9); have HR9 : Hid (w3.ownsRow wr.heap.size 9 1 (.slice A7 (n - a) c7) (n - a) (encs (L.drop a))) := Lib.hid ((World.ownsRow.alloc HO7.out _).kept hg9 (other_rowS (v' := .slice (some ⟨g, 0, none⟩) a c) HO7.out (limS HgL.out))); have HX9 := Lib.hid (Blk.grown (HXo.out.alloc (.cells #[.string ⟨S.toArray⟩] 9)) hg9 (Ne.symm (own_blk_ne (World.ownsRow.alloc (own_takeS HOo.out HL.out ha) (.cells #[.string ⟨S.toArray⟩] 9)) (HXo.out.alloc (.cells #[.string ⟨S.toArray⟩] 9)) hneT))); have hz9 := HB9.out.size; clear hown9 hg9 hb9)) | (at_builtin; with_reducible show wpList _ _ _ (⟨some 59, _, _, _, _, _⟩ :: _) _ _; go_must (refine app_strs (o := ⟨some 59, _, _, _, _, _⟩) rfl (.tmp 57) (.tmp 58) rfl w.heap.size (.slice A9 (a + 1) c9) (a + 1) _ (by go_simp) HO9.out _ _ A7 (n - a) c7 (L.drop a) (by go_simp) (own_row HR9.out) (n + 1) (by omega) (by omega) HB9.out.size ?_; intro A10 c10 w4 hown10 hg10 hb10; have HO10 := Lib.hid hown10; have HB10 := Lib.hid (HB9.out.trans hb10); have HX10 := Lib.hid (HX9.out.grown hg10 (Ne.symm (own_blk_ne HO9.out HX9.out hneT))); clear hown10 hg10 hb10)))
              have HO11 : Hid (OwnS w4 w.heap.size (.slice A10 (n + 1) c10) (insN S L)) := Lib.hid (by unfold OwnS; rw [HLn.out, HIns.out]; have := HO10.out; simpa [encs, List.map_take, List.map_drop] using this)
              exact ⟨⟨k + 1, n + 1, insN S L, A10, c10, rfl, by go_num, by omega, by omega, HLn, HV2, HX10, HO11, HB10⟩, by simp [intOf]; omega⟩
    · have hkn : k = nc := by omega
      subst hkn
      have HLL : Hid (namesV NM = L) := Lib.hid (by
        have h1 := HV.out
        rwa [List.take_of_length_le (by rw [← HNM.out, List.length_map]; have := HN.out; omega)] at h1)
      go_wp2_with fail
      go_ret
      exact ⟨_, rfl, by rw [HLL.out]; exact HO.out, HB.out⟩
end Go.Proofs.Ytbnjblejbnapgaa
namespace Go.Proofs.Ytbnjblejbnapgaa
open Go Go.RowKit Go.Sort
set_option linter.unusedVariables false
theorem conEM_name {x y : ConD × Leaf} (h : conEM x y = true) : x.1.name.toList = y.1.name.toList := by
  unfold conEM at h
  simp only [Bool.and_eq_true, beq_iff_eq] at h
  exact h.1.1.1.1.1
theorem findC_cons (x : ConD × Leaf) (l : List (ConD × Leaf)) (s : ByteArray) : findC (x :: l) s = if (x.1.name.toList == s.toList) = true then some x else findC l s := by
  unfold findC
  rw [List.find?_cons]
  split <;> rename_i h
  · rw [if_pos h]
  · rw [if_neg (by rw [h]; simp)]
theorem find_same (s : ByteArray) : ∀ {xs ys : List (ConD × Leaf)}, eqL conEM xs ys = true → (findC xs s = none ∧ findC ys s = none) ∨ ∃ x y, findC xs s = some x ∧ findC ys s = some y ∧ conEM x y = true ∧ x ∈ xs ∧ y ∈ ys
  | [], [], _ => .inl ⟨rfl, rfl⟩
  | [], _ :: _, h => by simp [eqL] at h
  | _ :: _, [], h => by simp [eqL] at h
  | x :: xs, y :: ys, h => by
    rw [eqL, Bool.and_eq_true] at h
    rw [findC_cons, findC_cons, conEM_name h.1]
    by_cases hs : (y.1.name.toList == s.toList) = true
    · rw [if_pos hs, if_pos hs]
      exact .inr ⟨x, y, rfl, rfl, h.1, List.mem_cons_self, List.mem_cons_self⟩
    · rw [if_neg hs, if_neg hs]
      rcases find_same s h.2 with h' | ⟨a, b, h1, h2, h3, h4, h5⟩
      · exact .inl h'
      · exact .inr ⟨a, b, h1, h2, h3, List.mem_cons_of_mem _ h4, List.mem_cons_of_mem _ h5⟩
theorem names_same : ∀ {xs ys : List (ConD × Leaf)}, eqL conEM xs ys = true → xs.map (fun g => g.1.name.data.toList) = ys.map (fun g => g.1.name.data.toList)
  | [], [], _ => rfl
  | [], _ :: _, h => by simp [eqL] at h
  | _ :: _, [], h => by simp [eqL] at h
  | x :: xs, y :: ys, h => by
    rw [eqL, Bool.and_eq_true] at h
    rw [List.map_cons, List.map_cons, names_same h.2]
    have := conEM_name h.1
    rw [Lib.toList_data, Lib.toList_data] at this
    rw [this]
theorem langEM_cs {x y : LangM} (h : langEM x y = true) : eqL conEM x.cs y.cs = true := by
  unfold langEM at h
  simp only [Bool.and_eq_true] at h
  exact h.1.1.1.1.2
/-- the texts' cells, as the document's Texts asks for them -/
theorem encs_str (l : List Bys) : encs l = strCells (l.map fun b => ⟨b.toArray⟩) := by
  unfold encs strCells enc
  rw [List.map_map]; rfl
theorem texts_refl (l : List ByteArray) : eqL strE l l = true := eqL_refl strE_refl l
end Go.Proofs.Ytbnjblejbnapgaa
namespace Go.Proofs.Ytbnjblejbnapgaa
open Go Go.RowKit Go.Sort
set_option linter.unusedVariables false
def zeroC : ConD × Leaf := (⟨⟨#[]⟩, ⟨#[]⟩, false, [], [], []⟩, ⟨⟨none, 0, 0⟩, ⟨none, 0, 0⟩, ⟨none, 0, 0⟩⟩)
theorem conOwn_zero (w : World) (B : Nat) : ConOwn w B zeroC := ⟨rfl, rfl, rfl, World.ownsRow_nil _ _ _ _, World.ownsRow_nil _ _ _ _, World.ownsRow_nil _ _ _ _⟩
theorem conIn_zero (w : World) (lo hi : Nat) : ConIn w lo hi zeroC := ⟨rfl, rfl, rfl, Row.nil _ _ _ _, Row.nil _ _ _ _, Row.nil _ _ _ _⟩
/-- the concept of that name, or nothing's -/
def conV (x : LangM) (s : ByteArray) : ConD × Leaf := (findC x.cs s).getD zeroC
def ConO (w : World) (x : LangM) (s : ByteArray) (e : Ending) (w' : World) : Prop := ∃ y : ConD × Leaf, e = .returned (.tuple #[.agg (conC y).toArray, .bool (findC x.cs s).isSome]) ∧ y.1 = (conV x s).1 ∧ ConOwn w' w.heap.size y ∧ Below w.heap.size w w'
def ConS (w : World) (x : LangM) (s : ByteArray) (e : Ending) (w' : World) : Prop := e = .returned (.tuple #[.agg (conC (conV x s)).toArray, .bool (findC x.cs s).isSome]) ∧ Below w.heap.size w w'
theorem conceptO_any (w : World) (hi : Nat) (x : LangM) (s : ByteArray) (h : LangIn w 0 hi x) (hh : hi ≤ w.heap.size) (hn : x.C.n ≤ 1048576) (hg : ∀ g ∈ x.cs, g.1.props.length ≤ 1048576 ∧ g.1.kids.length ≤ 1048576 ∧ g.1.refs.length ≤ 1048576) :
    Calls Try.prog 9 #[.agg (langC x).toArray, .string s] w (ConO w x s) :=
  (concept_any w hi x s h hh hn hg).mono fun e w' ⟨hb, hp⟩ => by
    unfold ConO conV
    cases hf : findC x.cs s with
    | none =>
      rw [hf] at hp
      exact ⟨zeroC, hp, rfl, conOwn_zero _ _, hb⟩
    | some g =>
      rw [hf] at hp
      obtain ⟨M, he, ho⟩ := hp
      rw [if_pos rfl] at ho
      exact ⟨(g.1, M), he, rfl, ho, hb⟩
theorem conceptS_any (w : World) (hi : Nat) (x : LangM) (s : ByteArray) (h : LangIn w 0 hi x) (hh : hi ≤ w.heap.size) (hn : x.C.n ≤ 1048576) :
    Calls Try.prog 10 #[.agg (langC x).toArray, .string s] w (ConS w x s) :=
  (refConcept_any w hi x s h hh hn).mono fun e w' ⟨hb, hp⟩ => by
    unfold ConS conV
    cases hf : findC x.cs s with
    | none =>
      rw [hf] at hp
      exact ⟨hp, hb⟩
    | some g =>
      rw [hf] at hp
      obtain ⟨M, he, ho⟩ := hp
      rw [if_neg (by simp)] at ho
      subst ho
      exact ⟨he, hb⟩
theorem conV_in {w : World} {hi : Nat} {x : LangM} (h : LangIn w 0 hi x) (s : ByteArray) : ConIn w 0 hi (conV x s) := by
  unfold conV
  cases hf : findC x.cs s with
  | none => exact conIn_zero _ _ _
  | some g => exact h.c.all g (List.mem_of_find?_eq_some hf)
theorem conEM_fst {x y x' y' : ConD × Leaf} (hx : x.1 = x'.1) (hy : y.1 = y'.1) : conEM x y = conEM x' y' := by unfold conEM; rw [hx, hy]
theorem conV_same {x z : LangM} (h : langEM x z = true) (s : ByteArray) : conEM (conV x s) (conV z s) = true ∧ (findC x.cs s).isSome = (findC z.cs s).isSome := by
  unfold conV
  rcases find_same s (langEM_cs h) with ⟨h1, h2⟩ | ⟨a, b, h1, h2, h3, _⟩
  · rw [h1, h2]; exact ⟨by simp [conEM, zeroC, eqL], rfl⟩
  · rw [h1, h2]; exact ⟨h3, rfl⟩
end Go.Proofs.Ytbnjblejbnapgaa
namespace Go.Proofs.Ytbnjblejbnapgaa
open Go Go.RowKit Go.Sort
set_option linter.unusedVariables false
def sortS (l : List Bys) : List Bys := l.mergeSort fun x y => decide (x ≤ y)
theorem sortS_len (l : List Bys) : (sortS l).length = l.length := List.length_mergeSort _
theorem grow_nil (W : World) : grow W #[] = W := by cases W; simp [grow]
/-- names of the call's own are sorted in their place -/
theorem sort_ownS (w : World) (B c g n : Nat) (zs : List Bys) (h : OwnS w B (.slice (some ⟨g, 0, none⟩) n c) zs) (hl : zs.length = n) (h4 : n ≤ 1048576) :
    Calls Try.prog 35 #[.slice (some ⟨g, 0, none⟩) n c] w fun e w' => e = .returned (.tuple #[]) ∧ OwnS w' B (.slice (some ⟨g, 0, none⟩) n c) (sortS zs) ∧ w.grownBy w' (some g) := by
  subst hl
  rcases h.2 with ⟨h', _⟩ | ⟨g', cap, cur, h', hb, hg, hnc, hcm, hcs, htake⟩
  · simp at h'
  · simp only [Value.slice.injEq, Option.some.injEq, Addr.mk.injEq, and_true, true_and] at h'
    obtain ⟨rfl, rfl⟩ := h'
    rw [Nat.mul_one] at htake
    have h1 := Try.slices_Sort_string g 0 c zs w (holds_of_block hg htake) (Array.getElem?_eq_some_iff.1 hg).1 (by omega)
    refine h1.mono fun e w' ⟨he, n, os, hw⟩ => ⟨he, ?_, ?_⟩
    · rw [hw]
      have := ownsRow_sorted (n := n) (os := os) (ts := sortS zs) (sortS_len zs) hb hg hnc hcm hcs
      unfold OwnS
      rw [sortS_len]
      exact this
    · rw [hw]
      exact grownBy_sorted _
/-- .. and compacted -/
theorem compact_ownS (w : World) (B c g n : Nat) (zs : List Bys) (h : OwnS w B (.slice (some ⟨g, 0, none⟩) n c) zs) (hl : zs.length = n) (h4 : n ≤ 1048576) :
    Calls Try.prog 36 #[.slice (some ⟨g, 0, none⟩) n c] w fun e w' => e = .returned (.slice (some ⟨g, 0, none⟩) (Lib.compact zs).length c) ∧ OwnS w' B (.slice (some ⟨g, 0, none⟩) (Lib.compact zs).length c) (Lib.compact zs) ∧ w.grownBy w' (some g) := by
  subst hl
  rcases h.2 with ⟨h', _⟩ | ⟨g', cap, cur, h', hb, hg, hnc, hcm, hcs, htake⟩
  · simp at h'
  · simp only [Value.slice.injEq, Option.some.injEq, Addr.mk.injEq, and_true, true_and] at h'
    obtain ⟨rfl, rfl⟩ := h'
    rw [Nat.mul_one] at htake
    have h1 := Try.slices_Compact_string g 0 c zs w (holds_of_block hg htake) (by omega) hnc
    have hle := Lib.compact_length_le zs
    obtain ⟨D, hD⟩ : ∃ D, Lib.compact zs ++ List.replicate (zs.length - (Lib.compact zs).length) [] = D := ⟨_, rfl⟩
    have hDl : D.length = zs.length := by rw [← hD, List.length_append, List.length_replicate]; omega
    rw [hD] at h1
    refine h1.mono fun e w' ⟨he, q, hw⟩ => ⟨he, ?_, ?_⟩
    · have hw2 : w' = grow (putRow encStr (Sort.ahead w q) g 0 D.toArray) #[] := by rw [hw, grow_nil]
      rw [hw2]
      have h2 := ownsRow_sorted (n := q) (os := #[]) (ts := D) hDl hb hg hnc hcm hcs
      have h3 : OwnS (grow (putRow encStr (Sort.ahead w q) g 0 D.toArray) #[]) B (.slice (some ⟨g, 0, none⟩) zs.length c) D := by unfold OwnS; rw [hDl]; exact h2
      have h5 := own_takeS h3 hDl hle
      rw [← hD, List.take_left] at h5
      rw [hD] at h5
      exact h5
    · have hw2 : w' = grow (putRow encStr (Sort.ahead w q) g 0 D.toArray) #[] := by rw [hw, grow_nil]
      rw [hw2]
      exact grownBy_sorted _
set_option maxRecDepth 100000 in
set_option maxHeartbeats 6400000 in
theorem names_any (w : World) (hi : Nat) (x : LangM) (h : LangIn w 0 hi x) (hh : hi ≤ w.heap.size) (hn : x.C.n ≤ 1048576) : Calls Try.prog 11 #[.agg (langC x).toArray] w (NamesPost w (namesV (x.cs.map fun g => g.1.name.data.toList))) := by
  obtain ⟨nm, vr, ⟨Au, nu, cu⟩, us, ⟨Ac, nc, cc⟩, cs, ⟨An, nn, cn⟩, ru, ⟨Aq, nq, cq⟩, qs, ⟨Ae, ne, ce⟩, es, ⟨At, nt, ct⟩, ts⟩ := x
  obtain ⟨hun, hu, hc, hnn, hn_, hq, he, ht⟩ := h
  simp only at hc hn ⊢
  have HI := Lib.hid hc
  have HN := Lib.hid hc.n
  simp only at HN
  clear hun hu hc hnn hn_ hq he ht
  show Calls _ _ #[.agg #[.string nm, .int .i64 vr, .slice Au nu cu, .slice Ac nc cc, .slice An nn cn, .slice Aq nq cq, .slice Ae ne ce, .slice At nt ct]] _ _
  obtain ⟨NM, hNM⟩ : ∃ NM : List Bys, cs.map (fun g => g.1.name.data.toList) = NM := ⟨_, rfl⟩
  rw [hNM]
  have HNM := Lib.hid hNM
  have HNl : Hid (NM.length = nc) := Lib.hid (by rw [← hNM, List.length_map, HN.out])
  clear hNM
  obtain ⟨i0, hi0, hz0, hz1, hz2⟩ := info_parts info_str
  obtain ⟨cur, hcs, hmk⟩ := make_rows 22 9 i0 _ 1 16 Try.underlying22 hi0 hz0 hz1 hz2 rfl nc (by omega) (by omega)
  clear hz0 hz1 hz2 hi0
  have HX0 : Hid (Blk ((w.alloc (.cells #[.string nm, .int .i64 vr, .slice Au nu cu, .slice Ac nc cc, .slice An nn cn, .slice Aq nq cq, .slice Ae ne ce, .slice At nt ct] 29)).alloc (.cells cur 9)) w.heap.size 29 #[.string nm, .int .i64 vr, .slice Au nu cu, .slice Ac nc cc, .slice An nn cn, .slice Aq nq cq, .slice Ae ne ce, .slice At nt ct]) := Lib.hid ((Blk.new _ _ _).alloc _)
  have HO0 : Hid (∃ xs : List Value, xs.length = nc - 0 ∧ ((w.alloc (.cells #[.string nm, .int .i64 vr, .slice Au nu cu, .slice Ac nc cc, .slice An nn cn, .slice Aq nq cq, .slice Ae ne ce, .slice At nt ct] 29)).alloc (.cells cur 9)).ownsRow (w.heap.size + 1) 9 1 (.slice (some ⟨w.heap.size + 1, 0, none⟩) nc nc) nc (encs (NM.take 0) ++ xs)) := Lib.hid ⟨cur.toList, by simpa using hcs, by
    refine ⟨by simpa [encs] using hcs, .inr ⟨w.heap.size + 1, nc, cur, rfl, Nat.le_refl _, Blk.new' (by simp), Nat.le_refl _, by unfold maxLen; omega, hcs, ?_⟩⟩
    rw [List.take_of_length_le (by simp; omega)]
    simp [encs]⟩
  have HB0 : Hid (Below w.heap.size w ((w.alloc (.cells #[.string nm, .int .i64 vr, .slice Au nu cu, .slice Ac nc cc, .slice An nn cn, .slice Aq nq cq, .slice Ae ne ce, .slice At nt ct] 29)).alloc (.cells cur 9))) := Lib.hid ((below_more (Below.refl _ _) _).alloc (by simp) _)
  go_enter Try.func11, Try.ntmps11
  go_wp2_with fail
  go_loopw [13] (fun i wr => ∃ k : Nat, i = .int .i64 k ∧ k ≤ nc ∧ Hid (Blk wr w.heap.size 29 #[.string nm, .int .i64 vr, .slice Au nu cu, .slice Ac nc cc, .slice An nn cn, .slice Aq nq cq, .slice Ae ne ce, .slice At nt ct]) ∧ Hid (∃ xs : List Value, xs.length = nc - k ∧ wr.ownsRow (w.heap.size + 1) 9 1 (.slice (some ⟨w.heap.size + 1, 0, none⟩) nc nc) nc (encs (NM.take k) ++ xs)) ∧ Hid (Below w.heap.size w wr)) (fun i _ => nc - (intOf i).toNat)
  case atStart => exact ⟨0, rfl, Nat.zero_le _, HX0, HO0, HB0⟩
  case round =>
    obtain ⟨k, rfl, hk, HX, HO, HB⟩ := hrel
    have hsz := HB.out.size
    have hsx := HX.out.lt
    by_cases hlt : k < nc
    · obtain ⟨b, o, hA, _, hb, VV⟩ := HI.out.at_ (fun _ => rfl) (show 0 < nc by omega)
      simp only at hA
      subst hA
      obtain ⟨x, hx⟩ : ∃ x, cs[k]? = some x := ⟨cs[k]'(by have := HN.out; omega), List.getElem?_eq_getElem _⟩
      obtain ⟨hlf, hat⟩ := VV k x hx
      obtain ⟨⟨x1, x2, x3, xp, xk, xr⟩, ⟨⟨Ap, np, cp⟩, ⟨Ak, nk, ck⟩, ⟨Ar, nr, cr⟩⟩⟩ := x
      have q0 : wr.cell? ⟨b, o + k * 6, none⟩ = some (.string x1) := (HB.out.cell (p := ⟨_, _, none⟩) (show b < w.heap.size by omega)).trans (hat 0 _ (by omega) rfl)
      have q1 : wr.cell? ⟨b, o + k * 6 + 1, none⟩ = some (.string x2) := (HB.out.cell (p := ⟨_, _, none⟩) (show b < w.heap.size by omega)).trans (hat 1 _ (by omega) rfl)
      have q2 : wr.cell? ⟨b, o + k * 6 + 2, none⟩ = some (.bool x3) := (HB.out.cell (p := ⟨_, _, none⟩) (show b < w.heap.size by omega)).trans (hat 2 _ (by omega) rfl)
      have q3 : wr.cell? ⟨b, o + k * 6 + 3, none⟩ = some (.slice Ap np cp) := (HB.out.cell (p := ⟨_, _, none⟩) (show b < w.heap.size by omega)).trans (hat 3 _ (by omega) rfl)
      have q4 : wr.cell? ⟨b, o + k * 6 + 4, none⟩ = some (.slice Ak nk ck) := (HB.out.cell (p := ⟨_, _, none⟩) (show b < w.heap.size by omega)).trans (hat 4 _ (by omega) rfl)
      have q5 : wr.cell? ⟨b, o + k * 6 + 5, none⟩ = some (.slice Ar nr cr) := (HB.out.cell (p := ⟨_, _, none⟩) (show b < w.heap.size by omega)).trans (hat 5 _ (by omega) rfl)
      have hnx : Hid (NM[k]? = some x1.data.toList) := Lib.hid (by rw [← HNM.out, List.getElem?_map, hx]; rfl)
      obtain ⟨xs, hxs, hown⟩ := HO.out
      obtain ⟨u, xs', rfl⟩ : ∃ u xs', xs = u :: xs' := by
        cases xs with
        | nil => simp at hxs; omega
        | cons u xs' => exact ⟨u, xs', rfl⟩
      have hel : (encs (NM.take k)).length = k := by rw [encs_len, List.length_take]; have := HNl.out; omega
      have hown2 := World.ownsRow.alloc hown (.cells #[.string x1, .string x2, .bool x3, .slice Ap np cp, .slice Ak nk ck, .slice Ar nr cr] 38)
      have hgk : (encs (NM.take k) ++ u :: xs')[k]? = some u := by rw [List.getElem?_append_right (by omega), hel]; simp
      have cz : (wr.alloc (.cells #[.string x1, .string x2, .bool x3, .slice Ap np cp, .slice Ak nk ck, .slice Ar nr cr] 38)).cell? ⟨w.heap.size + 1, k, none⟩ = some u := (World.ownsRow.cellAt hown2 k (by omega)).trans hgk
      have fz : (wr.alloc (.cells #[.string x1, .string x2, .bool x3, .slice Ap np cp, .slice Ak nk ck, .slice Ar nr cr] 38)).frozen? ⟨w.heap.size + 1, k, none⟩ = false := World.ownsRow.frozenAt hown2 k
      have hst := World.ownsRow.stored hown2 k (.string x1)
      have hset : (encs (NM.take k) ++ u :: xs').set k (.string x1) = encs (NM.take (k + 1)) ++ xs' := by
        rw [List.set_append_right _ _ (by omega), hel, Nat.sub_self, List.set_cons_zero, List.take_add_one, hnx.out]
        simp only [encs, List.map_append, Option.toList_some, List.map_cons, List.map_nil, List.append_assoc, List.cons_append, List.nil_append]
        rfl
      have HO2 : Hid (∃ xs : List Value, xs.length = nc - (k + 1) ∧ ((wr.alloc (.cells #[.string x1, .string x2, .bool x3, .slice Ap np cp, .slice Ak nk ck, .slice Ar nr cr] 38)).setCell ⟨w.heap.size + 1, k, none⟩ (.string x1)).ownsRow (w.heap.size + 1) 9 1 (.slice (some ⟨w.heap.size + 1, 0, none⟩) nc nc) nc (encs (NM.take (k + 1)) ++ xs)) := Lib.hid ⟨xs', by simp at hxs; omega, by rw [← hset]; exact hst.1⟩
      have HX2 := Lib.hid (Blk.grown (HX.out.alloc (.cells #[.string x1, .string x2, .bool x3, .slice Ap np cp, .slice Ak nk ck, .slice Ar nr cr] 38)) hst.2 (by intro e; injection e with e; omega))
      have HB2 : Hid (Below w.heap.size w ((wr.alloc (.cells #[.string x1, .string x2, .bool x3, .slice Ap np cp, .slice Ak nk ck, .slice Ar nr cr] 38)).setCell ⟨w.heap.size + 1, k, none⟩ (.string x1))) := Lib.hid ((HB.out.alloc hsz _).setCell (p := ⟨w.heap.size + 1, k, none⟩) (Nat.le_succ _) _)
      clear hlf hat VV hx hxs hown hown2 hst hset hgk hel HO HX
      go_wp2_with fail
      go_roundw
      case rel => exact ⟨k + 1, by go_num, by omega, HX2, HO2, HB2⟩
      case measure => simp [intOf]; omega
    · have hkn : k = nc := by omega
      obtain ⟨xs, hxs, hown⟩ := HO.out
      have HOs : Hid (OwnS wr (w.heap.size + 1) (.slice (some ⟨w.heap.size + 1, 0, none⟩) nc nc) NM) := Lib.hid (by
        obtain rfl : xs = [] := List.length_eq_zero_iff.1 (by omega)
        rw [List.append_nil, List.take_of_length_le (by have := HNl.out; omega)] at hown
        unfold OwnS
        rw [HNl.out]; exact hown)
      clear hown hxs HO
      go_wp2_with fail
      refine (sort_ownS wr (w.heap.size + 1) nc (w.heap.size + 1) nc NM HOs.out HNl.out hn).mono ?_
      rintro e w2 ⟨rfl, ho2, hg2⟩
      have HB2 : Hid (Below w.heap.size w w2) := Lib.hid (below_grows (v := .slice (some ⟨w.heap.size + 1, 0, none⟩) nc nc) HB.out hg2 (OwnS.num HOs.out HNl.out) (Nat.le_succ _))
      have HO2 := Lib.hid ho2
      clear ho2 hg2
      go_wp2_with fail
      refine (compact_ownS w2 (w.heap.size + 1) nc (w.heap.size + 1) nc (sortS NM) HO2.out (by rw [sortS_len, HNl.out]) hn).mono ?_
      rintro e w3 ⟨rfl, ho3, hg3⟩
      have HB3 : Hid (Below w.heap.size w w3) := Lib.hid (below_grows (v := .slice (some ⟨w.heap.size + 1, 0, none⟩) nc nc) HB2.out hg3 (OwnS.num HO2.out (by rw [sortS_len, HNl.out])) (Nat.le_succ _))
      have HO3 : Hid (OwnS w3 w.heap.size (.slice (some ⟨w.heap.size + 1, 0, none⟩) (Lib.compact (sortS NM)).length nc) (namesV NM)) := Lib.hid (by rw [← compact_sort]; exact own_mono ho3 (Nat.le_succ _))
      clear ho3 hg3
      go_wp2_with fail
      go_ret
      exact ⟨_, rfl, HO3.out, HB3.out⟩
end Go.Proofs.Ytbnjblejbnapgaa

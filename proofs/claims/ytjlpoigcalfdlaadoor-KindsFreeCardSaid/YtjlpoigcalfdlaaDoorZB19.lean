/-
  NAMES IN ORDER, each once; the variables of an expression that no loop binds: plain mathematics.
-/
import Derived.Test.YtjlpoigcalfdlaaDoorZB18
import Derived.Lib.SlicesCompact
import Derived.Lib.RowBridge
namespace Go.Proofs.YtjlpoigcalfdlaaDoor
open Go Go.RowKit
set_option linter.unusedVariables false
abbrev Bys := List UInt8
theorem bys_irrefl (a : Bys) : ¬ a < a := List.lt_irrefl a
theorem bys_trans {a b c : Bys} (h : a < b) (h' : b < c) : a < c := List.lt_trans h h'
theorem bys_tri (a b : Bys) : a < b ∨ a = b ∨ b < a := by
  by_cases h1 : a < b
  · exact .inl h1
  · by_cases h2 : b < a
    · exact .inr (.inr h2)
    · exact .inr (.inl (List.le_antisymm (List.not_lt.1 h2) (List.not_lt.1 h1)))
theorem bys_le {a b : Bys} : a ≤ b ↔ a < b ∨ a = b := by
  constructor
  · intro h
    rcases bys_tri a b with h1 | h1 | h1
    · exact .inl h1
    · exact .inr h1
    · exact absurd h1 (List.not_lt.2 h)
  · rintro (h | rfl)
    · exact List.not_lt.1 (fun h' => bys_irrefl _ (bys_trans h h'))
    · exact List.not_lt.1 (bys_irrefl _)
abbrev Up (l : List Bys) : Prop := l.Pairwise (· < ·)
/-- lists that rise and have the same members are one -/
theorem up_eq : ∀ {l m : List Bys}, Up l → Up m → (∀ x, x ∈ l ↔ x ∈ m) → l = m
  | [], [], _, _, _ => rfl
  | [], y :: m, _, _, h => absurd ((h y).2 List.mem_cons_self) (by simp)
  | x :: l, [], _, _, h => absurd ((h x).1 List.mem_cons_self) (by simp)
  | x :: l, y :: m, hl, hm, h => by
    obtain ⟨hx, hl'⟩ := List.pairwise_cons.1 hl
    obtain ⟨hy, hm'⟩ := List.pairwise_cons.1 hm
    have e : x = y := by
      rcases List.mem_cons.1 ((h x).1 List.mem_cons_self) with e | e
      · exact e
      · rcases List.mem_cons.1 ((h y).2 List.mem_cons_self) with e' | e'
        · exact e'.symm
        · exact absurd (bys_trans (hy _ e) (hx _ e')) (bys_irrefl _)
    subst e
    congr 1
    refine up_eq hl' hm' fun z => ⟨fun hz => ?_, fun hz => ?_⟩
    · rcases List.mem_cons.1 ((h z).1 (List.mem_cons_of_mem _ hz)) with e | e
      · subst e; exact absurd (hx _ hz) (bys_irrefl _)
      · exact e
    · rcases List.mem_cons.1 ((h z).2 (List.mem_cons_of_mem _ hz)) with e | e
      · subst e; exact absurd (hy _ hz) (bys_irrefl _)
      · exact e
/-- a name put in its place, unless it stands there -/
def insN (s : Bys) : List Bys → List Bys
  | [] => [s]
  | x :: r => if x < s then x :: insN s r else if x = s then x :: r else s :: x :: r
theorem insN_mem (s z : Bys) : ∀ l, z ∈ insN s l ↔ z = s ∨ z ∈ l
  | [] => by simp [insN]
  | x :: r => by
    unfold insN
    split
    · rw [List.mem_cons, insN_mem s z r, List.mem_cons]; constructor <;> rintro (h | h | h) <;> simp [h]
    · split
      · rename_i h; subst h; simp
      · simp
theorem insN_up (s : Bys) : ∀ {l}, Up l → Up (insN s l)
  | [], _ => by simp [insN, Up]
  | x :: r, h => by
    obtain ⟨hx, hr⟩ := List.pairwise_cons.1 h
    unfold insN
    split
    · rename_i h1
      refine List.pairwise_cons.2 ⟨fun z hz => ?_, insN_up s hr⟩
      rcases (insN_mem s z r).1 hz with rfl | hz
      · exact h1
      · exact hx z hz
    · split
      · exact h
      · rename_i h1 h2
        refine List.pairwise_cons.2 ⟨fun z hz => ?_, h⟩
        have hsx : s < x := by
          rcases bys_tri s x with h3 | h3 | h3
          · exact h3
          · exact absurd h3.symm h2
          · exact absurd h3 h1
        rcases List.mem_cons.1 hz with rfl | hz
        · exact hsx
        · exact bys_trans hsx (hx z hz)
def namesV (B : List Bys) : List Bys := B.foldl (fun acc s => insN s acc) []
theorem names_fold : ∀ (B acc : List Bys), Up acc → Up (B.foldl (fun acc s => insN s acc) acc) ∧ ∀ z, z ∈ B.foldl (fun acc s => insN s acc) acc ↔ z ∈ acc ∨ z ∈ B
  | [], acc, h => ⟨h, by simp⟩
  | s :: B, acc, h => by
    obtain ⟨h1, h2⟩ := names_fold B (insN s acc) (insN_up s h)
    refine ⟨h1, fun z => ?_⟩
    rw [List.foldl_cons, h2, insN_mem, List.mem_cons]
    constructor
    · rintro ((h | h) | h) <;> simp [h]
    · rintro (h | h | h) <;> simp [h]
/-- what compact leaves of a list that does not fall -/
theorem compact_up {d : Array Bys} (hd : ∀ i j, i ≤ j → j < d.size → d[i]! ≤ d[j]!) : ∀ m, m ≤ d.size → Up (Lib.compactUpTo d m) ∧ ∀ z, z ∈ Lib.compactUpTo d m ↔ ∃ j, j < m ∧ d[j]! = z
  | 0, _ => ⟨by simp [Lib.compactUpTo, Up], by simp [Lib.compactUpTo]⟩
  | m + 1, h => by
    obtain ⟨h1, h2⟩ := compact_up hd m (by omega)
    rw [Lib.compactUpTo_succ]
    cases hk : Lib.keeps d m with
    | true =>
      rw [if_pos rfl]
      refine ⟨List.pairwise_append.2 ⟨h1, by simp, fun a ha b hb => ?_⟩, fun z => ?_⟩
      · rw [List.mem_singleton] at hb
        subst hb
        obtain ⟨j, hj, rfl⟩ := (h2 a).1 ha
        have hm : d[m - 1]! ≠ d[m]! := by
          intro e
          have := Lib.keeps_neg (d := d) (m := m) (by omega) e.symm
          rw [hk] at this; cases this
        have h3 : d[j]! ≤ d[m - 1]! := hd j (m - 1) (by omega) (by omega)
        have h4 : d[m - 1]! ≤ d[m]! := hd (m - 1) m (by omega) (by omega)
        have h5 : d[m - 1]! < d[m]! := (bys_le.1 h4).resolve_right hm
        rcases bys_le.1 h3 with h6 | h6
        · exact bys_trans h6 h5
        · rw [h6]; exact h5
      · rw [List.mem_append, h2, List.mem_singleton]
        constructor
        · rintro (⟨j, hj, e⟩ | e)
          · exact ⟨j, by omega, e⟩
          · exact ⟨m, by omega, e.symm⟩
        · rintro ⟨j, hj, e⟩
          rcases Nat.lt_or_ge j m with hj' | hj'
          · exact .inl ⟨j, hj', e⟩
          · exact .inr (by rw [← e, show j = m by omega])
    | false =>
      rw [if_neg (by simp), List.append_nil]
      refine ⟨h1, fun z => ?_⟩
      rw [h2]
      have hm : 0 < m ∧ d[m]! = d[m - 1]! := by
        rcases Nat.eq_zero_or_pos m with h0 | h0
        · subst h0; have := Lib.keeps_lt_one d 0 (by omega); rw [hk] at this; cases this
        · refine ⟨h0, Classical.byContradiction fun hne => ?_⟩
          have := Lib.keeps_pos hne; rw [hk] at this; cases this
      constructor
      · rintro ⟨j, hj, e⟩; exact ⟨j, by omega, e⟩
      · rintro ⟨j, hj, e⟩
        rcases Nat.lt_or_ge j m with hj' | hj'
        · exact ⟨j, hj', e⟩
        · exact ⟨m - 1, by omega, by rw [← hm.2, ← e, show j = m by omega]⟩
theorem sorted_le {l : List Bys} (h : l.Pairwise (· ≤ ·)) : ∀ i j, i ≤ j → j < l.toArray.size → l.toArray[i]! ≤ l.toArray[j]! := by
  intro i j hij hj
  have hj' : j < l.length := by simpa using hj
  have e1 : l.toArray[i]! = l[i]'(by omega) := by simp [show i < l.length by omega]
  have e2 : l.toArray[j]! = l[j] := by simp [hj']
  rw [e1, e2]
  rcases Nat.lt_or_ge i j with h1 | h1
  · exact List.pairwise_iff_getElem.1 h i j (by omega) hj' h1
  · have : i = j := by omega
    subst this
    exact bys_le.2 (.inr rfl)
/-- sorted and compacted: the names in order, each once -/
theorem compact_sort (B : List Bys) : Lib.compact (B.mergeSort fun x y => decide (x ≤ y)) = namesV B := by
  obtain ⟨S, hS⟩ : ∃ S, (B.mergeSort fun x y => decide (x ≤ y)) = S := ⟨_, rfl⟩
  have hp : S.Pairwise (· ≤ ·) := by
    rw [← hS]
    have := List.pairwise_mergeSort (le := fun x y : Bys => decide (x ≤ y)) (fun a b c h1 h2 => by
      simp only [decide_eq_true_eq] at h1 h2 ⊢
      exact List.le_trans h1 h2) (fun a b => by
      simp only [Bool.or_eq_true, decide_eq_true_eq]
      exact List.le_total a b) B
    exact this.imp (by intro a b h; simpa using h)
  have hm : ∀ z, z ∈ S ↔ z ∈ B := fun z => by rw [← hS]; exact List.mem_mergeSort
  rw [hS]
  obtain ⟨h1, h2⟩ := compact_up (sorted_le hp) S.length (by simp)
  obtain ⟨h3, h4⟩ := names_fold B [] (by simp [Up])
  refine up_eq h1 h3 fun z => ?_
  show z ∈ Lib.compactUpTo _ _ ↔ z ∈ List.foldl (fun acc s => insN s acc) [] B
  rw [h2, h4, ← hm]
  constructor
  · rintro ⟨j, hj, e⟩
    right
    have : S.toArray[j]! = S[j] := by simp [hj]
    rw [this] at e
    rw [← e]
    exact List.getElem_mem hj
  · rintro (h | h)
    · simp at h
    · obtain ⟨j, hj, e⟩ := List.getElem_of_mem h
      refine ⟨j, hj, ?_⟩
      have : S.toArray[j]! = S[j] := by simp [hj]
      rw [this, e]
theorem namesV_up (B : List Bys) : Up (namesV B) := (names_fold B [] (by simp [Up])).1
theorem namesV_mem (B : List Bys) (z : Bys) : z ∈ namesV B ↔ z ∈ B := by
  have := (names_fold B [] (by simp [Up])).2 z
  unfold namesV
  rw [this]
  simp
def above (lst : Option Bys) (s : Bys) : Prop := ∀ t, lst = some t → t < s
def under (acc : Option Bys) (s : Bys) : Prop := ∀ t, acc = some t → s < t
open Classical in
noncomputable def pick (lst acc : Option Bys) (s : Bys) : Option Bys := if above lst s ∧ under acc s then some s else acc
theorem pick_yes {lst acc : Option Bys} {s : Bys} (h : above lst s) (h' : under acc s) : pick lst acc s = some s := by unfold pick; rw [if_pos ⟨h, h'⟩]
theorem pick_no {lst acc : Option Bys} {s : Bys} (h : ¬ (above lst s ∧ under acc s)) : pick lst acc s = acc := by unfold pick; rw [if_neg h]
/-- the least of a list above another one: what it is -/
def LeastN (lst : Option Bys) (D : List Bys) (r : Option Bys) : Prop := match r with
  | none => ∀ s ∈ D, ¬ above lst s
  | some x => x ∈ D ∧ above lst x ∧ ∀ s ∈ D, above lst s → ¬ s < x
theorem least_nil (lst : Option Bys) : LeastN lst [] none := fun s hs => by cases hs
theorem least_more {lst : Option Bys} {D : List Bys} {r : Option Bys} (h : LeastN lst D r) (s : Bys) : LeastN lst (D ++ [s]) (pick lst r s) := by
  by_cases ha : above lst s
  · cases r with
    | none =>
      rw [pick_yes ha (fun t ht => by cases ht)]
      refine ⟨by simp, ha, fun z hz hz2 => ?_⟩
      rcases List.mem_append.1 hz with hz | hz
      · exact absurd hz2 (h z hz)
      · rw [List.mem_singleton] at hz; subst hz; exact bys_irrefl _
    | some x =>
      obtain ⟨h1, h2, h3⟩ := h
      by_cases hu : s < x
      · rw [pick_yes ha (fun t ht => by rw [← Option.some.inj ht]; exact hu)]
        refine ⟨by simp, ha, fun z hz hz2 hlt => ?_⟩
        rcases List.mem_append.1 hz with hz | hz
        · exact h3 z hz hz2 (bys_trans hlt hu)
        · rw [List.mem_singleton] at hz; subst hz; exact bys_irrefl _ hlt
      · rw [pick_no (fun h => hu (h.2 x rfl))]
        refine ⟨List.mem_append_left _ h1, h2, fun z hz hz2 => ?_⟩
        rcases List.mem_append.1 hz with hz | hz
        · exact h3 z hz hz2
        · rw [List.mem_singleton] at hz; subst hz; exact hu
  · rw [pick_no (fun h => ha h.1)]
    cases r with
    | none =>
      intro z hz
      rcases List.mem_append.1 hz with hz | hz
      · exact h z hz
      · rw [List.mem_singleton] at hz; subst hz; exact ha
    | some x =>
      obtain ⟨h1, h2, h3⟩ := h
      refine ⟨List.mem_append_left _ h1, h2, fun z hz hz2 => ?_⟩
      rcases List.mem_append.1 hz with hz | hz
      · exact h3 z hz hz2
      · rw [List.mem_singleton] at hz; subst hz; exact absurd hz2 ha
/-- the last one of the first k -/
def lastOf (U : List Bys) (k : Nat) : Option Bys := if k = 0 then none else U[k - 1]?
theorem up_lt {U : List Bys} (hu : Up U) {i j : Nat} {a b : Bys} (ha : U[i]? = some a) (hb : U[j]? = some b) (h : i < j) : a < b := by
  obtain ⟨hi, rfl⟩ := List.getElem?_eq_some_iff.1 ha
  obtain ⟨hj, rfl⟩ := List.getElem?_eq_some_iff.1 hb
  exact List.pairwise_iff_getElem.1 hu i j hi hj h
theorem above_iff {U : List Bys} (hu : Up U) {k j : Nat} {x : Bys} (hk : k ≤ U.length) (hx : U[j]? = some x) : above (lastOf U k) x ↔ k ≤ j := by
  unfold lastOf
  by_cases h0 : k = 0
  · rw [if_pos h0]; exact ⟨fun _ => by omega, fun _ t ht => by cases ht⟩
  · rw [if_neg h0]
    obtain ⟨y, hy⟩ : ∃ y, U[k - 1]? = some y := ⟨U[k - 1]'(by omega), List.getElem?_eq_getElem _⟩
    constructor
    · intro h
      have h1 := h y hy
      rcases Nat.lt_or_ge j k with hj | hj
      · exfalso
        rcases Nat.lt_or_ge j (k - 1) with h2 | h2
        · exact bys_irrefl _ (bys_trans h1 (up_lt hu hx hy h2))
        · have : j = k - 1 := by omega
          subst this
          rw [hx] at hy
          obtain rfl := Option.some.inj hy
          exact bys_irrefl _ h1
      · exact hj
    · intro h t ht
      rw [hy] at ht
      obtain rfl := Option.some.inj ht
      exact up_lt hu hy hx (by omega)
theorem least_is {U D : List Bys} (hu : Up U) (hm : ∀ z, z ∈ U ↔ z ∈ D) {k : Nat} (hk : k ≤ U.length) {r : Option Bys} (h : LeastN (lastOf U k) D r) : r = U[k]? := by
  have hin : ∀ z, z ∈ D → ∃ j, U[j]? = some z := fun z hz => List.mem_iff_getElem?.1 ((hm z).2 hz)
  cases hk2 : U[k]? with
  | none =>
    cases r with
    | none => rfl
    | some x =>
      obtain ⟨h1, h2, _⟩ := h
      obtain ⟨j, hj⟩ := hin x h1
      have := (above_iff hu hk hj).1 h2
      have h3 := (List.getElem?_eq_some_iff.1 hj).1
      have h4 := List.getElem?_eq_none_iff.1 hk2
      omega
  | some y =>
    have hy : y ∈ D := (hm y).1 (List.mem_of_getElem? hk2)
    have hya : above (lastOf U k) y := (above_iff hu hk hk2).2 (Nat.le_refl _)
    cases r with
    | none => exact absurd hya (h y hy)
    | some x =>
      obtain ⟨h1, h2, h3⟩ := h
      obtain ⟨j, hj⟩ := hin x h1
      have hkj := (above_iff hu hk hj).1 h2
      rcases Nat.lt_or_ge k j with h4 | h4
      · exact absurd (up_lt hu hk2 hj h4) (h3 y hy hya)
      · have : j = k := by omega
        subst this
        rw [hk2] at hj
        exact hj.symm
namespace Fo
/-- of each node: is it a variable that isn't bound there? -/
def fl : Fo → (Nat → Bnd) → List Bool
  | nil, _ => []
  | cons k s _ a r, e => (k == 7 && !(e 0).contains s.data.toList) :: (fl a (inner k s (e 0)) ++ fl r (fun j => e (j + 1)))
end Fo
theorem fl_len : ∀ (f : Fo) (e : Nat → Bnd), (f.fl e).length = f.size
  | .nil, _ => rfl
  | .cons k s i a r, e => by simp only [Fo.fl, Fo.size, List.length_cons, List.length_append, fl_len a, fl_len r]; omega
theorem post_fl : ∀ (f : Fo) (p : Nat) (e : Nat → Bnd) (i : Nat) (b : Bool), (i, b) ∈ f.post p e ↔ p ≤ i ∧ (f.fl e)[i - p]? = some b
  | .nil, p, e, i, b => by simp [Fo.post, Fo.fl]
  | .cons k s n a r, p, e, i, b => by
    simp only [Fo.post, Fo.fl, List.mem_append, List.mem_cons, Prod.mk.injEq]
    rw [post_fl a, post_fl r]
    have hl := fl_len a (inner k s (e 0))
    have hr := fl_len r (fun j => e (j + 1))
    constructor
    · rintro (⟨h1, h2⟩ | ⟨rfl, rfl⟩ | ⟨h1, h2⟩)
      · have h3 := (List.getElem?_eq_some_iff.1 h2).1
        refine ⟨by omega, ?_⟩
        rw [show i - p = (i - (p + 1)) + 1 from by omega, List.getElem?_cons_succ, List.getElem?_append_left h3]; exact h2
      · exact ⟨Nat.le_refl _, by rw [Nat.sub_self]; rfl⟩
      · refine ⟨by omega, ?_⟩
        rw [show i - p = (i - (p + 1)) + 1 from by omega, List.getElem?_cons_succ, List.getElem?_append_right (by omega), hl, show i - (p + 1) - a.size = i - (p + 1 + a.size) from by omega]; exact h2
    · rintro ⟨h1, h2⟩
      by_cases h0 : i = p
      · subst h0
        rw [Nat.sub_self, List.getElem?_cons_zero, Option.some.injEq] at h2
        exact .inr (.inl ⟨rfl, h2.symm⟩)
      · rw [show i - p = (i - (p + 1)) + 1 from by omega, List.getElem?_cons_succ] at h2
        rcases Nat.lt_or_ge (i - (p + 1)) a.size with h3 | h3
        · rw [List.getElem?_append_left (by omega)] at h2
          exact .inl ⟨by omega, h2⟩
        · rw [List.getElem?_append_right (by omega), hl, show i - (p + 1) - a.size = i - (p + 1 + a.size) from by omega] at h2
          exact .inr (.inr ⟨by omega, h2⟩)
/-- what is bound at a node, and whether it is a variable that isn't -/
theorem fl_at (l : List EN) : ∀ (f : Fo) (p : Nat) (e : Nat → Bnd), At l p f → EnvF l p f e → ∀ i, p ≤ i → i < p + f.size → ∃ (n : EN) (b : Bnd), l[i]? = some n ∧ EnvAt l i b ∧ (f.fl e)[i - p]? = some (n.kind == 7 && !b.contains n.text.data.toList)
  | .nil, p, e, _, _, i, h1, h2 => by simp only [Fo.size] at h2; omega
  | .cons k s nn a r, p, e, ⟨t1, t2, t3⟩, ⟨g1, g2, g3⟩, i, h1, h2 => by
    simp only [Fo.size] at h2
    simp only [Fo.fl]
    have hl := fl_len a (inner k s (e 0))
    by_cases h0 : i = p
    · subst h0
      exact ⟨_, e 0, t1, g1, by rw [Nat.sub_self]; rfl⟩
    · by_cases h3 : i < p + 1 + a.size
      · obtain ⟨n, b, q1, q2, q3⟩ := fl_at l a (p + 1) _ t2 g2 i (by omega) h3
        refine ⟨n, b, q1, q2, ?_⟩
        rw [show i - p = (i - (p + 1)) + 1 from by omega, List.getElem?_cons_succ, List.getElem?_append_left (by omega)]; exact q3
      · obtain ⟨n, b, q1, q2, q3⟩ := fl_at l r (p + 1 + a.size) _ t3 g3 i (by omega) (by omega)
        refine ⟨n, b, q1, q2, ?_⟩
        rw [show i - p = (i - (p + 1)) + 1 from by omega, List.getElem?_cons_succ, List.getElem?_append_right (by omega), hl, show i - (p + 1) - a.size = i - (p + 1 + a.size) from by omega]; exact q3
def nameAt (l : List EN) (i : Nat) : Bys := (l[i]?.map (fun n => n.text.data.toList)).getD []
/-- the names of those of a list of nodes that are free -/
def freeOf (l : List EN) (xs : List (Nat × Bool)) : List Bys := xs.filterMap fun x => if x.2 = true then some (nameAt l x.1) else none
theorem freeOf_app (l : List EN) (xs ys : List (Nat × Bool)) : freeOf l (xs ++ ys) = freeOf l xs ++ freeOf l ys := List.filterMap_append
/-- .. of the first i nodes -/
def freeTo (l : List EN) (fs : List Bool) (i : Nat) : List Bys := (List.range i).filterMap fun j => if fs[j]? = some true then some (nameAt l j) else none
theorem freeTo_yes {l : List EN} {fs : List Bool} {i : Nat} (h : fs[i]? = some true) : freeTo l fs (i + 1) = freeTo l fs i ++ [nameAt l i] := by
  unfold freeTo; rw [List.range_succ, List.filterMap_append]; simp [h]
theorem freeTo_no {l : List EN} {fs : List Bool} {i : Nat} (h : fs[i]? ≠ some true) : freeTo l fs (i + 1) = freeTo l fs i := by
  unfold freeTo; rw [List.range_succ, List.filterMap_append]; simp [h]
theorem free_mem (l : List EN) (f : Fo) (e : Nat → Bnd) (z : Bys) : z ∈ freeOf l (f.post 0 e) ↔ z ∈ freeTo l (f.fl e) f.size := by
  unfold freeOf freeTo
  simp only [List.mem_filterMap, List.mem_range]
  constructor
  · rintro ⟨⟨i, b⟩, h1, h2⟩
    simp only at h2
    split at h2
    · rename_i hb
      subst hb
      have := (post_fl f 0 e i true).1 h1
      rw [Nat.sub_zero] at this
      exact ⟨i, by rw [← fl_len f e]; exact (List.getElem?_eq_some_iff.1 this.2).1, by rw [if_pos this.2]; exact h2⟩
    · cases h2
  · rintro ⟨i, h1, h2⟩
    split at h2
    · rename_i hb
      exact ⟨(i, true), (post_fl f 0 e i true).2 ⟨Nat.zero_le _, by rw [Nat.sub_zero]; exact hb⟩, by simpa using h2⟩
    · cases h2
/-- what Free tells: the names, the error -/
def freeV (l : List EN) : List Bys × Int :=
  if rightV l ≠ 0 then ([], rightV l) else
    match wholeV l with
    | none => ([], 0)
    | some f => (namesV (freeOf l (f.post 0 (fun _ => []))), 0)
theorem freeV_bad {l : List EN} (h : rightV l ≠ 0) : freeV l = ([], rightV l) := by unfold freeV; rw [if_pos h]
theorem freeV_tree {l : List EN} {f : Fo} (h0 : rightV l = 0) (h : Tree l f) : freeV l = (namesV (freeOf l (f.post 0 (fun _ => []))), 0) := by
  unfold freeV
  rw [if_neg (by simp [h0]), h.whole]
theorem insN_len (s : Bys) : ∀ l : List Bys, (insN s l).length ≤ l.length + 1
  | [] => by simp [insN]
  | x :: r => by
    unfold insN
    split
    · have := insN_len s r; simp only [List.length_cons]; omega
    · split <;> simp
theorem namesV_len (B : List Bys) : (namesV B).length ≤ B.length := by
  unfold namesV
  suffices h : ∀ (B acc : List Bys), (B.foldl (fun acc s => insN s acc) acc).length ≤ acc.length + B.length by simpa using h B []
  intro B
  induction B with
  | nil => intro acc; simp
  | cons s B ih =>
    intro acc
    rw [List.foldl_cons, List.length_cons]
    have := ih (insN s acc)
    have := insN_len s acc
    omega
theorem freeOf_len (l : List EN) (xs : List (Nat × Bool)) : (freeOf l xs).length ≤ xs.length := List.length_filterMap_le _ _
end Go.Proofs.YtjlpoigcalfdlaaDoor

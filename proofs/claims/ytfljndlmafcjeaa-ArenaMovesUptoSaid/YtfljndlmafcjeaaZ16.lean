/-
  WALKS: the program's own: what it lays is new for each node, and has no room behind it.
  WALKS: what is below a node, who refers to it, as the program tells them.
  WALKS: Find of the program.
  WALKS: nameable; changed, whatever is done to the node.
  WALKS: where among a node's properties, its references, a name is, or would be: the program's binary search.
  WALKS: slices.Delete of one element of a list of a node's own, in place.
  MEMORY: the block of one node's properties, or references, turns.
  WALKS: changed in one; Drop and Loose.
  WALKS: a node is moved: the program's.
  WALKS: a node is put into a model that lacks it among its kids: both sides, from what admits and may tell.
-/
import Derived.Test.YtfljndlmafcjeaaZ15
import Derived.Lib.AppendZerosOnto
namespace Go.Proofs.Ytfljndlmafcjeaa
open Go Go.RowKit Go.Sort
set_option linter.unusedVariables false
attribute [local go_sem ↓] Go.wp_at_zero Go.wp_at_succ
/-- lists without room; an empty one is nil -/
structure Tight (M : Leaf) : Prop where
  pc : M.p.c = M.p.n
  kc : M.k.c = M.k.n
  rc : M.r.c = M.r.n
  p0 : M.p.n = 0 → M.p.A = none
  k0 : M.k.n = 0 → M.k.A = none
  r0 : M.r.n = 0 → M.r.A = none
def NoClash (s s' : Sl) : Prop := ∀ g, s.v.ownBlock = some g → s'.v.ownBlock ≠ some g
/-- no two nodes' lists lie in one block -/
structure Dist (l : List (Nd × Leaf)) : Prop where
  tight : ∀ p ∈ l, Tight p.2
  apart : ∀ (i j : Nat) p q, i ≠ j → l[i]? = some p → l[j]? = some q → NoClash p.2.p q.2.p ∧ NoClash p.2.r q.2.r
theorem Dist.push {l : List (Nd × Leaf)} {p : Nd × Leaf} {X X' : World} {B : Nat} (h : Dist l) (hl : ∀ q ∈ l, OwnLeaf X B q.1 q.2) (hp : OwnLeaf X' X.heap.size p.1 p.2) (ht : Tight p.2) : Dist (l ++ [p]) := by
  have old : ∀ q ∈ l, NoClash q.2.p p.2.p ∧ NoClash q.2.r p.2.r ∧ NoClash p.2.p q.2.p ∧ NoClash p.2.r q.2.r := by
    intro q hq
    have ho := hl q hq
    refine ⟨fun g h1 h2 => ?_, fun g h1 h2 => ?_, fun g h1 h2 => ?_, fun g h1 h2 => ?_⟩
    · have := own_lt ho.p h1; have := own_base hp.p h2; omega
    · have := own_lt ho.r h1; have := own_base hp.r h2; omega
    · have := own_lt ho.p h2; have := own_base hp.p h1; omega
    · have := own_lt ho.r h2; have := own_base hp.r h1; omega
  have last : ∀ (i : Nat) q, (l ++ [p])[i]? = some q → (i < l.length ∧ l[i]? = some q) ∨ (i = l.length ∧ q = p) := by
    intro i q hq
    rcases Nat.lt_or_ge i l.length with hi | hi
    · rw [List.getElem?_append_left hi] at hq; exact .inl ⟨hi, hq⟩
    · rw [List.getElem?_append_right hi] at hq
      have h0 : i - l.length = 0 := by
        rcases Nat.eq_zero_or_pos (i - l.length) with h0 | h0
        · exact h0
        · rw [List.getElem?_eq_none (by simp; omega)] at hq; cases hq
      rw [h0] at hq
      exact .inr ⟨by omega, by simpa using hq.symm⟩
  refine ⟨fun q hq => ?_, fun i j q r hij hq hr => ?_⟩
  · rcases List.mem_append.1 hq with hq | hq
    · exact h.tight q hq
    · obtain rfl : q = p := by simpa using hq
      exact ht
  · rcases last i q hq with ⟨h1, h2⟩ | ⟨h1, rfl⟩ <;> rcases last j r hr with ⟨h3, h4⟩ | ⟨h3, rfl⟩
    · exact h.apart i j q r hij h2 h4
    · have := old q (List.mem_of_getElem? h2); exact ⟨this.1, this.2.1⟩
    · have := old r (List.mem_of_getElem? h4); exact ⟨this.2.2.1, this.2.2.2⟩
    · omega
end Go.Proofs.Ytfljndlmafcjeaa
namespace Go.Proofs.Ytfljndlmafcjeaa
open Go Go.RowKit Go.Sort
set_option linter.unusedVariables false
attribute [local go_sem ↓] Go.wp_at_zero Go.wp_at_succ
/-- the boxes of a model and of a number -/
structure MI (w : World) (next : Int) (A : Option Addr) (n c : Nat) (z : Int) (X : World) : Prop where
  m : M1 w next A n c X
  i : Blk X (w.heap.size + 1) 3 #[.int .i64 z]
theorem MI.start (w : World) (next : Int) (A : Option Addr) (n c : Nat) (z : Int) : MI w next A n c z ((w.alloc (.cells #[.int .i64 next, .slice A n c] 24)).alloc (.cells #[.int .i64 z] 3)) :=
  ⟨⟨(Blk.new _ _ _).alloc _, below_more (below_more (Below.refl _ _) _) _⟩, Blk.new' (by simp)⟩
theorem MI.after {w X X' : World} {next z : Int} {A : Option Addr} {n c : Nat} (h : MI w next A n c z X) (hb : Below X.heap.size X X') : MI w next A n c z X' := ⟨h.m.after hb, h.i.after hb⟩
end Go.Proofs.Ytfljndlmafcjeaa
namespace Go.Proofs.Ytfljndlmafcjeaa
open Go Go.RowKit Go.Sort
set_option linter.unusedVariables false
attribute [local go_sem ↓] Go.wp_at_zero Go.wp_at_succ
/-- the boxes of a model and of a node -/
structure FB (w : World) (next : Int) (A : Option Addr) (n c : Nat) (X : World) : Prop where
  m : Blk X w.heap.size 24 #[.int .i64 next, .slice A n c]
  r : ∃ cs, cs.size = 7 ∧ Blk X (w.heap.size + 1) 44 cs
  bel : Below w.heap.size w X
section
variable {w X X' : World} {next : Int} {A : Option Addr} {n c : Nat}
theorem FB.start (w : World) (next : Int) (A : Option Addr) (n c : Nat) : FB w next A n c ((w.alloc (.cells #[.int .i64 next, .slice A n c] 24)).alloc (.cells #[.int .i64 0, .string ⟨#[]⟩, .int .i64 0, .string ⟨#[]⟩, .slice none 0 0, .slice none 0 0, .slice none 0 0] 44)) :=
  ⟨(Blk.new _ _ _).alloc _, ⟨_, by simp, Blk.new' (by simp)⟩, below_more (below_more (Below.refl _ _) _) _⟩
theorem FB.after (h : FB w next A n c X) (hb : Below X.heap.size X X') : FB w next A n c X' := by
  obtain ⟨h1, ⟨cs, h0, h2⟩, h3⟩ := h
  exact ⟨h1.after hb, ⟨cs, h0, h2.after hb⟩, h3.trans (hb.mono h3.size)⟩
theorem FB.room (h : FB w next A n c X) (j : Nat) (hj : j < 7) : (∃ u, X.cell? ⟨w.heap.size + 1, j, none⟩ = some u) ∧ X.frozen? ⟨w.heap.size + 1, j, none⟩ = false := by
  obtain ⟨h1, ⟨cs, h0, h2⟩, h3⟩ := h
  exact ⟨⟨cs[j]'(by omega), (h2.cell j).trans (Array.getElem?_eq_getElem (by omega))⟩, h2.frozen j⟩
theorem FB.set (h : FB w next A n c X) (i : Nat) (u : Value) : FB w next A n c (X.setCell ⟨w.heap.size + 1, i, none⟩ u) := by
  obtain ⟨h1, ⟨cs, h0, h2⟩, h3⟩ := h
  exact ⟨h1.far (p := ⟨w.heap.size + 1, i, none⟩) (by simp) u, ⟨_, by simpa using h0, h2.set_ i u⟩, h3.setCell (p := ⟨w.heap.size + 1, i, none⟩) (by simp) u⟩
theorem FB.leaf (h : FB w next A n c X) {nd : Nd} {M : Leaf} (hl : OwnLeaf X w.heap.size nd M) (i : Nat) (u : Value) : OwnLeaf (X.setCell ⟨w.heap.size + 1, i, none⟩ u) w.heap.size nd M := by
  obtain ⟨h1, ⟨cs, h0, h2⟩, h3⟩ := h
  exact hl.other h2 (by decide) (by decide) (by decide) i u
/-- a node is laid into the box -/
theorem FB.lay (h : FB w next A n c X) {nd : Nd} {M : Leaf} (hl : OwnLeaf X w.heap.size nd M) (u0 u1 u2 u3 u4 u5 u6 : Value) :
    OwnLeaf (((((((X.setCell ⟨w.heap.size + 1, 0, none⟩ u0).setCell ⟨w.heap.size + 1, 1, none⟩ u1).setCell ⟨w.heap.size + 1, 2, none⟩ u2).setCell ⟨w.heap.size + 1, 3, none⟩ u3).setCell ⟨w.heap.size + 1, 4, none⟩ u4).setCell ⟨w.heap.size + 1, 5, none⟩ u5).setCell ⟨w.heap.size + 1, 6, none⟩ u6) w.heap.size nd M ∧
    Below w.heap.size w (((((((X.setCell ⟨w.heap.size + 1, 0, none⟩ u0).setCell ⟨w.heap.size + 1, 1, none⟩ u1).setCell ⟨w.heap.size + 1, 2, none⟩ u2).setCell ⟨w.heap.size + 1, 3, none⟩ u3).setCell ⟨w.heap.size + 1, 4, none⟩ u4).setCell ⟨w.heap.size + 1, 5, none⟩ u5).setCell ⟨w.heap.size + 1, 6, none⟩ u6) :=
  ⟨((((((h.set 0 u0).set 1 u1).set 2 u2).set 3 u3).set 4 u4).set 5 u5).leaf ((((((h.set 0 u0).set 1 u1).set 2 u2).set 3 u3).set 4 u4).leaf (((((h.set 0 u0).set 1 u1).set 2 u2).set 3 u3).leaf ((((h.set 0 u0).set 1 u1).set 2 u2).leaf (((h.set 0 u0).set 1 u1).leaf ((h.set 0 u0).leaf (h.leaf hl 0 u0) 1 u1) 2 u2) 3 u3) 4 u4) 5 u5) 6 u6,
    (((((((h.set 0 u0).set 1 u1).set 2 u2).set 3 u3).set 4 u4).set 5 u5).set 6 u6).bel⟩
end
end Go.Proofs.Ytfljndlmafcjeaa
namespace Go.Proofs.Ytfljndlmafcjeaa
open Go Go.RowKit Go.Sort
set_option linter.unusedVariables false
attribute [local go_sem ↓] Go.wp_at_zero Go.wp_at_succ
/-- the boxes of a model, and of what is answered -/
structure CB (w : World) (next : Int) (A : Option Addr) (n c : Nat) (X : World) : Prop where
  m : Blk X w.heap.size 24 #[.int .i64 next, .slice A n c]
  r : Blk X (w.heap.size + 1) 24 #[.int .i64 0, .slice none 0 0]
  bel : Below w.heap.size w X
section
variable {w X X' : World} {next : Int} {A : Option Addr} {n c : Nat}
theorem CB.start (w : World) (next : Int) (A : Option Addr) (n c : Nat) : CB w next A n c ((w.alloc (.cells #[.int .i64 next, .slice A n c] 24)).alloc (.cells #[.int .i64 0, .slice none 0 0] 24)) :=
  ⟨(Blk.new _ _ _).alloc _, Blk.new' (by simp), below_more (below_more (Below.refl _ _) _) _⟩
theorem CB.after (h : CB w next A n c X) (hb : Below X.heap.size X X') : CB w next A n c X' := ⟨h.m.after hb, h.r.after hb, h.bel.trans (hb.mono h.bel.size)⟩
theorem CB.m1 (h : CB w next A n c X) : M1 w next A n c X := ⟨h.m, h.bel⟩
theorem CB.lay (h : CB w next A n c X) (u v : Value) : Below w.heap.size w ((X.setCell ⟨w.heap.size + 1, 0, none⟩ u).setCell ⟨w.heap.size + 1, 1, none⟩ v) :=
  (h.bel.setCell (p := ⟨w.heap.size + 1, 0, none⟩) (by simp) u).setCell (p := ⟨w.heap.size + 1, 1, none⟩) (by simp) v
end
end Go.Proofs.Ytfljndlmafcjeaa
namespace Go.Proofs.Ytfljndlmafcjeaa
open Go Go.RowKit Go.Sort
set_option linter.unusedVariables false
attribute [local go_sem ↓] Go.wp_at_zero Go.wp_at_succ
/-- names that rise -/
def SortS (ks : List ByteArray) : Prop := ∀ (i j : Nat) a b, i < j → ks[i]? = some a → ks[j]? = some b → ltS a b = true
/-- the place of a name among names that rise, and whether it is there -/
def rankS (ks : List ByteArray) (s : ByteArray) : Nat := ks.countP (fun k => ltS k s)
def foundS (ks : List ByteArray) (s : ByteArray) : Bool := ks.any (fun k => k.toList == s.toList)
structure HalfS (ks : List ByteArray) (s : ByteArray) (l h : Nat) : Prop where
  le : l ≤ h
  len : h ≤ ks.length
  lo : ∀ (i : Nat) k, i < l → ks[i]? = some k → ltS k s = true
  hi : ∀ (i : Nat) k, h ≤ i → ks[i]? = some k → ltS k s = false
theorem HalfS.start (ks : List ByteArray) (s : ByteArray) (n : Nat) (hn : ks.length = n) : HalfS ks s 0 n :=
  ⟨Nat.zero_le _, by omega, fun i k h => absurd h (by omega), fun i k h hk => by rw [List.getElem?_eq_none (by omega)] at hk; cases hk⟩
theorem HalfS.up {ks : List ByteArray} {s k : ByteArray} {l h m : Nat} (H : HalfS ks s l h) (hs : SortS ks) (hm : ks[m]? = some k) (h1 : m < h) (hlt : ltS k s = true) : HalfS ks s (m + 1) h :=
  ⟨by omega, H.len, fun i x hi hx => by
    rcases Nat.lt_or_ge i m with h2 | h2
    · exact less_trans (hs i m x k h2 hx hm) hlt
    · obtain rfl : i = m := by omega
      rw [hm] at hx; cases hx; exact hlt, H.hi⟩
theorem HalfS.down {ks : List ByteArray} {s k : ByteArray} {l h m : Nat} (H : HalfS ks s l h) (hs : SortS ks) (hm : ks[m]? = some k) (h1 : l ≤ m) (h2 : m < h) (hge : ltS k s = false) : HalfS ks s l m :=
  ⟨h1, by have := H.len; omega, H.lo, fun i x hi hx => by
    rcases Nat.lt_or_ge m i with h3 | h3
    · cases hx2 : ltS x s with
      | false => rfl
      | true =>
        have := less_trans (hs m i k x h3 hm hx) hx2
        unfold ltS at hge
        rw [hge] at this; cases this
    · obtain rfl : i = m := by omega
      rw [hm] at hx; cases hx; exact hge⟩
theorem HalfS.rank {ks : List ByteArray} {s : ByteArray} {k : Nat} (H : HalfS ks s k k) : rankS ks s = k := by
  have hk := H.len
  unfold rankS
  have e : ks = ks.take k ++ ks.drop k := (List.take_append_drop k ks).symm
  rw [e, List.countP_append]
  have h1 : List.countP (fun x => ltS x s) (ks.take k) = (ks.take k).length := by
    rw [List.countP_eq_length]
    intro a ha
    obtain ⟨i, hi⟩ := List.getElem?_of_mem ha
    rw [List.getElem?_take] at hi
    split at hi
    · exact H.lo i a (by assumption) hi
    · cases hi
  have h2 : List.countP (fun x => ltS x s) (ks.drop k) = 0 := by
    rw [List.countP_eq_zero]
    intro a ha
    obtain ⟨i, hi⟩ := List.getElem?_of_mem ha
    rw [List.getElem?_drop] at hi
    have := H.hi (k + i) a (by omega) hi
    rw [this]; simp
  rw [h1, h2, List.length_take]
  omega
theorem HalfS.none {ks : List ByteArray} {s : ByteArray} {k : Nat} (H : HalfS ks s k k) (hk : ks.length ≤ k) : foundS ks s = false := by
  unfold foundS
  rw [List.any_eq_false]
  intro x hx
  obtain ⟨i, hi⟩ := List.getElem?_of_mem hx
  have h1 := H.lo i x (by have := (List.getElem?_eq_some_iff.1 hi).1; omega) hi
  intro e
  have := str_eq.1 (eq_of_beq e)
  subst this
  unfold ltS at h1
  rw [less_irrefl] at h1; cases h1
theorem HalfS.at_ {ks : List ByteArray} {s x : ByteArray} {k : Nat} (H : HalfS ks s k k) (hs : SortS ks) (hx : ks[k]? = some x) : (x = s → foundS ks s = true) ∧ (x ≠ s → foundS ks s = false) := by
  refine ⟨fun e => ?_, fun hne => ?_⟩
  · unfold foundS
    exact List.any_eq_true.2 ⟨x, List.mem_of_getElem? hx, by rw [e]; simp⟩
  · unfold foundS
    rw [List.any_eq_false]
    intro y hy e
    have := str_eq.1 (eq_of_beq e)
    subst this
    obtain ⟨i, hi⟩ := List.getElem?_of_mem hy
    rcases Nat.lt_trichotomy i k with h1 | h1 | h1
    · have h2 := H.lo i y h1 hi
      unfold ltS at h2
      rw [less_irrefl] at h2; cases h2
    · subst h1
      rw [hx] at hi; cases hi; exact hne rfl
    · have h2 := hs k i x y h1 hx hi
      rw [H.hi k x (Nat.le_refl _) hx] at h2; cases h2
end Go.Proofs.Ytfljndlmafcjeaa
namespace Go.Proofs.Ytfljndlmafcjeaa
open Go Go.RowKit Go.Sort
set_option linter.unusedVariables false
attribute [local go_sem ↓] Go.wp_at_zero Go.wp_at_succ
section
variable {P : Program} (w : World)
end
theorem wpList_clear_run {P : Program} {w : World} {ops : Array Oper} {rest : List Oper} {o : Oper} {a : Act} {Q : Exit → Act → World → Prop} (hgd : o.guard = none) (s : Operand) (t : TypeId)
    (ho : o.op = .call { callee := .builtin .clear, args := #[s], argTypes := #[t] }) (vs : Value) (hs : a.eval s = vs) (v' : Value) (w' : World)
    (hrun : (Builtin.clear_ #[t] o.type #[vs]).run P w = .ok v' w') (h : wpList P ops Q rest (a.put o.dst v') w') : wpList P ops Q (o :: rest) a w := by
  refine wpList_plain hgd fun K hK => ?_
  unfold Oper.wp
  simp [execOp, ho, resolve, invoke, builtin, hs, hrun, Result.andThen]
  exact hK _ _ h
end Go.Proofs.Ytfljndlmafcjeaa
namespace Go.Proofs.Ytfljndlmafcjeaa
open Go Go.RowKit Go.Sort
set_option linter.unusedVariables false
/-- what holds besides one node -/
structure Beside (w : World) (B : Nat) (v : Value) (l : List (Nd × Leaf)) (i : Nat) : Prop where
  own : OwnN w B v l
  leaf : ∀ (j : Nat) q, j ≠ i → l[j]? = some q → OwnLeaf w B q.1 q.2
section
variable {w w' : World} {B : Nat} {v : Value} {l : List (Nd × Leaf)} {i : Nat} {p : Nd × Leaf} {gp : Nat}
/-- a cell of that node is stored, and the rest of it holds -/
theorem Beside.store {n c g j : Nat} {q : Nd × Leaf} {u : Value} (h : Beside w B (.slice (some ⟨g, 0, none⟩) n c) l i) (hn : l.length = n) (hp : l[i]? = some p) (hj : j < 7) (hq : (ndCells p).set j u = ndCells q) (hl : OwnLeaf w B q.1 q.2) :
    OwnM (w.setCell ⟨g, i * 7 + j, none⟩ u) B (.slice (some ⟨g, 0, none⟩) n c) (l.set i q) := by
  subst hn
  have h1 : w.ownsRow B 44 7 (.slice (some ⟨g, 0, none⟩) l.length c) l.length (allCells l) := h.own
  obtain ⟨cs, hg, _, _⟩ := own_blk h1
  have h2 := (World.ownsRow.stored h1 (i * 7 + j) u).1
  rw [allCells_set hp hj hq] at h2
  refine ⟨?_, fun x hx => ?_⟩
  · unfold OwnN
    rw [List.length_set]
    exact h2
  · obtain ⟨k, hk⟩ := List.getElem?_of_mem hx
    rw [List.getElem?_set] at hk
    split at hk
    · split at hk
      · cases hk; exact hl.other hg (by decide) (by decide) (by decide) _ u
      · cases hk
    · exact (h.leaf k x (by omega) hk).other hg (by decide) (by decide) (by decide) _ u
end
end Go.Proofs.Ytfljndlmafcjeaa
namespace Go.Proofs.Ytfljndlmafcjeaa
open Go Go.RowKit Go.Sort
set_option linter.unusedVariables false
attribute [local go_sem ↓] Go.wp_at_zero Go.wp_at_succ
/-- a model or an error is answered -/
def SetPost (w : World) (next : Int) (er : Int) (nds' : List Nd) (e : Ending) (w' : World) : Prop :=
  ∃ nx A n c, e = .returned (.tuple #[.agg #[.int .i64 nx, .slice A n c], .int .i64 er]) ∧ Below w.heap.size w w' ∧ (er ≠ 0 → nx = 0 ∧ A = none ∧ n = 0 ∧ c = 0) ∧ (er = 0 → nx = next ∧ ∃ l, OwnM w' w.heap.size (.slice A n c) l ∧ l.length = n ∧ l.map (·.1) = nds')
end Go.Proofs.Ytfljndlmafcjeaa
namespace Go.Proofs.Ytfljndlmafcjeaa
open Go Go.RowKit Go.Sort
set_option linter.unusedVariables false
attribute [local go_sem ↓] Go.wp_at_zero Go.wp_at_succ
/-- the error that is told -/
def moveE (next : Int) (nds : List Nd) (id parent : Int) (role : ByteArray) (at_ : Int) : Int :=
  if rightB next nds = false then 29 else if (parent == 0 || wordB role) = false then 2 else if (ndOf nds id).isNone = true then 20 else if (preI nds id).contains parent = true then 21
  else (admV next (takeL nds id) parent role at_ (hiV nds id) 0).2
/-- a node that stands nowhere is put there -/
def putL (t : List Nd) (id parent : Int) (role : ByteArray) (a : Nat) : List Nd :=
  match ndOf t id with
  | none => t
  | some p => if parent = 0 then t.set ((ixOf t id).getD 0) { p with par := parent, role := role } else match ndOf t parent with
    | none => t
    | some x => (t.set ((ixOf t id).getD 0) { p with par := parent, role := role }).set ((ixOf t parent).getD 0) { x with kids := insAt x.kids a id }
def moveL (next : Int) (nds : List Nd) (id parent : Int) (role : ByteArray) (at_ : Int) : List Nd := putL (takeL nds id) id parent role (admV next (takeL nds id) parent role at_ (hiV nds id) 0).1.toNat
theorem mv_err {w w' : World} {next er : Int} {nds' : List Nd} (he : er ≠ 0) (h : Below w.heap.size w w') : SetPost w next er nds' (.returned (.tuple #[.agg #[.int .i64 0, .slice none 0 0], .int .i64 er])) w' :=
  ⟨0, none, 0, 0, rfl, h, fun _ => ⟨rfl, rfl, rfl, rfl⟩, fun h0 => absurd h0 he⟩
section
variable {w X X' : World} {parent at_ next nx : Int} {role : ByteArray} {A : Option Addr} {n c gs go g m cg : Nat} {l l' : List (Nd × Leaf)}
theorem AO.turned (h : AO w parent role at_ next A n c gs go nx (.slice (some ⟨g, 0, none⟩) m cg) l X) (ho : OwnM X' w.heap.size (.slice (some ⟨g, 0, none⟩) m cg) l') (hg : X.grownBy X' (some g)) : AO w parent role at_ next A n c gs go nx (.slice (some ⟨g, 0, none⟩) m cg) l' X' :=
  ⟨h.ab.kept h.own.own hg, h.out.grown hg (Ne.symm (own_blk_ne h.own.own h.out (by decide))), ho, h.le, h.n1, h.n2⟩
end
set_option maxRecDepth 20000 in
set_option maxHeartbeats 1600000 in
theorem move_e29 (w : World) (hi : Nat) (next id parent at_ : Int) (role : ByteArray) (A : Option Addr) (n c : Nat) (nds : List Nd) (h : NodesIn w 0 hi A n c nds) (hh : hi ≤ w.heap.size) (hs : role.size ≤ maxLen) (hr : rightB next nds = false) :
    Calls Try.prog 6 #[.agg #[.int .i64 next, .slice A n c], .int .i64 id, .int .i64 parent, .string role, .int .i64 at_] w (SetPost w next (moveE next nds id parent role at_) (moveL next nds id parent role at_)) := by
  have hres : Try.f6.results = #[.cell 10 24, .tmp 11] := by kernel_rfl
  have HA0 := Lib.hid (A0.start w next A n c)
  have HCk : Hid (∀ X, Below w.heap.size w X → Calls Try.prog 14 #[.agg #[.int .i64 next, .slice A n c]] X (Ret X (.int .i64 (checkV next nds)))) := Lib.hid fun X hX => check_any X hi next A n c nds (h.below (hX.mono hh)) (Nat.le_trans hh hX.size)
  have HE : Hid (moveE next nds id parent role at_ = 29) := Lib.hid (by unfold moveE; rw [if_pos hr])
  have hcv : checkV next nds = 29 := by unfold checkV; rw [hr]; rfl
  rw [hcv] at HCk
  clear h hcv hr
  go_enter Try.func6, Try.ntmps6
  go_wp2_with (go_at_call 14; (with_reducible refine (HCk.out _ HA0.out.bel).mono ?_); go_must (rintro e w1 ⟨rfl, hb1⟩; have ha1 := HA0.out.after hb1; have ar0 := ha1.r.cell 0; have ar1 := ha1.r.cell 1; have ar2 := ha1.r.frozen 0; have ar3 := ha1.r.frozen 1; have am0 := ha1.m.cell 0; have am1 := ha1.m.cell 1; simp at ar0 ar1 am0 am1; have HA1 := Lib.hid ha1; clear ha1 hb1))
  (try rw [Exit.noGoto_ret])
  (try simp only [Exit.inBlock, Exit.then])
  refine bodyPost_ret (v := .tuple #[.agg #[.int .i64 0, .slice none 0 0], .int .i64 29]) ?hr rfl ?_
  case hr =>
    simp only [results, hres]
    go_simp
  rw [HE.out]
  exact mv_err (by decide) (HA1.out.bel.setCell (p := ⟨w.heap.size + 1, 0, none⟩) (by simp) _ |>.setCell (p := ⟨w.heap.size + 1, 1, none⟩) (by simp) _)
set_option maxRecDepth 20000 in
set_option maxHeartbeats 1600000 in
theorem move_e2 (w : World) (hi : Nat) (next id parent at_ : Int) (role : ByteArray) (A : Option Addr) (n c : Nat) (nds : List Nd) (h : NodesIn w 0 hi A n c nds) (hh : hi ≤ w.heap.size) (hs : role.size ≤ maxLen) (hr : rightB next nds = true) (hw : (parent == 0 || wordB role) = false) :
    Calls Try.prog 6 #[.agg #[.int .i64 next, .slice A n c], .int .i64 id, .int .i64 parent, .string role, .int .i64 at_] w (SetPost w next (moveE next nds id parent role at_) (moveL next nds id parent role at_)) := by
  have hres : Try.f6.results = #[.cell 10 24, .tmp 11] := by kernel_rfl
  have HA0 := Lib.hid (A0.start w next A n c)
  have HCk : Hid (∀ X, Below w.heap.size w X → Calls Try.prog 14 #[.agg #[.int .i64 next, .slice A n c]] X (Ret X (.int .i64 (checkV next nds)))) := Lib.hid fun X hX => check_any X hi next A n c nds (h.below (hX.mono hh)) (Nat.le_trans hh hX.size)
  have HE : Hid (moveE next nds id parent role at_ = 2) := Lib.hid (by unfold moveE; rw [if_neg (by rw [hr]; simp), if_pos hw])
  have hcv : checkV next nds = 0 := by unfold checkV; rw [hr]; rfl
  rw [hcv] at HCk
  have HNm : Hid (∀ X, Calls Try.prog 15 #[.agg #[.int .i64 parent, .string role, .int .i64 at_]] X (Ret X (.bool false))) := Lib.hid fun X => named_any X parent at_ role hs false hw
  clear h hcv hr hw
  go_enter Try.func6, Try.ntmps6
  go_upto_region 5 with (go_at_call 14; (with_reducible refine (HCk.out _ HA0.out.bel).mono ?_); go_must (rintro e w1 ⟨rfl, hb1⟩; have ha1 := HA0.out.after hb1; have ar0 := ha1.r.cell 0; have ar1 := ha1.r.cell 1; have ar2 := ha1.r.frozen 0; have ar3 := ha1.r.frozen 1; have am0 := ha1.m.cell 0; have am1 := ha1.m.cell 1; simp at ar0 ar1 am0 am1; have HA1 := Lib.hid ha1; clear ha1 hb1))
  have HB := Lib.hid (HA1.out.spot parent role at_)
  generalize w1.alloc (.cells #[.int .i64 parent, .string role, .int .i64 at_] 51) = X5 at HB ⊢
  generalize w1.heap.size = gs at HB ⊢
  clear ar0 ar1 ar2 ar3 am0 am1
  have b0 := HB.out.r.cell 0
  have b1 := HB.out.r.cell 1
  have b2 := HB.out.r.frozen 0
  have b3 := HB.out.r.frozen 1
  have b4 := HB.out.s.cell 0
  have b5 := HB.out.s.cell 1
  have b6 := HB.out.s.cell 2
  have b7 := HB.out.m.cell 0
  have b8 := HB.out.m.cell 1
  simp at b0 b1 b4 b5 b6 b7 b8
  go_wp2_with (go_at_call 15; (with_reducible refine (HNm.out _).mono ?_); go_must (rintro e w2 ⟨rfl, hb2⟩; have hb2' := HB.out.after hb2; have pr0 := hb2'.r.cell 0; have pr1 := hb2'.r.cell 1; have pr2 := hb2'.r.frozen 0; have pr3 := hb2'.r.frozen 1; have pm0 := hb2'.m.cell 0; have pm1 := hb2'.m.cell 1; simp at pr0 pr1 pm0 pm1; have ps0 := hb2'.s.cell 0; have ps1 := hb2'.s.cell 1; have ps2 := hb2'.s.cell 2; simp at ps0 ps1 ps2; have HB2 := Lib.hid hb2'; clear hb2 hb2'))
  (try rw [Exit.noGoto_ret])
  (try simp only [Exit.inBlock, Exit.then])
  refine bodyPost_ret (v := .tuple #[.agg #[.int .i64 0, .slice none 0 0], .int .i64 2]) ?hr rfl ?_
  case hr =>
    simp only [results, hres]
    go_simp
  rw [HE.out]
  exact mv_err (by decide) (HB2.out.bel.setCell (p := ⟨w.heap.size + 1, 0, none⟩) (by simp) _ |>.setCell (p := ⟨w.heap.size + 1, 1, none⟩) (by simp) _)
set_option maxRecDepth 20000 in
set_option maxHeartbeats 1600000 in
theorem move_e20 (w : World) (hi : Nat) (next id parent at_ : Int) (role : ByteArray) (A : Option Addr) (n c : Nat) (nds : List Nd) (h : NodesIn w 0 hi A n c nds) (hh : hi ≤ w.heap.size) (hs : role.size ≤ maxLen) (hr : rightB next nds = true) (hw : (parent == 0 || wordB role) = true) (hx : ndOf nds id = none) :
    Calls Try.prog 6 #[.agg #[.int .i64 next, .slice A n c], .int .i64 id, .int .i64 parent, .string role, .int .i64 at_] w (SetPost w next (moveE next nds id parent role at_) (moveL next nds id parent role at_)) := by
  have hres : Try.f6.results = #[.cell 10 24, .tmp 11] := by kernel_rfl
  have HA0 := Lib.hid (A0.start w next A n c)
  have HCk : Hid (∀ X, Below w.heap.size w X → Calls Try.prog 14 #[.agg #[.int .i64 next, .slice A n c]] X (Ret X (.int .i64 (checkV next nds)))) := Lib.hid fun X hX => check_any X hi next A n c nds (h.below (hX.mono hh)) (Nat.le_trans hh hX.size)
  have hrm := rightM hr
  have hcv : checkV next nds = 0 := by unfold checkV; rw [hr]; rfl
  rw [hcv] at HCk
  have hn4 : n ≤ 4096 := by rw [← h.1]; exact hrm.len
  have HNm : Hid (∀ X, Calls Try.prog 15 #[.agg #[.int .i64 parent, .string role, .int .i64 at_]] X (Ret X (.bool true))) := Lib.hid fun X => named_any X parent at_ role hs true hw
  have HHa : Hid (∀ X, Below w.heap.size w X → Calls Try.prog 16 #[.agg #[.int .i64 next, .slice A n c], .int .i64 id] X (Ret X (.bool false))) := Lib.hid fun X hX => by
    have h1 := has_any X hi next id A n c nds (h.below (hX.mono hh)) (Nat.le_trans hh hX.size) hrm.rise hn4
    rw [has_ndOf, hx] at h1
    exact h1
  have HE : Hid (moveE next nds id parent role at_ = 20) := Lib.hid (by unfold moveE; rw [if_neg (by rw [hr]; simp), if_neg (by rw [hw]; simp), if_pos (by rw [hx]; rfl)])
  clear h hcv hr hw hx hrm
  go_enter Try.func6, Try.ntmps6
  go_upto_region 5 with (go_at_call 14; (with_reducible refine (HCk.out _ HA0.out.bel).mono ?_); go_must (rintro e w1 ⟨rfl, hb1⟩; have ha1 := HA0.out.after hb1; have ar0 := ha1.r.cell 0; have ar1 := ha1.r.cell 1; have ar2 := ha1.r.frozen 0; have ar3 := ha1.r.frozen 1; have am0 := ha1.m.cell 0; have am1 := ha1.m.cell 1; simp at ar0 ar1 am0 am1; have HA1 := Lib.hid ha1; clear ha1 hb1))
  have HB := Lib.hid (HA1.out.spot parent role at_)
  generalize w1.alloc (.cells #[.int .i64 parent, .string role, .int .i64 at_] 51) = X5 at HB ⊢
  generalize w1.heap.size = gs at HB ⊢
  clear ar0 ar1 ar2 ar3 am0 am1
  have b0 := HB.out.r.cell 0
  have b1 := HB.out.r.cell 1
  have b2 := HB.out.r.frozen 0
  have b3 := HB.out.r.frozen 1
  have b4 := HB.out.s.cell 0
  have b5 := HB.out.s.cell 1
  have b6 := HB.out.s.cell 2
  have b7 := HB.out.m.cell 0
  have b8 := HB.out.m.cell 1
  simp at b0 b1 b4 b5 b6 b7 b8
  go_wp2_with (first | (go_at_call 15; (with_reducible refine (HNm.out _).mono ?_); go_must (rintro e w2 ⟨rfl, hb2⟩; have hb2' := HB.out.after hb2; have pr0 := hb2'.r.cell 0; have pr1 := hb2'.r.cell 1; have pr2 := hb2'.r.frozen 0; have pr3 := hb2'.r.frozen 1; have pm0 := hb2'.m.cell 0; have pm1 := hb2'.m.cell 1; simp at pr0 pr1 pm0 pm1; have ps0 := hb2'.s.cell 0; have ps1 := hb2'.s.cell 1; have ps2 := hb2'.s.cell 2; simp at ps0 ps1 ps2; have HB2 := Lib.hid hb2'; clear hb2 hb2')) | (go_at_call 16; (with_reducible refine (HHa.out _ HB2.out.bel).mono ?_); go_must (rintro e w3 ⟨rfl, hb3⟩; have hb3' := HB2.out.after hb3; have qr0 := hb3'.r.cell 0; have qr1 := hb3'.r.cell 1; have qr2 := hb3'.r.frozen 0; have qr3 := hb3'.r.frozen 1; have qm0 := hb3'.m.cell 0; have qm1 := hb3'.m.cell 1; simp at qr0 qr1 qm0 qm1; have qs0 := hb3'.s.cell 0; have qs1 := hb3'.s.cell 1; have qs2 := hb3'.s.cell 2; simp at qs0 qs1 qs2; have HB3 := Lib.hid hb3'; clear hb3 hb3')))
  (try rw [Exit.noGoto_ret])
  (try simp only [Exit.inBlock, Exit.then])
  refine bodyPost_ret (v := .tuple #[.agg #[.int .i64 0, .slice none 0 0], .int .i64 20]) ?hr rfl ?_
  case hr =>
    simp only [results, hres]
    go_simp
  rw [HE.out]
  exact mv_err (by decide) (HB3.out.bel.setCell (p := ⟨w.heap.size + 1, 0, none⟩) (by simp) _ |>.setCell (p := ⟨w.heap.size + 1, 1, none⟩) (by simp) _)
set_option maxRecDepth 20000 in
set_option maxHeartbeats 1600000 in
theorem move_e21 (w : World) (hi : Nat) (next id parent at_ : Int) (role : ByteArray) (A : Option Addr) (n c : Nat) (nds : List Nd) (h : NodesIn w 0 hi A n c nds) (hh : hi ≤ w.heap.size) (hs : role.size ≤ maxLen) (hr : rightB next nds = true) (hw : (parent == 0 || wordB role) = true) (nd : Nd) (hx : ndOf nds id = some nd) (hb : (preI nds id).contains parent = true) :
    Calls Try.prog 6 #[.agg #[.int .i64 next, .slice A n c], .int .i64 id, .int .i64 parent, .string role, .int .i64 at_] w (SetPost w next (moveE next nds id parent role at_) (moveL next nds id parent role at_)) := by
  have hres : Try.f6.results = #[.cell 10 24, .tmp 11] := by kernel_rfl
  have HA0 := Lib.hid (A0.start w next A n c)
  have HCk : Hid (∀ X, Below w.heap.size w X → Calls Try.prog 14 #[.agg #[.int .i64 next, .slice A n c]] X (Ret X (.int .i64 (checkV next nds)))) := Lib.hid fun X hX => check_any X hi next A n c nds (h.below (hX.mono hh)) (Nat.le_trans hh hX.size)
  have hrm := rightM hr
  have hcv : checkV next nds = 0 := by unfold checkV; rw [hr]; rfl
  rw [hcv] at HCk
  have hn4 : n ≤ 4096 := by rw [← h.1]; exact hrm.len
  have HNm : Hid (∀ X, Calls Try.prog 15 #[.agg #[.int .i64 parent, .string role, .int .i64 at_]] X (Ret X (.bool true))) := Lib.hid fun X => named_any X parent at_ role hs true hw
  have HHa : Hid (∀ X, Below w.heap.size w X → Calls Try.prog 16 #[.agg #[.int .i64 next, .slice A n c], .int .i64 id] X (Ret X (.bool true))) := Lib.hid fun X hX => by
    have h1 := has_any X hi next id A n c nds (h.below (hX.mono hh)) (Nat.le_trans hh hX.size) hrm.rise hn4
    rw [has_ndOf, hx] at h1
    exact h1
  have HBr : Hid (∀ X, Below w.heap.size w X → Calls Try.prog 18 #[.agg #[.int .i64 next, .slice A n c], .int .i64 id] X (ListR X (preI nds id))) := Lib.hid fun X hX => branch_any X hi next id A n c nds (h.below (hX.mono hh)) (Nat.le_trans hh hX.size) hrm nd hx
  obtain ⟨bq, hbq⟩ : ∃ b, (preI nds id).contains parent = b := ⟨_, rfl⟩
  have HCo : Hid (∀ X lo hi' Aq cq, Row X lo hi' 1 Aq (preI nds id).length cq (intCells (preI nds id)) → Calls Try.prog 17 #[.slice Aq (preI nds id).length cq, .int .i64 parent] X (Says X bq)) := Lib.hid fun X lo hi' Aq cq h1 => by rw [← hbq]; exact contains_int X lo hi' Aq _ cq _ parent h1
  have HE : Hid (moveE next nds id parent role at_ = 21) := Lib.hid (by unfold moveE; rw [if_neg (by rw [hr]; simp), if_neg (by rw [hw]; simp), if_neg (by rw [hx]; simp), if_pos hb])
  rw [hb] at hbq
  subst hbq
  clear h hcv hr hw hx hrm hb
  go_enter Try.func6, Try.ntmps6
  go_upto_region 5 with (go_at_call 14; (with_reducible refine (HCk.out _ HA0.out.bel).mono ?_); go_must (rintro e w1 ⟨rfl, hb1⟩; have ha1 := HA0.out.after hb1; have ar0 := ha1.r.cell 0; have ar1 := ha1.r.cell 1; have ar2 := ha1.r.frozen 0; have ar3 := ha1.r.frozen 1; have am0 := ha1.m.cell 0; have am1 := ha1.m.cell 1; simp at ar0 ar1 am0 am1; have HA1 := Lib.hid ha1; clear ha1 hb1))
  have HB := Lib.hid (HA1.out.spot parent role at_)
  generalize w1.alloc (.cells #[.int .i64 parent, .string role, .int .i64 at_] 51) = X5 at HB ⊢
  generalize w1.heap.size = gs at HB ⊢
  clear ar0 ar1 ar2 ar3 am0 am1
  have b0 := HB.out.r.cell 0
  have b1 := HB.out.r.cell 1
  have b2 := HB.out.r.frozen 0
  have b3 := HB.out.r.frozen 1
  have b4 := HB.out.s.cell 0
  have b5 := HB.out.s.cell 1
  have b6 := HB.out.s.cell 2
  have b7 := HB.out.m.cell 0
  have b8 := HB.out.m.cell 1
  simp at b0 b1 b4 b5 b6 b7 b8
  go_wp2_with (first | (go_at_call 15; (with_reducible refine (HNm.out _).mono ?_); go_must (rintro e w2 ⟨rfl, hb2⟩; have hb2' := HB.out.after hb2; have pr0 := hb2'.r.cell 0; have pr1 := hb2'.r.cell 1; have pr2 := hb2'.r.frozen 0; have pr3 := hb2'.r.frozen 1; have pm0 := hb2'.m.cell 0; have pm1 := hb2'.m.cell 1; simp at pr0 pr1 pm0 pm1; have ps0 := hb2'.s.cell 0; have ps1 := hb2'.s.cell 1; have ps2 := hb2'.s.cell 2; simp at ps0 ps1 ps2; have HB2 := Lib.hid hb2'; clear hb2 hb2')) | (go_at_call 16; (with_reducible refine (HHa.out _ HB2.out.bel).mono ?_); go_must (rintro e w3 ⟨rfl, hb3⟩; have hb3' := HB2.out.after hb3; have qr0 := hb3'.r.cell 0; have qr1 := hb3'.r.cell 1; have qr2 := hb3'.r.frozen 0; have qr3 := hb3'.r.frozen 1; have qm0 := hb3'.m.cell 0; have qm1 := hb3'.m.cell 1; simp at qr0 qr1 qm0 qm1; have qs0 := hb3'.s.cell 0; have qs1 := hb3'.s.cell 1; have qs2 := hb3'.s.cell 2; simp at qs0 qs1 qs2; have HB3 := Lib.hid hb3'; clear hb3 hb3')) | (go_at_call 18; (with_reducible refine (HBr.out _ HB3.out.bel).mono ?_); go_must (rintro e w4 ⟨vb, rfl, hvb, hb4⟩; obtain ⟨Ab, cb, rfl⟩ := own_form hvb; have HVB := Lib.hid (own_row hvb); have hb4' := HB3.out.after hb4; have tr0 := hb4'.r.cell 0; have tr1 := hb4'.r.cell 1; have tr2 := hb4'.r.frozen 0; have tr3 := hb4'.r.frozen 1; have tm0 := hb4'.m.cell 0; have tm1 := hb4'.m.cell 1; simp at tr0 tr1 tm0 tm1; have ts0 := hb4'.s.cell 0; have ts1 := hb4'.s.cell 1; have ts2 := hb4'.s.cell 2; simp at ts0 ts1 ts2; have HB4 := Lib.hid hb4'; clear hb4 hb4' hvb)) | (go_at_call 17; go_must (refine (HCo.out _ _ _ _ _ HVB.out).mono ?_; rintro e w5 ⟨rfl, rfl⟩)))
  (try rw [Exit.noGoto_ret])
  (try simp only [Exit.inBlock, Exit.then])
  refine bodyPost_ret (v := .tuple #[.agg #[.int .i64 0, .slice none 0 0], .int .i64 21]) ?hr rfl ?_
  case hr =>
    simp only [results, hres]
    go_simp
  rw [HE.out]
  exact mv_err (by decide) (HB4.out.bel.setCell (p := ⟨w.heap.size + 1, 0, none⟩) (by simp) _ |>.setCell (p := ⟨w.heap.size + 1, 1, none⟩) (by simp) _)
end Go.Proofs.Ytfljndlmafcjeaa
namespace Go.Proofs.Ytfljndlmafcjeaa
open Go Go.RowKit Go.Sort
set_option linter.unusedVariables false
theorem adm_lax {L M : Nat} {next : Int} {nds : List Nd} {parent : Int} {role : ByteArray} {at_ ri : Int} (hr : LaxM next nds) (h : admV next nds parent role at_ L M = (ri, 0)) :
    (parent ≠ 0 → ∃ x, ndOf nds parent = some x) ∧ (amV nds parent role at_).2 = true ∧ nds.length + M ≤ 4096 ∧ next - 1 + M ≤ 1048576 ∧
    (parent ≠ 0 → ∃ (x : Nd) (jj a : Nat), ndOf nds parent = some x ∧ ixOf nds parent = some jj ∧ nds[jj]? = some x ∧ x.id = parent ∧ ri = a ∧ a ≤ x.kids.length ∧ KOk nds x ∧ beforeV (inRoleB nds role) at_ x.kids = a) := by
  unfold admV at h
  split at h
  · cases h
  · rename_i h1
    split at h
    · cases h
    · rename_i h2
      split at h
      · cases h
      · split at h
        · cases h
        · rename_i h4
          split at h
          · cases h
          · rename_i h5
            have hri : (amV nds parent role at_).1 = ri := by injection h
            have h2' : (amV nds parent role at_).2 = true := by simpa using h2
            have hx : parent ≠ 0 → ∃ x, ndOf nds parent = some x := fun h0 => by
              cases hx : ndOf nds parent with
              | none => exact absurd ⟨h0, by rw [hx]; rfl⟩ h1
              | some x => exact ⟨x, rfl⟩
            refine ⟨hx, h2', by omega, by omega, fun h0 => ?_⟩
            obtain ⟨x, hx⟩ := hx h0
            obtain ⟨jj, j1, j2, j3⟩ := ndOf_some hx
            have hk := hr.kok _ (List.mem_of_getElem? j2)
            have hnd := hr.nodup _ (List.mem_of_getElem? j2)
            have e2 : amV nds parent role at_ = amongF (inRoleB nds role) at_ 0 x.kids.length 0 x.kids := by unfold amV; rw [if_neg h0, hx]
            obtain ⟨b1, b2⟩ := among_before (f := inRoleB nds role) (at_ := at_) hnd
            rw [e2] at h2' hri
            have b3 := b2 h2'
            rw [hri] at b3
            rw [h2'] at b1
            have b4 : beforeV (inRoleB nds role) at_ x.kids ≠ -1 := of_decide_eq_true b1.symm
            rcases before_range (inRoleB nds role) at_ x.kids with b5 | ⟨a, b5, b6⟩
            · exact absurd b5 b4
            · exact ⟨x, jj, a, hx, j1, j2, j3, by rw [b3, b5], b6, hk, b5⟩
theorem putL_root {t : List Nd} {id parent : Int} {role : ByteArray} {a i : Nat} {p : Nd} (hp : ndOf t id = some p) (hi : ixOf t id = some i) (h0 : parent = 0) : putL t id parent role a = t.set i { p with par := parent, role := role } := by
  simp only [putL, hp, hi, Option.getD_some, if_pos h0]
theorem putL_below {t : List Nd} {id parent : Int} {role : ByteArray} {a i jj : Nat} {p x : Nd} (hp : ndOf t id = some p) (hi : ixOf t id = some i) (h0 : parent ≠ 0) (hx : ndOf t parent = some x) (hj : ixOf t parent = some jj) : putL t id parent role a = (t.set i { p with par := parent, role := role }).set jj { x with kids := insAt x.kids a id } := by
  simp only [putL, hp, hi, hx, hj, Option.getD_some, if_neg h0]
theorem fold_le {α : Type} (f : α → Nat) (K : Nat) : ∀ (L : List α) (a : Nat), a ≤ K → (∀ y ∈ L, f y ≤ K) → L.foldl (fun a y => max a (f y)) a ≤ K
  | [], a, h, _ => h
  | y :: L, a, h, hL => fold_le f K L _ (Nat.max_le.2 ⟨h, hL y (List.mem_cons_self ..)⟩) (fun z hz => hL z (List.mem_cons_of_mem _ hz))
theorem hi_le {next : Int} {nds : List Nd} (hR : RightM next nds) {x : Int} {nd : Nd} (hx : ndOf nds x = some nd) : hiV nds x ≤ 64 := by
  unfold hiV
  refine fold_le _ 64 _ 0 (by omega) fun y _ => ?_
  have h1 := depthV_le nds y
  have h2 := (hR.depth hx).2.1
  omega
/-- a node that has a parent is among its kids -/
theorem in_kids {next : Int} {nds : List Nd} (hR : RightM next nds) {x : Int} {nd : Nd} (hx : ndOf nds x = some nd) (h0 : nd.par ≠ 0) : ∃ p, ndOf nds nd.par = some p ∧ x ∈ p.kids := by
  obtain ⟨i, _, hi, he⟩ := ndOf_some hx
  have hb := hR.below nd (List.mem_of_getElem? hi)
  rw [belowB, if_neg h0] at hb
  cases hp : ndOf nds nd.par with
  | none => rw [hp] at hb; cases hb
  | some p =>
    rw [hp] at hb
    simp only [Bool.and_eq_true] at hb
    have h1 := hb.1.2
    rw [he] at h1
    exact ⟨p, rfl, by simpa using h1⟩
theorem mem_self {nds : List Nd} (x : Int) : x ∈ preI nds x := by
  obtain ⟨r, hr⟩ := preI_cons nds x
  rw [hr]; exact List.mem_cons_self ..
theorem not_self {nds : List Nd} {id parent : Int} (h : (preI nds id).contains parent = false) : parent ≠ id := by
  rintro rfl
  have : (preI nds parent).contains parent = true := by simpa using mem_self (nds := nds) parent
  rw [h] at this; cases this
section
variable (w : World) (B : Nat) (next id parent at_ ri : Int) (role : ByteArray) (L M : Nat) (g n c : Nat) (l : List (Nd × Leaf)) (t : List Nd)
theorem put_ok (h : OwnM w B (.slice (some ⟨g, 0, none⟩) n c) l) (hn : l.length = n) (hm : l.map (·.1) = t) (hT : LaxM next t) (hs : role.size ≤ maxLen) (p : Nd) (hp : ndOf t id = some p) (hne : parent ≠ id) (ha : admV next t parent role at_ L M = (ri, 0)) (nx : Int) :
    Calls Try.prog 23 #[.agg #[.int .i64 nx, .slice (some ⟨g, 0, none⟩) n c], .int .i64 id, .agg #[.int .i64 parent, .string role, .int .i64 at_], .int .i64 ri] w (PutPost w B g n c (putL t id parent role ri.toNat)) := by
  subst hm
  have hn4 : n ≤ 4096 := by have := hT.len; rw [List.length_map] at this; omega
  obtain ⟨i, hix, hi, hie⟩ := ndOf_some hp
  rw [List.getElem?_map] at hi
  cases hl : l[i]? with
  | none => rw [hl] at hi; cases hi
  | some q =>
    rw [hl] at hi
    obtain rfl : q.1 = p := by simpa using hi
    by_cases h0 : parent = 0
    · refine put_any w B nx id ri parent at_ role g n c l h hn hn4 hT.rise i q hl hie hs 0 0 q.1 q.2 (fun h => absurd h0 h) _ ?_
      rw [putL_root hp hix h0, if_pos h0]
    · obtain ⟨_, _, _, _, hx⟩ := adm_lax hT ha
      obtain ⟨x, jj, a, j1, j2, j3, j4, j5, j6, j7, j8⟩ := hx h0
      have j3' := j3
      rw [List.getElem?_map] at j3
      cases hq : l[jj]? with
      | none => rw [hq] at j3; cases j3
      | some y =>
        rw [hq] at j3
        obtain rfl : y.1 = x := by simpa using j3
        have hji : jj ≠ i := by
          rintro rfl
          rw [hl] at hq
          injection hq with hq
          subst hq
          exact hne (by rw [← j4, hie])
        refine put_any w B nx id ri parent at_ role g n c l h hn hn4 hT.rise i q hl hie hs jj a y.1 y.2 (fun _ => ⟨hq, j4, hji, j6, j7.kl, j5⟩) _ ?_
        rw [putL_below hp hix h0 j1 j2, j5, Int.toNat_natCast, if_neg h0]
theorem refPut_ok (h : OwnM w B (.slice (some ⟨g, 0, none⟩) n c) l) (hn : l.length = n) (hm : l.map (·.1) = t) (hT : LaxM next t) (hs : role.size ≤ maxLen) (p : Nd) (hp : ndOf t id = some p) (hne : parent ≠ id) (ha : admV next t parent role at_ L M = (ri, 0)) (nx : Int) :
    Calls Try.prog 33 #[.agg #[.int .i64 nx, .slice (some ⟨g, 0, none⟩) n c], .int .i64 id, .int .i64 parent, .string role, .int .i64 at_] w (PutPost w B g n c (putL t id parent role ri.toNat)) := by
  subst hm
  have hn4 : n ≤ 4096 := by have := hT.len; rw [List.length_map] at this; omega
  obtain ⟨i, hix, hi, hie⟩ := ndOf_some hp
  rw [List.getElem?_map] at hi
  obtain ⟨_, hok, _, _, hx⟩ := adm_lax hT ha
  cases hl : l[i]? with
  | none => rw [hl] at hi; cases hi
  | some q =>
    rw [hl] at hi
    obtain rfl : q.1 = p := by simpa using hi
    by_cases h0 : parent = 0
    · subst h0
      have hro : role = ⟨#[]⟩ := by
        unfold amV at hok
        rw [if_pos rfl] at hok
        have h1 := (Bool.and_eq_true_iff.1 hok).1
        have h2 : role.toList = [] := by simpa using h1
        exact str_eq.1 (by rw [h2, toList_data])
      refine refPutRoot_any w B nx id at_ role g n c l h hn hn4 hT.rise i q hl hie hro _ ?_
      rw [putL_root hp hix rfl]
    · obtain ⟨x, jj, a, j1, j2, j3, j4, j5, j6, j7, j8⟩ := hx h0
      have j3' := j3
      rw [List.getElem?_map] at j3
      cases hq : l[jj]? with
      | none => rw [hq] at j3; cases j3
      | some y =>
        rw [hq] at j3
        obtain rfl : y.1 = x := by simpa using j3
        have hji : jj ≠ i := by
          rintro rfl
          rw [hl] at hq
          injection hq with hq
          subst hq
          exact hne (by rw [← j4, hie])
        refine refPut_any w B nx id parent at_ role g n c l h hn hn4 hT.rise i q hl hie hs jj a y.1 y.2 h0 hq j4 hji j6 j7 j8 _ ?_
        rw [putL_below hp hix h0 j1 j2, j5, Int.toNat_natCast]
end
end Go.Proofs.Ytfljndlmafcjeaa

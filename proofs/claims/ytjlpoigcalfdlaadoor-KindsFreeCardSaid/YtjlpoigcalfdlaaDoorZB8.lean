/-
  KINDS IN PLAIN MATHEMATICS: the nodes gone through one behind the other tell what the document tells.
  GENERIC: slices of parts with lists of their own; lists in own memory that grow. No program stands in it.
-/
import Derived.Test.YtjlpoigcalfdlaaDoorZB7
import Derived.Laws.OwnMore
import Derived.Laws.CopyRow
import Derived.Laws.IdiomCopy
import Derived.Deep.MidRow
namespace Go.Proofs.YtjlpoigcalfdlaaDoor
open Go
set_option linter.unusedVariables false
theorem Tree.whole {l : List EN} {f : Fo} (h : Tree l f) : wholeV l = some f := by
  have := at_takeV l f 0 h.at_
  rw [h.one] at this
  exact this
end Go.Proofs.YtjlpoigcalfdlaaDoor
namespace Go.Proofs.YtjlpoigcalfdlaaDoor
open Go Go.RowKit Go.Sort
set_option linter.unusedVariables false
/-- a slice of parts, each with lists of its own: l tells them with where their lists lie -/
structure GRow {γ : Type} (C : γ → List Value) (P : World → Nat → Nat → γ → Prop) (size : Nat) (w : World) (lo hi : Nat) (S : Sl) (l : List γ) : Prop where
  n : S.n = l.length
  row : Row w lo hi size S.A S.n S.c (l.flatMap C)
  all : ∀ g ∈ l, P w lo hi g
/-- what is kept by a world with more memory, and in wider bounds -/
structure Keep {γ : Type} (P : World → Nat → Nat → γ → Prop) : Prop where
  below : ∀ {w w' lo hi g}, P w lo hi g → Below hi w w' → P w' lo hi g
  mono : ∀ {w lo hi lo' hi' g}, P w lo hi g → lo' ≤ lo → hi ≤ hi' → P w lo' hi' g
section
variable {γ : Type} {C : γ → List Value} {P : World → Nat → Nat → γ → Prop} {size : Nat} {w w' : World} {lo hi : Nat} {S : Sl} {l : List γ}
theorem GRow.below (h : GRow C P size w lo hi S l) (hP : Keep P) (hb : Below hi w w') : GRow C P size w' lo hi S l := ⟨h.n, Row.below h.row hb, fun g hg => hP.below (h.all g hg) hb⟩
theorem GRow.mono (h : GRow C P size w lo hi S l) (hP : Keep P) {lo' hi' : Nat} (hl : lo' ≤ lo) (hh : hi ≤ hi') : GRow C P size w lo' hi' S l := ⟨h.n, Row.mono h.row hl hh, fun g hg => hP.mono (h.all g hg) hl hh⟩
theorem GRow.at_ (h : GRow C P size w lo hi S l) (hs : ∀ g, (C g).length = size) (hn : 0 < S.n) : ∃ b o, S.A = some ⟨b, o, none⟩ ∧ lo ≤ b ∧ b < hi ∧ ∀ i g, l[i]? = some g → P w lo hi g ∧ ∀ j u, j < size → (C g)[j]? = some u → w.cell? ⟨b, o + i * size + j, none⟩ = some u := by
  obtain ⟨b, o, e, h1, h2, hc⟩ := h.row.at_ hn
  refine ⟨b, o, e, h1, h2, fun i g hg => ⟨h.all g (List.mem_of_getElem? hg), fun j u hj hu => ?_⟩⟩
  have := hc (i * size + j) u (by rw [flatN_get hs l i g hg j hj]; exact hu)
  rw [← Nat.add_assoc] at this; exact this
end
theorem below_more {W w' : World} (h : Below W.heap.size W w') (o : Obj) : Below W.heap.size W (w'.alloc o) := h.alloc h.size o
theorem below_grows {W w' w'' : World} (h : Below W.heap.size W w') {v : Value} (hg : w'.grownBy w'' v.ownBlock) {e : TypeId} {size n B : Nat} {xs : List Value} (hown : w'.ownsRow B e size v n xs) (hB : W.heap.size ≤ B) : Below W.heap.size W w'' :=
  h.grown hg h.size (fun k hk => Nat.le_trans hB (World.ownsRow.lt hown k hk).1)
theorem drew1_below (w : World) : Below w.heap.size w w.drew := ⟨rfl, rfl, rfl, Nat.le_refl _, fun _ _ => rfl⟩
theorem below_of_alloc {X : World} (o : Obj) : Below X.heap.size X (X.alloc o) := below_more (Below.refl _ _) _
section
variable {w w' : World} {B size n : Nat} {e : TypeId} {v : Value} {xs : List Value}
theorem own_kept {e e' : TypeId} {size size' n n' B' : Nat} {v v' : Value} {xs xs' : List Value} (h : w.ownsRow B e size v n xs) (h' : w.ownsRow B' e' size' v' n' xs') (hne : e ≠ e') (hg : w.grownBy w' v'.ownBlock) : w'.ownsRow B e size v n xs :=
  World.ownsRow.kept h hg (own_own_ne h h' hne)
end
theorem own_emptyB {w : World} {B size g : Nat} {e : TypeId} (hg : Blk w g e #[]) (hB : B ≤ g) : w.ownsRow B e size (.slice (some ⟨g, 0, none⟩) 0 0) 0 [] := own_empty hg hB
theorem app_new {W X Y : World} {g size n : Nat} {e : TypeId} {v : Value} {xs : List Value} (hb : Below W.heap.size W X) (hg : Blk X g e #[]) (hle : W.heap.size ≤ g)
    (hown : Y.ownsRow W.heap.size e size v (0 + n) ([] ++ xs)) (hgr : X.grownBy Y (Value.ownBlock (.slice (some ⟨g, 0, none⟩) 0 0))) : ∃ A c, v = .slice A n c ∧ Y.ownsRow W.heap.size e size (.slice A n c) n xs ∧ Below W.heap.size W Y := by
  rw [Nat.zero_add, List.nil_append] at hown
  obtain ⟨A, c, rfl⟩ := own_form hown
  exact ⟨A, c, rfl, hown, below_grows hb hgr (own_emptyB (size := size) (B := W.heap.size) hg hle) (Nat.le_refl _)⟩
/-- what is kept while a list of such parts grows -/
structure OwnK {γ : Type} (O : World → Nat → γ → Prop) (T : TypeId) : Prop where
  after : ∀ {w w' B g}, O w B g → Below w.heap.size w w' → O w' B g
  kept : ∀ {w w' B B' g size n v xs}, O w B g → w.ownsRow B' T size v n xs → w.grownBy w' v.ownBlock → O w' B g
  mono : ∀ {w B B' g}, O w B g → B' ≤ B → O w B' g
/-- a part whose lists lie below k -/
def Below' {γ : Type} (C : γ → List Value) (k : Nat) (a : γ) : Prop := ∀ v ∈ C a, ∀ j, v.ownBlock = some j → j < k
/-- the parts' lists lie apart: those of a later part in blocks above those of the parts ahead of it -/
def Ap {γ : Type} (C : γ → List Value) (O : World → Nat → γ → Prop) (B : Nat) (l : List γ) (X : World) : Prop := l.Pairwise fun a b => ∃ k, B ≤ k ∧ Below' C k a ∧ O X k b
/-- a list of parts in own memory from B on -/
structure GL0 {γ : Type} (C : γ → List Value) (O : World → Nat → γ → Prop) (T : TypeId) (size B : Nat) (ov : Value) (l : List γ) (X : World) : Prop where
  own : X.ownsRow B T size ov l.length (l.flatMap C)
  leaf : ∀ g ∈ l, O X B g
/-- a list of parts that grows, in own memory from B on -/
structure GL {γ : Type} (C : γ → List Value) (O : World → Nat → γ → Prop) (T : TypeId) (size B : Nat) (ov : Value) (l : List γ) (X : World) : Prop extends GL0 C O T size B ov l X where
  ap : Ap C O B l X
section
variable {γ : Type} {C : γ → List Value} {O : World → Nat → γ → Prop} {T : TypeId} {size B : Nat} {ov v' : Value} {l : List γ} {X X' : World}
theorem Ap.after (h : Ap C O B l X) (hO : OwnK O T) (hb : Below X.heap.size X X') : Ap C O B l X' := List.Pairwise.imp (fun ⟨k, h0, h1, h2⟩ => ⟨k, h0, h1, hO.after h2 hb⟩) h
theorem GL.start (C : γ → List Value) (O : World → Nat → γ → Prop) (T : TypeId) (size B : Nat) (X : World) : GL C O T size B (.slice none 0 0) [] X := ⟨⟨⟨by simp, .inl ⟨rfl, rfl⟩⟩, by simp⟩, List.Pairwise.nil⟩
theorem GL.after (h : GL C O T size B ov l X) (hO : OwnK O T) (hb : Below X.heap.size X X') : GL C O T size B ov l X' := ⟨⟨own_after h.own hb, fun g hg => hO.after (h.leaf g hg) hb⟩, h.ap.after hO hb⟩
theorem GL.push (h : GL C O T size B ov l X) (hO : OwnK O T) {p : γ} (hg : X.grownBy X' ov.ownBlock) (hown : X'.ownsRow B T size v' (l.length + 1) (l.flatMap C ++ C p)) (hp : O X B p) {k : Nat} (hBk : B ≤ k) (hk : ∀ a ∈ l, Below' C k a) (hpk : O X k p) : GL C O T size B v' (l ++ [p]) X' := by
  refine ⟨⟨?_, fun q hq => ?_⟩, ?_⟩
  · rw [List.length_append, List.length_singleton, List.flatMap_append, List.flatMap_singleton]; exact hown
  · rcases List.mem_append.1 hq with hq | hq
    · exact hO.kept (h.leaf q hq) h.own hg
    · obtain rfl : q = p := by simpa using hq
      exact hO.kept hp h.own hg
  · refine List.pairwise_append.2 ⟨List.Pairwise.imp (fun ⟨k, h0, h1, h2⟩ => ⟨k, h0, h1, hO.kept h2 h.own hg⟩) h.ap, List.pairwise_singleton _ _, fun a ha b hb => ?_⟩
    obtain rfl : b = p := by simpa using hb
    exact ⟨k, hBk, hk a ha, hO.kept hpk h.own hg⟩
theorem GL0.toG {A : Option Addr} {n c : Nat} {P : World → Nat → Nat → γ → Prop} (h : GL0 C O T size B (.slice A n c) l X) (hn : n = l.length) (hP : ∀ g, O X B g → P X B X.heap.size g) : GRow C P size X B X.heap.size ⟨A, n, c⟩ l :=
  ⟨hn, by subst hn; exact own_row h.own, fun g hg => hP g (h.leaf g hg)⟩
theorem GL.toG {A : Option Addr} {n c : Nat} {P : World → Nat → Nat → γ → Prop} (h : GL C O T size B (.slice A n c) l X) (hn : n = l.length) (hP : ∀ g, O X B g → P X B X.heap.size g) : GRow C P size X B X.heap.size ⟨A, n, c⟩ l := GL0.toG h.toGL0 hn hP
end
theorem own_lt' {X : World} {B e size n j : Nat} {v : Value} {xs : List Value} (h : X.ownsRow B e size v n xs) (hj : v.ownBlock = some j) : j < X.heap.size := (World.ownsRow.lt h j hj).2
/-- the blocks between two numbers are the same -/
def SameB (lo hi : Nat) (w w' : World) : Prop := ∀ g, lo ≤ g → g < hi → w'.heap[g]? = w.heap[g]?
theorem SameB.of_set {lo hi N i : Nat} {w : World} {u : Value} (h : N < lo) : SameB lo hi w (w.setCell ⟨N, i, none⟩ u) := fun g hl _ => Below.heap_setCell w ⟨N, i, none⟩ u g (by show g ≠ N; omega)
theorem SameB.trans {lo hi : Nat} {w w' w'' : World} (h : SameB lo hi w w') (h' : SameB lo hi w' w'') : SameB lo hi w w'' := fun g h1 h2 => (h' g h1 h2).trans (h g h1 h2)
theorem SameB.less {lo hi hi' : Nat} {w w' : World} (h : SameB lo hi w w') (hh : hi' ≤ hi) : SameB lo hi' w w' := fun g h1 h2 => h g h1 (by omega)
theorem own_sameB {w w' : World} {B size n : Nat} {e : TypeId} {v : Value} {xs : List Value} (h : w.ownsRow B e size v n xs) (hk : SameB B w.heap.size w w') : w'.ownsRow B e size v n xs := by
  refine ⟨h.1, ?_⟩
  rcases h.2 with hn | ⟨g, cap, cur, rfl, hbg, hgg, rest⟩
  · exact .inl hn
  · refine .inr ⟨g, cap, cur, rfl, hbg, ?_, rest⟩
    rw [hk g hbg (Array.getElem?_eq_some_iff.1 hgg).1]
    exact hgg
/-- numbers in own memory -/
def OwnI (w : World) (B : Nat) (v : Value) (l : List Int) : Prop := w.ownsRow B 3 1 v l.length (intCells l)
end Go.Proofs.YtjlpoigcalfdlaaDoor

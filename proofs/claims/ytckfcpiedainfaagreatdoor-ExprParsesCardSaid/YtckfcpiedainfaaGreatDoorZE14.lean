/-
  EXPRESSIONS IN PLAIN MATHEMATICS: what it comes to to go through a list's nodes, from the front and from the back.
  KINDS IN PLAIN MATHEMATICS: the kind of a node, what is bound where, the first node that is wrong.
  KINDS IN PLAIN MATHEMATICS: the program's table, and that it tells what the document's tells.
  KINDS IN PLAIN MATHEMATICS: the nodes gone through one behind the other tell what the document tells.
  GENERIC: slices of parts with lists of their own; lists in own memory that grow. No program stands in it.
  WALKS over package lex: Join.
-/
import Derived.Test.YtckfcpiedainfaaGreatDoorZE13
import Derived.Laws.OwnMore
import Derived.Laws.CopyRow
import Derived.Laws.IdiomCopy
import Derived.Deep.MidRow
import Derived.Lib.ItoaLen
namespace Go.Proofs.YtckfcpiedainfaaGreatDoor
open Go
set_option linter.unusedVariables false
def Fo.app : Fo → Fo → Fo
  | .nil, g => g
  | .cons k s i a r, g => .cons k s i a (r.app g)
theorem Fo.app_size : ∀ f g : Fo, (f.app g).size = f.size + g.size
  | .nil, g => by simp [Fo.app, Fo.size]
  | .cons _ _ _ a r, g => by simp only [Fo.app, Fo.size, Fo.app_size r g]; omega
theorem Fo.app_depth : ∀ f g : Fo, (f.app g).depth = max f.depth g.depth
  | .nil, g => by simp [Fo.app, Fo.depth]
  | .cons _ _ _ a r, g => by simp only [Fo.app, Fo.depth, Fo.app_depth r g]; omega
theorem takeV_app (l : List EN) : ∀ (ks ms : List Int) (p : Nat), takeV l p (ks ++ ms) =
    match takeV l p ks with
    | none => none
    | some f => match takeV l (p + f.size) ms with
      | none => none
      | some g => some (f.app g)
  | [], ms, p => by
    rw [List.nil_append, takeV_nil]
    simp only [Fo.size, Nat.add_zero, Fo.app]
    cases takeV l p ms <;> rfl
  | k :: ks, ms, p => by
    rw [List.cons_append, takeV_cons, takeV_cons]
    by_cases hk : k = p
    · rw [if_pos hk, if_pos hk]
      cases l[p]? with
      | none => rfl
      | some n =>
        simp only
        cases takeV l (p + 1) n.kids with
        | none => rfl
        | some a =>
          simp only
          rw [takeV_app l ks ms (p + 1 + a.size)]
          cases takeV l (p + 1 + a.size) ks with
          | none => rfl
          | some r =>
            simp only [Fo.size]
            rw [show p + (1 + a.size + r.size) = p + 1 + a.size + r.size from by omega]
            cases takeV l (p + 1 + a.size + r.size) ms <;> rfl
    · rw [if_neg hk, if_neg hk]
/-- the tree at a place -/
def oneV (l : List EN) (i : Nat) : Option Fo := takeV l i [(i : Int)]
theorem oneV_of {l : List EN} {i : Nat} {n : EN} (h : l[i]? = some n) : oneV l i = (takeV l (i + 1) n.kids).map fun a => .cons n.kind n.text n.int a .nil := by
  unfold oneV
  rw [takeV_hit h]
  cases takeV l (i + 1) n.kids with
  | none => rfl
  | some a => simp only [takeV_nil, Option.map_some]
/-- so far from the back: each node behind is sound, and a tree of that size and depth -/
structure Backed (l : List EN) (sz dp : List Int) (i : Nat) : Prop where
  sn : ∀ j n, i ≤ j → l[j]? = some n → soundB n = true
  tr : ∀ j, i ≤ j → j < l.length → ∃ f, oneV l j = some f ∧ sz[j]? = some (f.size : Int) ∧ dp[j]? = some (f.depth : Int)
/-- a node's kids so far: the first k -/
structure Kidded (l : List EN) (i : Nat) (ks : List Int) (k next deep : Nat) : Prop where
  out : ∃ a, takeV l (i + 1) (ks.take k) = some a ∧ next = i + 1 + a.size ∧ deep = a.depth
theorem Kidded.start (l : List EN) (i : Nat) (ks : List Int) : Kidded l i ks 0 (i + 1) 0 := ⟨.nil, by rw [List.take_zero, takeV_nil], rfl, rfl⟩
theorem Kidded.step {l : List EN} {i k next deep : Nat} {ks : List Int} (h : Kidded l i ks k next deep) (hk : ks[k]? = some (next : Int)) {f : Fo} (hf : oneV l next = some f) : Kidded l i ks (k + 1) (next + f.size) (max deep f.depth) := by
  obtain ⟨a, h1, rfl, rfl⟩ := h.out
  refine ⟨a.app f, ?_, by rw [Fo.app_size]; omega, by rw [Fo.app_depth]⟩
  rw [List.take_add_one, hk]
  simp only [Option.toList]
  rw [takeV_app, h1]
  simp only
  unfold oneV at hf
  rw [hf]
theorem Kidded.bad {l : List EN} {i k next deep : Nat} {n : EN} (hn : l[i]? = some n) (h : Kidded l i n.kids k next deep) {x : Int} (hk : n.kids[k]? = some x) (hx : x ≠ next ∨ l.length ≤ next) : oneV l i = none := by
  obtain ⟨a, h1, rfl, rfl⟩ := h.out
  rw [oneV_of hn]
  have hk' := (List.getElem?_eq_some_iff.1 hk)
  have e : n.kids = n.kids.take k ++ (x :: n.kids.drop (k + 1)) := by
    rw [← hk'.2, List.getElem_cons_drop, List.take_append_drop]
  rw [e, takeV_app, h1]
  simp only
  have : takeV l (i + 1 + a.size) (x :: n.kids.drop (k + 1)) = none := by
    rw [takeV_cons]
    rcases hx with hx | hx
    · rw [if_neg hx]
    · rw [List.getElem?_eq_none hx]; split <;> rfl
  rw [this]; rfl
theorem Kidded.fin {l : List EN} {i k next deep : Nat} {n : EN} (hn : l[i]? = some n) (h : Kidded l i n.kids k next deep) (hk : n.kids.length ≤ k) : ∃ f, oneV l i = some f ∧ f.size = next - i ∧ f.depth = deep + 1 ∧ i < next := by
  obtain ⟨a, h1, rfl, rfl⟩ := h.out
  rw [List.take_of_length_le hk] at h1
  refine ⟨_, by rw [oneV_of hn, h1]; rfl, ?_, ?_, by omega⟩
  · simp only [Fo.size]; omega
  · simp only [Fo.depth]; omega
theorem Backed.fin {l : List EN} {sz dp : List Int} (h : Backed l sz dp 0) (h0 : ¬ 256 < l.length) (hl : 0 < l.length) {s d : Int} (hs : sz[0]? = some s) (hd : dp[0]? = some d) : rightV l = if s = l.length then (if 32 < d then 4 else 0) else 80 := by
  have ha : l.all soundB = true := List.all_eq_true.2 fun n hn => by
    obtain ⟨j, hj⟩ := List.getElem?_of_mem hn
    exact h.sn j n (Nat.zero_le _) hj
  obtain ⟨f, h1, h2, h3⟩ := h.tr 0 (Nat.zero_le _) hl
  have hw : wholeV l = some f := h1
  rw [rightV_some h0 ha hw]
  rw [hs] at h2
  rw [hd] at h3
  injection h2 with h2
  injection h3 with h3
  subst h2 h3
  by_cases e : f.size = l.length
  · have e' : (f.size : Int) = (l.length : Int) := by omega
    rw [if_pos e, if_pos e']
    by_cases e2 : 32 < f.depth
    · have e3 : (32 : Int) < (f.depth : Int) := by omega
      rw [if_pos e2, if_pos e3]
    · have e3 : ¬ (32 : Int) < (f.depth : Int) := by omega
      rw [if_neg e2, if_neg e3]
  · have e' : ¬ (f.size : Int) = (l.length : Int) := by omega
    rw [if_neg e, if_neg e']
theorem Backed.start (l : List EN) (sz dp : List Int) : Backed l sz dp l.length :=
  ⟨fun j n h1 h2 => by have := (List.getElem?_eq_some_iff.1 h2).1; omega, fun j h1 h2 => by omega⟩
theorem Backed.step {l : List EN} {sz dp sz' dp' : List Int} {i : Nat} {n : EN} (h : Backed l sz dp (i + 1)) (hn : l[i]? = some n) (hs : soundB n = true) {f : Fo} (hf : oneV l i = some f) (h1 : sz'[i]? = some (f.size : Int)) (h2 : dp'[i]? = some (f.depth : Int)) (h3 : ∀ j, i < j → sz'[j]? = sz[j]?) (h4 : ∀ j, i < j → dp'[j]? = dp[j]?) : Backed l sz' dp' i := by
  refine ⟨fun j m hj hm => ?_, fun j hj hl => ?_⟩
  · by_cases e : j = i
    · subst e; rw [hn] at hm; injection hm with hm; subst hm; exact hs
    · exact h.sn j m (by omega) hm
  · by_cases e : j = i
    · subst e; exact ⟨f, hf, h1, h2⟩
    · obtain ⟨g, g1, g2, g3⟩ := h.tr j (by omega) hl
      exact ⟨g, g1, by rw [h3 j (by omega)]; exact g2, by rw [h4 j (by omega)]; exact g3⟩
end Go.Proofs.YtckfcpiedainfaaGreatDoor
namespace Go.Proofs.YtckfcpiedainfaaGreatDoor
open Go
set_option linter.unusedVariables false
def bindsB (k : Int) : Bool := decide (31 ≤ k) && decide (k ≤ 34)
abbrev Bnd := List (List UInt8)
/-- what is bound at a node's j-th kid -/
def inner (k : Int) (s : ByteArray) (e : Bnd) (j : Nat) : Bnd := if j = 1 ∧ bindsB k = true then s.data.toList :: e else e
def oneK (k o : Int) : Int :=
  if (k = 8 ∧ o = 4) ∨ (k = 17 ∧ o = 4) ∨ (k = 16 ∧ o = 1) then 2
  else if (k = 9 ∧ o = 4) ∨ (k = 13 ∧ o = 4) then 5
  else if (k = 10 ∧ o = 4) ∨ (k = 11 ∧ o = 4) ∨ (k = 15 ∧ o = 5) then 4
  else if (k = 12 ∧ o = 4) ∨ (k = 29 ∧ o = 3) then 3
  else if (k = 18 ∧ o = 4) ∨ (k = 14 ∧ o = 5) ∨ (k = 19 ∧ o = 2) then 1 else 0
def twoK (k a b : Int) : Int :=
  if k = 20 then (if a = b ∧ (a = 1 ∨ a = 2) then a else 0)
  else if k = 21 ∨ k = 22 then (if a = 1 ∧ b = 1 then 1 else 0)
  else if k = 23 ∨ k = 24 then (if a = b ∧ a ≠ 5 then 3 else 0)
  else if k = 25 ∨ k = 26 then (if a = b ∧ (a = 1 ∨ a = 2) then 3 else 0)
  else if k = 27 ∨ k = 28 then (if a = 3 ∧ b = 3 then 3 else 0)
  else if k = 31 ∨ k = 32 then (if a = 5 ∧ b = 3 then 3 else 0)
  else if k = 33 then (if a = 5 ∧ b = 3 then 5 else 0)
  else if k = 34 then (if a = 5 ∧ b = 1 then 1 else 0) else 0
/-- a node's kind, by the kinds of its kids; 0: it is wrong, or a kid has none -/
def kindV (k : Int) (bd : Bool) (ks : List Int) : Int :=
  if ks.contains 0 = true then 0
  else if k = 1 then 1 else if k = 2 then 2 else if k = 3 ∨ k = 4 then 3 else if k = 5 ∨ k = 6 then 4 else if k = 7 then (if bd = true then 4 else 0)
  else if k = 30 then (match ks with | [a, b, c] => if a = 3 ∧ b = c then b else 0 | _ => 0)
  else match ks with
    | [a] => oneK k a
    | [a, b] => twoK k a b
    | _ => 0
namespace Fo
/-- the kinds of the trees of a row -/
def kr : Fo → (Nat → Bnd) → List Int
  | nil, _ => []
  | cons k s _ a r, e => kindV k ((e 0).contains s.data.toList) (kr a (inner k s (e 0))) :: kr r (fun j => e (j + 1))
/-- the kinds of all nodes -/
def ka : Fo → (Nat → Bnd) → List Int
  | nil, _ => []
  | cons k s _ a r, e => kindV k ((e 0).contains s.data.toList) (kr a (inner k s (e 0))) :: (ka a (inner k s (e 0)) ++ ka r (fun j => e (j + 1)))
/-- the first node that is wrong, a node behind its kids -/
def wr : Fo → Nat → (Nat → Bnd) → Option Nat
  | nil, _, _ => none
  | cons k s _ a r, p, e =>
    match wr a (p + 1) (inner k s (e 0)) with
    | some q => some q
    | none => if kindV k ((e 0).contains s.data.toList) (kr a (inner k s (e 0))) = 0 then some p else wr r (p + 1 + a.size) (fun j => e (j + 1))
/-- the nodes, each behind its kids; is it a variable that isn't bound there? -/
def post : Fo → Nat → (Nat → Bnd) → List (Nat × Bool)
  | nil, _, _ => []
  | cons k s _ a r, p, e => post a (p + 1) (inner k s (e 0)) ++ (p, k == 7 && !(e 0).contains s.data.toList) :: post r (p + 1 + a.size) (fun j => e (j + 1))
end Fo
end Go.Proofs.YtckfcpiedainfaaGreatDoor
namespace Go.Proofs.YtckfcpiedainfaaGreatDoor
open Go
set_option linter.unusedVariables false
def rowsL : List (List Nat) := [[0, 0, 0, 0], [2, 0, 0, 0], [4, 0, 0, 0], [8, 0, 0, 0], [8, 0, 0, 0], [16, 0, 0, 0], [16, 0, 0, 0], [16, 0, 0, 0], [4, 16, 0, 0], [32, 16, 0, 0], [16, 16, 0, 0], [16, 16, 0, 0], [8, 16, 0, 0], [32, 16, 0, 0], [2, 32, 0, 0], [16, 32, 0, 0], [4, 2, 0, 0], [4, 16, 0, 0], [2, 16, 0, 0], [2, 4, 0, 0], [6, 6, 6, 0], [2, 2, 2, 0], [2, 2, 2, 0], [8, 30, 30, 0], [8, 30, 30, 0], [8, 6, 6, 0], [8, 6, 6, 0], [8, 8, 8, 0], [8, 8, 8, 0], [8, 8, 0, 0], [62, 8, 62, 62], [8, 32, 8, 0], [8, 32, 8, 0], [32, 32, 8, 0], [2, 32, 2, 0]]
def popN : Nat → Nat → Nat
  | 0, _ => 0
  | f + 1, n => n % 2 + popN f (n / 2)
/-- how many kinds are in a set -/
def pop8 (n : Nat) : Nat := popN 8 n
def ctzN : Nat → Nat → Nat
  | 0, _ => 0
  | f + 1, n => if n % 2 = 1 then 0 else 1 + ctzN f (n / 2)
/-- the first kind of a set -/
def ctz8 (n : Nat) : Nat := ctzN 8 n
def foldK (row : List Nat) : Nat → Nat → List Int → Option Nat
  | _, m, [] => some m
  | i, m, x :: ks =>
    if 1 < pop8 (row.getD (i + 1) 0) then
      (if m &&& (row.getD (i + 1) 0 &&& 1 <<< x.toNat) = 0 then none else foldK row (i + 1) (m &&& (row.getD (i + 1) 0 &&& 1 <<< x.toNat)) ks)
    else (if row.getD (i + 1) 0 &&& 1 <<< x.toNat = 0 then none else foldK row (i + 1) m ks)
/-- what the program's table tells; 0: the node is wrong -/
def kindP (k : Int) (ks : List Int) : Int :=
  match foldK (rowsL.getD k.toNat []) 0 62 ks with
  | none => 0
  | some m => if 1 < pop8 ((rowsL.getD k.toNat []).getD 0 0) then ctz8 m else ctz8 ((rowsL.getD k.toNat []).getD 0 0)
inductive Run where
  | bad (at_ : Nat) (err : Int) : Run
  | ok (known : List Int) : Run
def runP (l : List EN) : List (Nat × Bool) → List Int → Run
  | [], K => .ok K
  | (p, b) :: r, K =>
    if b = true then .bad p 91 else
      match l[p]? with
      | none => .bad p 0
      | some n => if kindP n.kind (n.kids.map fun q => K.getD q.toNat 0) = 0 then .bad p 90 else runP l r (K.set p (kindP n.kind (n.kids.map fun q => K.getD q.toNat 0)))
/-- values laid over a list from a place on -/
def over (K : List Int) (p : Nat) (vs : List Int) : List Int := K.take p ++ vs ++ K.drop (p + vs.length)
end Go.Proofs.YtckfcpiedainfaaGreatDoor
namespace Go.Proofs.YtckfcpiedainfaaGreatDoor
open Go
set_option linter.unusedVariables false
theorem Tree.whole {l : List EN} {f : Fo} (h : Tree l f) : wholeV l = some f := by
  have := at_takeV l f 0 h.at_
  rw [h.one] at this
  exact this
end Go.Proofs.YtckfcpiedainfaaGreatDoor
namespace Go.Proofs.YtckfcpiedainfaaGreatDoor
open Go Go.RowKit Go.Sort
set_option linter.unusedVariables false
/-- a slice of parts, each with lists of its own: l tells them with where their lists lie -/
structure GRow {γ : Type} (C : γ → List Value) (P : World → Nat → Nat → γ → Prop) (size : Nat) (w : World) (lo hi : Nat) (S : Sl) (l : List γ) : Prop where
  n : S.n = l.length
  row : Row w lo hi size S.A S.n S.c (l.flatMap C)
  all : ∀ g ∈ l, P w lo hi g
/-- what is kept by a world with more memory, and in wider bounds -/
structure Keep {γ : Type} (P : World → Nat → Nat → γ → Prop) : Prop where
  below : ∀ {w w' lo hi g}, P w lo hi g → Below hi w w' → P w' lo hi g
  mono : ∀ {w lo hi lo' hi' g}, P w lo hi g → lo' ≤ lo → hi ≤ hi' → P w lo' hi' g
section
variable {γ : Type} {C : γ → List Value} {P : World → Nat → Nat → γ → Prop} {size : Nat} {w w' : World} {lo hi : Nat} {S : Sl} {l : List γ}
theorem GRow.below (h : GRow C P size w lo hi S l) (hP : Keep P) (hb : Below hi w w') : GRow C P size w' lo hi S l := ⟨h.n, Row.below h.row hb, fun g hg => hP.below (h.all g hg) hb⟩
theorem GRow.mono (h : GRow C P size w lo hi S l) (hP : Keep P) {lo' hi' : Nat} (hl : lo' ≤ lo) (hh : hi ≤ hi') : GRow C P size w lo' hi' S l := ⟨h.n, Row.mono h.row hl hh, fun g hg => hP.mono (h.all g hg) hl hh⟩
theorem GRow.at_ (h : GRow C P size w lo hi S l) (hs : ∀ g, (C g).length = size) (hn : 0 < S.n) : ∃ b o, S.A = some ⟨b, o, none⟩ ∧ lo ≤ b ∧ b < hi ∧ ∀ i g, l[i]? = some g → P w lo hi g ∧ ∀ j u, j < size → (C g)[j]? = some u → w.cell? ⟨b, o + i * size + j, none⟩ = some u := by
  obtain ⟨b, o, e, h1, h2, hc⟩ := h.row.at_ hn
  refine ⟨b, o, e, h1, h2, fun i g hg => ⟨h.all g (List.mem_of_getElem? hg), fun j u hj hu => ?_⟩⟩
  have := hc (i * size + j) u (by rw [flatN_get hs l i g hg j hj]; exact hu)
  rw [← Nat.add_assoc] at this; exact this
end
theorem below_more {W w' : World} (h : Below W.heap.size W w') (o : Obj) : Below W.heap.size W (w'.alloc o) := h.alloc h.size o
theorem below_drew {B : Nat} {a w : World} (h : Below B a w) : Below B a w.drew := ⟨h.os, h.tape, h.output, h.size, h.block⟩
theorem below_grows {W w' w'' : World} (h : Below W.heap.size W w') {v : Value} (hg : w'.grownBy w'' v.ownBlock) {e : TypeId} {size n B : Nat} {xs : List Value} (hown : w'.ownsRow B e size v n xs) (hB : W.heap.size ≤ B) : Below W.heap.size W w'' :=
  h.grown hg h.size (fun k hk => Nat.le_trans hB (World.ownsRow.lt hown k hk).1)
theorem drew1_below (w : World) : Below w.heap.size w w.drew := ⟨rfl, rfl, rfl, Nat.le_refl _, fun _ _ => rfl⟩
theorem below_of_alloc {X : World} (o : Obj) : Below X.heap.size X (X.alloc o) := below_more (Below.refl _ _) _
section
variable {w w' : World} {B size n : Nat} {e : TypeId} {v : Value} {xs : List Value}
theorem own_kept {e e' : TypeId} {size size' n n' B' : Nat} {v v' : Value} {xs xs' : List Value} (h : w.ownsRow B e size v n xs) (h' : w.ownsRow B' e' size' v' n' xs') (hne : e ≠ e') (hg : w.grownBy w' v'.ownBlock) : w'.ownsRow B e size v n xs :=
  World.ownsRow.kept h hg (own_own_ne h h' hne)
end
theorem own_emptyB {w : World} {B size g : Nat} {e : TypeId} (hg : Blk w g e #[]) (hB : B ≤ g) : w.ownsRow B e size (.slice (some ⟨g, 0, none⟩) 0 0) 0 [] := own_empty hg hB
theorem app_new {W X Y : World} {g size n : Nat} {e : TypeId} {v : Value} {xs : List Value} (hb : Below W.heap.size W X) (hg : Blk X g e #[]) (hle : W.heap.size ≤ g)
    (hown : Y.ownsRow W.heap.size e size v (0 + n) ([] ++ xs)) (hgr : X.grownBy Y (Value.ownBlock (.slice (some ⟨g, 0, none⟩) 0 0))) : ∃ A c, v = .slice A n c ∧ Y.ownsRow W.heap.size e size (.slice A n c) n xs ∧ Below W.heap.size W Y := by
  rw [Nat.zero_add, List.nil_append] at hown
  obtain ⟨A, c, rfl⟩ := own_form hown
  exact ⟨A, c, rfl, hown, below_grows hb hgr (own_emptyB (size := size) (B := W.heap.size) hg hle) (Nat.le_refl _)⟩
/-- what is kept while a list of such parts grows -/
structure OwnK {γ : Type} (O : World → Nat → γ → Prop) (T : TypeId) : Prop where
  after : ∀ {w w' B g}, O w B g → Below w.heap.size w w' → O w' B g
  kept : ∀ {w w' B B' g size n v xs}, O w B g → w.ownsRow B' T size v n xs → w.grownBy w' v.ownBlock → O w' B g
  mono : ∀ {w B B' g}, O w B g → B' ≤ B → O w B' g
/-- a part whose lists lie below k -/
def Below' {γ : Type} (C : γ → List Value) (k : Nat) (a : γ) : Prop := ∀ v ∈ C a, ∀ j, v.ownBlock = some j → j < k
/-- the parts' lists lie apart: those of a later part in blocks above those of the parts ahead of it -/
def Ap {γ : Type} (C : γ → List Value) (O : World → Nat → γ → Prop) (B : Nat) (l : List γ) (X : World) : Prop := l.Pairwise fun a b => ∃ k, B ≤ k ∧ Below' C k a ∧ O X k b
/-- a list of parts in own memory from B on -/
structure GL0 {γ : Type} (C : γ → List Value) (O : World → Nat → γ → Prop) (T : TypeId) (size B : Nat) (ov : Value) (l : List γ) (X : World) : Prop where
  own : X.ownsRow B T size ov l.length (l.flatMap C)
  leaf : ∀ g ∈ l, O X B g
/-- a list of parts that grows, in own memory from B on -/
structure GL {γ : Type} (C : γ → List Value) (O : World → Nat → γ → Prop) (T : TypeId) (size B : Nat) (ov : Value) (l : List γ) (X : World) : Prop extends GL0 C O T size B ov l X where
  ap : Ap C O B l X
section
variable {γ : Type} {C : γ → List Value} {O : World → Nat → γ → Prop} {T : TypeId} {size B : Nat} {ov v' : Value} {l : List γ} {X X' : World}
theorem Ap.after (h : Ap C O B l X) (hO : OwnK O T) (hb : Below X.heap.size X X') : Ap C O B l X' := List.Pairwise.imp (fun ⟨k, h0, h1, h2⟩ => ⟨k, h0, h1, hO.after h2 hb⟩) h
theorem Ap.monoB {B' : Nat} (h : Ap C O B l X) (hB : B' ≤ B) : Ap C O B' l X := List.Pairwise.imp (fun ⟨k, h0, h1, h2⟩ => ⟨k, Nat.le_trans hB h0, h1, h2⟩) h
theorem GL.start (C : γ → List Value) (O : World → Nat → γ → Prop) (T : TypeId) (size B : Nat) (X : World) : GL C O T size B (.slice none 0 0) [] X := ⟨⟨⟨by simp, .inl ⟨rfl, rfl⟩⟩, by simp⟩, List.Pairwise.nil⟩
theorem GL.after (h : GL C O T size B ov l X) (hO : OwnK O T) (hb : Below X.heap.size X X') : GL C O T size B ov l X' := ⟨⟨own_after h.own hb, fun g hg => hO.after (h.leaf g hg) hb⟩, h.ap.after hO hb⟩
theorem GL.push (h : GL C O T size B ov l X) (hO : OwnK O T) {p : γ} (hg : X.grownBy X' ov.ownBlock) (hown : X'.ownsRow B T size v' (l.length + 1) (l.flatMap C ++ C p)) (hp : O X B p) {k : Nat} (hBk : B ≤ k) (hk : ∀ a ∈ l, Below' C k a) (hpk : O X k p) : GL C O T size B v' (l ++ [p]) X' := by
  refine ⟨⟨?_, fun q hq => ?_⟩, ?_⟩
  · rw [List.length_append, List.length_singleton, List.flatMap_append, List.flatMap_singleton]; exact hown
  · rcases List.mem_append.1 hq with hq | hq
    · exact hO.kept (h.leaf q hq) h.own hg
    · obtain rfl : q = p := by simpa using hq
      exact hO.kept hp h.own hg
  · refine List.pairwise_append.2 ⟨List.Pairwise.imp (fun ⟨k, h0, h1, h2⟩ => ⟨k, h0, h1, hO.kept h2 h.own hg⟩) h.ap, List.pairwise_singleton _ _, fun a ha b hb => ?_⟩
    obtain rfl : b = p := by simpa using hb
    exact ⟨k, hBk, hk a ha, hO.kept hpk h.own hg⟩
theorem GL0.toG {A : Option Addr} {n c : Nat} {P : World → Nat → Nat → γ → Prop} (h : GL0 C O T size B (.slice A n c) l X) (hn : n = l.length) (hP : ∀ g, O X B g → P X B X.heap.size g) : GRow C P size X B X.heap.size ⟨A, n, c⟩ l :=
  ⟨hn, by subst hn; exact own_row h.own, fun g hg => hP g (h.leaf g hg)⟩
theorem GL.toG {A : Option Addr} {n c : Nat} {P : World → Nat → Nat → γ → Prop} (h : GL C O T size B (.slice A n c) l X) (hn : n = l.length) (hP : ∀ g, O X B g → P X B X.heap.size g) : GRow C P size X B X.heap.size ⟨A, n, c⟩ l := GL0.toG h.toGL0 hn hP
end
theorem own_lt' {X : World} {B e size n j : Nat} {v : Value} {xs : List Value} (h : X.ownsRow B e size v n xs) (hj : v.ownBlock = some j) : j < X.heap.size := (World.ownsRow.lt h j hj).2
/-- the blocks between two numbers are the same -/
def SameB (lo hi : Nat) (w w' : World) : Prop := ∀ g, lo ≤ g → g < hi → w'.heap[g]? = w.heap[g]?
theorem SameB.trans {lo hi : Nat} {w w' w'' : World} (h : SameB lo hi w w') (h' : SameB lo hi w' w'') : SameB lo hi w w'' := fun g h1 h2 => (h' g h1 h2).trans (h g h1 h2)
theorem SameB.less {lo hi hi' : Nat} {w w' : World} (h : SameB lo hi w w') (hh : hi' ≤ hi) : SameB lo hi' w w' := fun g h1 h2 => h g h1 (by omega)
/-- numbers in own memory -/
def OwnI (w : World) (B : Nat) (v : Value) (l : List Int) : Prop := w.ownsRow B 3 1 v l.length (intCells l)
def setAll (xs : List Value) : Nat → List Value → List Value
  | _, [] => xs
  | o, u :: us => setAll (xs.set o u) (o + 1) us
theorem own_setAll {B e size n c g : Nat} : ∀ (us : List Value) (o : Nat) (w : World) (xs : List Value), w.ownsRow B e size (.slice (some ⟨g, 0, none⟩) n c) n xs → (w.setCells g o us).ownsRow B e size (.slice (some ⟨g, 0, none⟩) n c) n (setAll xs o us) ∧ w.grownBy (w.setCells g o us) (some g)
  | [], o, w, xs, h => ⟨h, ⟨rfl, rfl, rfl, Nat.le_refl _, fun _ _ _ => rfl⟩⟩
  | u :: us, o, w, xs, h => by
    have h1 := World.ownsRow.stored h o u
    have h2 := own_setAll us (o + 1) _ _ h1.1
    exact ⟨h2.1, h1.2.trans h2.2⟩
theorem own_grown {w w' : World} {B size n : Nat} {e : TypeId} {v : Value} {xs : List Value} {row : Option Nat} (h : w.ownsRow B e size v n xs) (hne : v.ownBlock = none ∨ v.ownBlock ≠ row) (hg : w.grownBy w' row) : w'.ownsRow B e size v n xs := by
  refine ⟨h.1, ?_⟩
  rcases h.2 with hn | ⟨g, cap, cur, rfl, hbg, hgg, rest⟩
  · exact .inl hn
  · refine .inr ⟨g, cap, cur, rfl, hbg, ?_, rest⟩
    rw [hg.block g (Array.getElem?_eq_some_iff.1 hgg).1 ?_]
    · exact hgg
    · rcases hne with h0 | h0
      · simp [Value.ownBlock] at h0
      · simpa [Value.ownBlock] using h0
end Go.Proofs.YtckfcpiedainfaaGreatDoor
namespace Go.Proofs.YtckfcpiedainfaaGreatDoor
open Go Go.RowKit
set_option linter.unusedVariables false
theorem ba_size (l : List UInt8) : (ba l).size = l.length := by rw [← toList_eq, ba_data]
end Go.Proofs.YtckfcpiedainfaaGreatDoor

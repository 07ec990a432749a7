/-
  EXPRESSIONS IN PLAIN MATHEMATICS: nodes, the forest that a list of nodes is, which lists are expressions.
  EXPRESSIONS IN PLAIN MATHEMATICS: what it comes to to go through a list's nodes, from the front and from the back.
  KINDS IN PLAIN MATHEMATICS: the kind of a node, what is bound where, the first node that is wrong.
  KINDS IN PLAIN MATHEMATICS: the program's table, and that it tells what the document's tells.
-/
import Derived.Test.YtjlpoigcalfdlaaDoorZB6
namespace Go.Proofs.YtjlpoigcalfdlaaDoor
open Go
set_option linter.unusedVariables false
structure EN where
  kind : Int
  text : ByteArray
  int : Int
  kids : List Int
def nameB (s : List UInt8) : Bool := right s && !wordB s
/-- how many kids a Kind has -/
def kidsV (k : Int) : Int := if k < 1 ∨ 34 < k then -1 else if k ≤ 7 then 0 else if k ≤ 19 ∨ k = 29 then 1 else if k = 30 then 3 else 2
def namedB (k : Int) : Bool := (decide (7 ≤ k) && decide (k ≤ 13) && !(k == 11)) || decide (31 ≤ k)
def leastB (n : Int) : Bool := n == -9223372036854775808
/-- may a node be, whatever stands around it? -/
def soundV (kind : Int) (text : List UInt8) (zero least : Bool) (kids : Nat) (nm : Bool) : Bool :=
  if kidsV kind ≠ kids then false else if (kind ≠ 1 ∧ zero = false) ∨ least = true then false else if namedB kind then nm else (decide (kind = 2) && decide (text.length ≤ 4096)) || decide (text = [])
def soundB (n : EN) : Bool := soundV n.kind n.text.data.toList (n.int == 0) (leastB n.int) n.kids.length (nameB n.text.data.toList)
/-- trees in a row -/
inductive Fo where
  | nil : Fo
  | cons (k : Int) (s : ByteArray) (i : Int) (kids rest : Fo) : Fo
namespace Fo
def size : Fo → Nat
  | nil => 0
  | cons _ _ _ a r => 1 + a.size + r.size
def depth : Fo → Nat
  | nil => 0
  | cons _ _ _ a r => max (1 + a.depth) r.depth
/-- where the trees of a row begin -/
def offs : Nat → Fo → List Int
  | _, nil => []
  | p, cons _ _ _ a r => (p : Int) :: offs (p + 1 + a.size) r
def count : Fo → Nat
  | nil => 0
  | cons _ _ _ _ r => 1 + r.count
end Fo
/-- the row of trees lies in the list from a place on -/
def At (l : List EN) : Nat → Fo → Prop
  | _, .nil => True
  | p, .cons k s i a r => l[p]? = some ⟨k, s, i, a.offs (p + 1)⟩ ∧ At l (p + 1) a ∧ At l (p + 1 + a.size) r
theorem At.le {l : List EN} : ∀ (f : Fo) (p : Nat), p ≤ l.length → At l p f → p + f.size ≤ l.length
  | .nil, p, h, _ => h
  | .cons k s i a r, p, h, ⟨h1, h2, h3⟩ => by
    have hp := (List.getElem?_eq_some_iff.1 h1).1
    have e1 := At.le a (p + 1) (by omega) h2
    have e2 := At.le r (p + 1 + a.size) e1 h3
    simp only [Fo.size]; omega
/-- the trees that begin at these places, the first one at a place -/
def takeN (l : List EN) : Nat → Nat → List Int → Option Fo
  | _, _, [] => some .nil
  | 0, _, _ :: _ => none
  | N + 1, p, k :: ks =>
    if k = p then
      match l[p]? with
      | none => none
      | some n =>
        match takeN l N (p + 1) n.kids with
        | none => none
        | some a =>
          match takeN l N (p + 1 + a.size) ks with
          | none => none
          | some r => some (.cons n.kind n.text n.int a r)
    else none
theorem takeN_fuel (l : List EN) : ∀ (N M p : Nat) (ks : List Int), l.length ≤ N + p → l.length ≤ M + p → takeN l N p ks = takeN l M p ks
  | 0, 0, _, [], _, _ => rfl
  | 0, M + 1, _, [], _, _ => rfl
  | N + 1, 0, _, [], _, _ => rfl
  | N + 1, M + 1, _, [], _, _ => rfl
  | 0, 0, p, k :: ks, _, _ => rfl
  | 0, M + 1, p, k :: ks, h, _ => by
    have e : l[p]? = none := List.getElem?_eq_none (by omega)
    simp only [takeN, e]
    split <;> rfl
  | N + 1, 0, p, k :: ks, _, h => by
    have e : l[p]? = none := List.getElem?_eq_none (by omega)
    simp only [takeN, e]
    split <;> rfl
  | N + 1, M + 1, p, k :: ks, h1, h2 => by
    simp only [takeN]
    by_cases hk : k = p
    · rw [if_pos hk, if_pos hk]
      cases l[p]? with
      | none => rfl
      | some n =>
        simp only
        rw [takeN_fuel l N M (p + 1) n.kids (by omega) (by omega)]
        cases takeN l M (p + 1) n.kids with
        | none => rfl
        | some a =>
          simp only
          rw [takeN_fuel l N M (p + 1 + a.size) ks (by omega) (by omega)]
    · rw [if_neg hk, if_neg hk]
def takeV (l : List EN) (p : Nat) (ks : List Int) : Option Fo := takeN l l.length p ks
theorem takeV_nil (l : List EN) (p : Nat) : takeV l p [] = some .nil := by unfold takeV; cases l.length <;> rfl
theorem takeV_cons (l : List EN) (p : Nat) (k : Int) (ks : List Int) : takeV l p (k :: ks) =
    if k = p then
      match l[p]? with
      | none => none
      | some n =>
        match takeV l (p + 1) n.kids with
        | none => none
        | some a =>
          match takeV l (p + 1 + a.size) ks with
          | none => none
          | some r => some (.cons n.kind n.text n.int a r)
    else none := by
  unfold takeV
  rw [takeN_fuel l l.length (l.length + 1) p (k :: ks) (by omega) (by omega)]
  rfl
theorem takeV_hit {l : List EN} {p : Nat} {n : EN} (h : l[p]? = some n) (ks : List Int) : takeV l p ((p : Int) :: ks) =
        match takeV l (p + 1) n.kids with
        | none => none
        | some a =>
          match takeV l (p + 1 + a.size) ks with
          | none => none
          | some r => some (.cons n.kind n.text n.int a r) := by
  rw [takeV_cons, if_pos rfl, h]
theorem at_of_take (l : List EN) : ∀ (N p : Nat) (ks : List Int) (f : Fo), takeN l N p ks = some f → At l p f ∧ ks = f.offs p
  | 0, p, [], f, h => by simp only [takeN, Option.some.injEq] at h; subst h; exact ⟨trivial, rfl⟩
  | N + 1, p, [], f, h => by simp only [takeN, Option.some.injEq] at h; subst h; exact ⟨trivial, rfl⟩
  | 0, p, k :: ks, f, h => by simp only [takeN] at h; cases h
  | N + 1, p, k :: ks, f, h => by
    simp only [takeN] at h
    by_cases hk : k = p
    · rw [if_pos hk] at h
      cases hn : l[p]? with
      | none => rw [hn] at h; cases h
      | some n =>
        rw [hn] at h
        simp only at h
        cases ha : takeN l N (p + 1) n.kids with
        | none => rw [ha] at h; cases h
        | some a =>
          rw [ha] at h
          simp only at h
          cases hr : takeN l N (p + 1 + a.size) ks with
          | none => rw [hr] at h; cases h
          | some r =>
            rw [hr] at h
            simp only [Option.some.injEq] at h
            subst h
            obtain ⟨a1, a2⟩ := at_of_take l N (p + 1) n.kids a ha
            obtain ⟨r1, r2⟩ := at_of_take l N (p + 1 + a.size) ks r hr
            refine ⟨⟨?_, a1, r1⟩, ?_⟩
            · rw [hn, ← a2]
            · rw [hk, r2]; rfl
    · rw [if_neg hk] at h; cases h
theorem takeV_at {l : List EN} {p : Nat} {ks : List Int} {f : Fo} (h : takeV l p ks = some f) : At l p f ∧ ks = f.offs p := at_of_take l _ p ks f h
theorem at_takeV (l : List EN) : ∀ (f : Fo) (p : Nat), At l p f → takeV l p (f.offs p) = some f
  | .nil, p, _ => takeV_nil l p
  | .cons k s i a r, p, ⟨h1, h2, h3⟩ => by
    show takeV l p ((p : Int) :: r.offs (p + 1 + a.size)) = _
    rw [takeV_hit h1]
    simp only
    rw [at_takeV l a (p + 1) h2]
    simp only
    rw [at_takeV l r (p + 1 + a.size) h3]
/-- the whole as one tree -/
def wholeV (l : List EN) : Option Fo := takeV l 0 [0]
/-- the error of a list of nodes -/
def rightV (l : List EN) : Int :=
  if 256 < l.length then 4 else if l.all soundB = false then 80 else
    match wholeV l with
    | none => 80
    | some f => if f.size = l.length then (if 32 < f.depth then 4 else 0) else 80
theorem rightV_none {l : List EN} (h : ¬ 256 < l.length) (h1 : wholeV l = none) : rightV l = 80 := by
  unfold rightV
  rw [if_neg h, h1]
  split <;> rfl
theorem rightV_bad {l : List EN} (h : ¬ 256 < l.length) (h1 : l.all soundB = false) : rightV l = 80 := by
  unfold rightV
  rw [if_neg h, if_pos h1]
theorem rightV_some {l : List EN} {f : Fo} (h : ¬ 256 < l.length) (h1 : l.all soundB = true) (h2 : wholeV l = some f) : rightV l = if f.size = l.length then (if 32 < f.depth then 4 else 0) else 80 := by
  unfold rightV
  rw [if_neg h, if_neg (by rw [h1]; simp), h2]
/-- what a right list is -/
structure Tree (l : List EN) (f : Fo) : Prop where
  len : l.length ≤ 256
  sound : ∀ n ∈ l, soundB n = true
  at_ : At l 0 f
  one : f.offs 0 = [0]
  size : f.size = l.length
  depth : f.depth ≤ 32
theorem tree_of {l : List EN} (h : rightV l = 0) : ∃ f, Tree l f := by
  unfold rightV at h
  by_cases h0 : 256 < l.length
  · rw [if_pos h0] at h; cases h
  · rw [if_neg h0] at h
    by_cases h1 : l.all soundB = false
    · rw [if_pos h1] at h; cases h
    · rw [if_neg h1] at h
      cases hw : wholeV l with
      | none => rw [hw] at h; cases h
      | some f =>
        rw [hw] at h
        simp only at h
        by_cases h2 : f.size = l.length
        · rw [if_pos h2] at h
          by_cases h3 : 32 < f.depth
          · rw [if_pos h3] at h; cases h
          · obtain ⟨a, b⟩ := takeV_at hw
            exact ⟨f, by omega, fun n hn => List.all_eq_true.1 (by simpa using h1) n hn, a, b.symm, h2, by omega⟩
        · rw [if_neg h2] at h; cases h
/-- how deep it goes, as it is gone through -/
def dm : Nat → Nat → Fo → Nat
  | d, _, .nil => d
  | d, v, .cons _ _ _ a r => dm (dm (max d v) (v + 1) a) v r
theorem dm_eq : ∀ (f : Fo) (d v : Nat), dm d (v + 1) f = max d (if f.depth = 0 then 0 else v + f.depth)
  | .nil, d, v => by simp [dm, Fo.depth]
  | .cons k s i a r, d, v => by
    have hx : (Fo.cons k s i a r).depth = max (1 + a.depth) r.depth := rfl
    simp only [dm]
    rw [dm_eq a, dm_eq r, hx]
    have h : max (1 + a.depth) r.depth ≠ 0 := by omega
    rw [if_neg h]
    split <;> split <;> omega
theorem dm_whole {f : Fo} : dm 0 1 f = f.depth := by
  have := dm_eq f 0 0
  rw [Nat.zero_add] at this
  rw [this]
  split <;> omega
end Go.Proofs.YtjlpoigcalfdlaaDoor
namespace Go.Proofs.YtjlpoigcalfdlaaDoor
open Go
set_option linter.unusedVariables false
def Fo.app : Fo → Fo → Fo
  | .nil, g => g
  | .cons k s i a r, g => .cons k s i a (r.app g)
theorem Fo.app_size : ∀ f g : Fo, (f.app g).size = f.size + g.size
  | .nil, g => by simp [Fo.app, Fo.size]
  | .cons _ _ _ a r, g => by simp only [Fo.app, Fo.size, Fo.app_size r g]; omega
theorem Fo.app_depth : ∀ f g : Fo, (f.app g).depth = max f.depth g.depth
  | .nil, g => by simp [Fo.app, Fo.depth]
  | .cons _ _ _ a r, g => by simp only [Fo.app, Fo.depth, Fo.app_depth r g]; omega
theorem dm_app : ∀ (f g : Fo) (d v : Nat), dm d v (f.app g) = dm (dm d v f) v g
  | .nil, _, _, _ => rfl
  | .cons _ _ _ a r, g, d, v => by simp only [Fo.app, dm]; exact dm_app r g _ v
theorem takeV_app (l : List EN) : ∀ (ks ms : List Int) (p : Nat), takeV l p (ks ++ ms) =
    match takeV l p ks with
    | none => none
    | some f => match takeV l (p + f.size) ms with
      | none => none
      | some g => some (f.app g)
  | [], ms, p => by
    rw [List.nil_append, takeV_nil]
    simp only [Fo.size, Nat.add_zero, Fo.app]
    cases takeV l p ms <;> rfl
  | k :: ks, ms, p => by
    rw [List.cons_append, takeV_cons, takeV_cons]
    by_cases hk : k = p
    · rw [if_pos hk, if_pos hk]
      cases l[p]? with
      | none => rfl
      | some n =>
        simp only
        cases takeV l (p + 1) n.kids with
        | none => rfl
        | some a =>
          simp only
          rw [takeV_app l ks ms (p + 1 + a.size)]
          cases takeV l (p + 1 + a.size) ks with
          | none => rfl
          | some r =>
            simp only [Fo.size]
            rw [show p + (1 + a.size + r.size) = p + 1 + a.size + r.size from by omega]
            cases takeV l (p + 1 + a.size + r.size) ms <;> rfl
    · rw [if_neg hk, if_neg hk]
/-- what it comes to: behind which node, and how deep -/
def outV (l : List EN) (p d v : Nat) (ks : List Int) : Option (Nat × Nat) := (takeV l p ks).map fun f => (p + f.size, dm d v f)
theorem outV_nil (l : List EN) (p d v : Nat) : outV l p d v [] = some (p, d) := by unfold outV; rw [takeV_nil]; rfl
theorem outV_bad {l : List EN} {p d v : Nat} {k : Int} {ks : List Int} (h : k ≠ p) : outV l p d v (k :: ks) = none := by unfold outV; rw [takeV_cons, if_neg h]; rfl
theorem outV_end {l : List EN} {p d v : Nat} {k : Int} {ks : List Int} (h : l.length ≤ p) : outV l p d v (k :: ks) = none := by
  unfold outV
  rw [takeV_cons, List.getElem?_eq_none h]
  split <;> rfl
theorem outV_one {l : List EN} {p d v : Nat} {n : EN} (h : l[p]? = some n) : outV l p d v [(p : Int)] = outV l (p + 1) (max d v) (v + 1) n.kids := by
  unfold outV
  rw [takeV_hit h]
  cases takeV l (p + 1) n.kids with
  | none => rfl
  | some a =>
    simp only [takeV_nil, Option.map_some, Fo.size, dm, Option.some.injEq, Prod.mk.injEq, and_true]
    omega
theorem outV_cons (l : List EN) (p d v : Nat) (k : Int) (ks : List Int) : outV l p d v (k :: ks) = (outV l p d v [k]).bind fun x => outV l x.1 x.2 v ks := by
  unfold outV
  rw [show k :: ks = [k] ++ ks from rfl, takeV_app]
  cases takeV l p [k] with
  | none => rfl
  | some f =>
    simp only [Option.map_some, Option.bind_some]
    cases takeV l (p + f.size) ks with
    | none => rfl
    | some g => simp only [Option.map_some, Fo.app_size, dm_app, Nat.add_assoc]
theorem outV_le {l : List EN} {p d v : Nat} {ks : List Int} {x : Nat × Nat} (h : outV l p d v ks = some x) : p ≤ x.1 := by
  unfold outV at h
  obtain ⟨f, _, rfl⟩ := Option.map_eq_some_iff.1 h
  exact Nat.le_add_right _ _
theorem outV_len {l : List EN} {p d v : Nat} {ks : List Int} {x : Nat × Nat} (h : outV l p d v ks = some x) (hp : p ≤ l.length) : x.1 ≤ l.length := by
  unfold outV at h
  obtain ⟨f, h1, rfl⟩ := Option.map_eq_some_iff.1 h
  exact (takeV_at h1).1.le _ _ hp
/-- the whole, from the front -/
theorem outV_whole (l : List EN) : outV l 0 0 1 [0] = (wholeV l).map fun f => (f.size, f.depth) := by
  unfold outV wholeV
  cases takeV l 0 [0] with
  | none => rfl
  | some f => simp only [Option.map_some, Nat.zero_add, dm_whole]
/-- what Right tells, out of how the nodes are gone through -/
theorem rightV_out (l : List EN) (h : ¬ 256 < l.length) (h1 : l.all soundB = true) : rightV l = match outV l 0 0 1 [0] with
    | none => 80
    | some x => if x.1 = l.length then (if 32 < x.2 then 4 else 0) else 80 := by
  rw [outV_whole]
  cases hw : wholeV l with
  | none => exact rightV_none h hw
  | some f => exact rightV_some h h1 hw
theorem at_part {l : List EN} : ∀ (f : Fo) (p : Nat), At l p f → ∀ i, p ≤ i → i < p + f.size → ∃ g, At l i g ∧ g.offs i = [(i : Int)]
  | .nil, p, _, i, h1, h2 => by simp only [Fo.size] at h2; omega
  | .cons k s j a r, p, ⟨h1, h2, h3⟩, i, h4, h5 => by
    simp only [Fo.size] at h5
    by_cases e : i = p
    · subst e
      exact ⟨.cons k s j a .nil, ⟨h1, h2, trivial⟩, rfl⟩
    · by_cases e2 : i < p + 1 + a.size
      · exact at_part a (p + 1) h2 i (by omega) (by omega)
      · exact at_part r (p + 1 + a.size) h3 i (by omega) (by omega)
/-- the tree at a place -/
def oneV (l : List EN) (i : Nat) : Option Fo := takeV l i [(i : Int)]
theorem oneV_of {l : List EN} {i : Nat} {n : EN} (h : l[i]? = some n) : oneV l i = (takeV l (i + 1) n.kids).map fun a => .cons n.kind n.text n.int a .nil := by
  unfold oneV
  rw [takeV_hit h]
  cases takeV l (i + 1) n.kids with
  | none => rfl
  | some a => simp only [takeV_nil, Option.map_some]
theorem right_bad {l : List EN} (h : ¬ 256 < l.length) {i : Nat} (hi : i < l.length) (hb : oneV l i = none) : rightV l = 80 := by
  cases ha : l.all soundB with
  | false => exact rightV_bad h ha
  | true =>
    cases hw : wholeV l with
    | none => exact rightV_none h hw
    | some f =>
      rw [rightV_some h ha hw]
      by_cases hs : f.size = l.length
      · exfalso
        obtain ⟨g, g1, g2⟩ := at_part f 0 (takeV_at hw).1 i (Nat.zero_le _) (by omega)
        have := at_takeV l g i g1
        rw [g2] at this
        unfold oneV at hb
        rw [hb] at this; cases this
      · rw [if_neg hs]
theorem right_unsound {l : List EN} (h : ¬ 256 < l.length) {i : Nat} {n : EN} (hi : l[i]? = some n) (hb : soundB n = false) : rightV l = 80 := by
  refine rightV_bad h (Bool.eq_false_iff.2 fun ha => ?_)
  have := List.all_eq_true.1 ha n (List.mem_of_getElem? hi)
  rw [hb] at this; cases this
/-- so far from the back: each node behind is sound, and a tree of that size and depth -/
structure Backed (l : List EN) (sz dp : List Int) (i : Nat) : Prop where
  sn : ∀ j n, i ≤ j → l[j]? = some n → soundB n = true
  tr : ∀ j, i ≤ j → j < l.length → ∃ f, oneV l j = some f ∧ sz[j]? = some (f.size : Int) ∧ dp[j]? = some (f.depth : Int)
/-- a node's kids so far: the first k -/
structure Kidded (l : List EN) (i : Nat) (ks : List Int) (k next deep : Nat) : Prop where
  out : ∃ a, takeV l (i + 1) (ks.take k) = some a ∧ next = i + 1 + a.size ∧ deep = a.depth
theorem Kidded.start (l : List EN) (i : Nat) (ks : List Int) : Kidded l i ks 0 (i + 1) 0 := ⟨.nil, by rw [List.take_zero, takeV_nil], rfl, rfl⟩
theorem Kidded.step {l : List EN} {i k next deep : Nat} {ks : List Int} (h : Kidded l i ks k next deep) (hk : ks[k]? = some (next : Int)) {f : Fo} (hf : oneV l next = some f) : Kidded l i ks (k + 1) (next + f.size) (max deep f.depth) := by
  obtain ⟨a, h1, rfl, rfl⟩ := h.out
  refine ⟨a.app f, ?_, by rw [Fo.app_size]; omega, by rw [Fo.app_depth]⟩
  rw [List.take_add_one, hk]
  simp only [Option.toList]
  rw [takeV_app, h1]
  simp only
  unfold oneV at hf
  rw [hf]
theorem Kidded.bad {l : List EN} {i k next deep : Nat} {n : EN} (hn : l[i]? = some n) (h : Kidded l i n.kids k next deep) {x : Int} (hk : n.kids[k]? = some x) (hx : x ≠ next ∨ l.length ≤ next) : oneV l i = none := by
  obtain ⟨a, h1, rfl, rfl⟩ := h.out
  rw [oneV_of hn]
  have hk' := (List.getElem?_eq_some_iff.1 hk)
  have e : n.kids = n.kids.take k ++ (x :: n.kids.drop (k + 1)) := by
    rw [← hk'.2, List.getElem_cons_drop, List.take_append_drop]
  rw [e, takeV_app, h1]
  simp only
  have : takeV l (i + 1 + a.size) (x :: n.kids.drop (k + 1)) = none := by
    rw [takeV_cons]
    rcases hx with hx | hx
    · rw [if_neg hx]
    · rw [List.getElem?_eq_none hx]; split <;> rfl
  rw [this]; rfl
theorem Kidded.fin {l : List EN} {i k next deep : Nat} {n : EN} (hn : l[i]? = some n) (h : Kidded l i n.kids k next deep) (hk : n.kids.length ≤ k) : ∃ f, oneV l i = some f ∧ f.size = next - i ∧ f.depth = deep + 1 ∧ i < next := by
  obtain ⟨a, h1, rfl, rfl⟩ := h.out
  rw [List.take_of_length_le hk] at h1
  refine ⟨_, by rw [oneV_of hn, h1]; rfl, ?_, ?_, by omega⟩
  · simp only [Fo.size]; omega
  · simp only [Fo.depth]; omega
theorem Backed.fin {l : List EN} {sz dp : List Int} (h : Backed l sz dp 0) (h0 : ¬ 256 < l.length) (hl : 0 < l.length) {s d : Int} (hs : sz[0]? = some s) (hd : dp[0]? = some d) : rightV l = if s = l.length then (if 32 < d then 4 else 0) else 80 := by
  have ha : l.all soundB = true := List.all_eq_true.2 fun n hn => by
    obtain ⟨j, hj⟩ := List.getElem?_of_mem hn
    exact h.sn j n (Nat.zero_le _) hj
  obtain ⟨f, h1, h2, h3⟩ := h.tr 0 (Nat.zero_le _) hl
  have hw : wholeV l = some f := h1
  rw [rightV_some h0 ha hw]
  rw [hs] at h2
  rw [hd] at h3
  injection h2 with h2
  injection h3 with h3
  subst h2 h3
  by_cases e : f.size = l.length
  · have e' : (f.size : Int) = (l.length : Int) := by omega
    rw [if_pos e, if_pos e']
    by_cases e2 : 32 < f.depth
    · have e3 : (32 : Int) < (f.depth : Int) := by omega
      rw [if_pos e2, if_pos e3]
    · have e3 : ¬ (32 : Int) < (f.depth : Int) := by omega
      rw [if_neg e2, if_neg e3]
  · have e' : ¬ (f.size : Int) = (l.length : Int) := by omega
    rw [if_neg e, if_neg e']
theorem Backed.start (l : List EN) (sz dp : List Int) : Backed l sz dp l.length :=
  ⟨fun j n h1 h2 => by have := (List.getElem?_eq_some_iff.1 h2).1; omega, fun j h1 h2 => by omega⟩
theorem Backed.step {l : List EN} {sz dp sz' dp' : List Int} {i : Nat} {n : EN} (h : Backed l sz dp (i + 1)) (hn : l[i]? = some n) (hs : soundB n = true) {f : Fo} (hf : oneV l i = some f) (h1 : sz'[i]? = some (f.size : Int)) (h2 : dp'[i]? = some (f.depth : Int)) (h3 : ∀ j, i < j → sz'[j]? = sz[j]?) (h4 : ∀ j, i < j → dp'[j]? = dp[j]?) : Backed l sz' dp' i := by
  refine ⟨fun j m hj hm => ?_, fun j hj hl => ?_⟩
  · by_cases e : j = i
    · subst e; rw [hn] at hm; injection hm with hm; subst hm; exact hs
    · exact h.sn j m (by omega) hm
  · by_cases e : j = i
    · subst e; exact ⟨f, hf, h1, h2⟩
    · obtain ⟨g, g1, g2, g3⟩ := h.tr j (by omega) hl
      exact ⟨g, g1, by rw [h3 j (by omega)]; exact g2, by rw [h4 j (by omega)]; exact g3⟩
end Go.Proofs.YtjlpoigcalfdlaaDoor
namespace Go.Proofs.YtjlpoigcalfdlaaDoor
open Go
set_option linter.unusedVariables false
def bindsB (k : Int) : Bool := decide (31 ≤ k) && decide (k ≤ 34)
abbrev Bnd := List (List UInt8)
/-- what is bound at a node's j-th kid -/
def inner (k : Int) (s : ByteArray) (e : Bnd) (j : Nat) : Bnd := if j = 1 ∧ bindsB k = true then s.data.toList :: e else e
def oneK (k o : Int) : Int :=
  if (k = 8 ∧ o = 4) ∨ (k = 17 ∧ o = 4) ∨ (k = 16 ∧ o = 1) then 2
  else if (k = 9 ∧ o = 4) ∨ (k = 13 ∧ o = 4) then 5
  else if (k = 10 ∧ o = 4) ∨ (k = 11 ∧ o = 4) ∨ (k = 15 ∧ o = 5) then 4
  else if (k = 12 ∧ o = 4) ∨ (k = 29 ∧ o = 3) then 3
  else if (k = 18 ∧ o = 4) ∨ (k = 14 ∧ o = 5) ∨ (k = 19 ∧ o = 2) then 1 else 0
def twoK (k a b : Int) : Int :=
  if k = 20 then (if a = b ∧ (a = 1 ∨ a = 2) then a else 0)
  else if k = 21 ∨ k = 22 then (if a = 1 ∧ b = 1 then 1 else 0)
  else if k = 23 ∨ k = 24 then (if a = b ∧ a ≠ 5 then 3 else 0)
  else if k = 25 ∨ k = 26 then (if a = b ∧ (a = 1 ∨ a = 2) then 3 else 0)
  else if k = 27 ∨ k = 28 then (if a = 3 ∧ b = 3 then 3 else 0)
  else if k = 31 ∨ k = 32 then (if a = 5 ∧ b = 3 then 3 else 0)
  else if k = 33 then (if a = 5 ∧ b = 3 then 5 else 0)
  else if k = 34 then (if a = 5 ∧ b = 1 then 1 else 0) else 0
/-- a node's kind, by the kinds of its kids; 0: it is wrong, or a kid has none -/
def kindV (k : Int) (bd : Bool) (ks : List Int) : Int :=
  if ks.contains 0 = true then 0
  else if k = 1 then 1 else if k = 2 then 2 else if k = 3 ∨ k = 4 then 3 else if k = 5 ∨ k = 6 then 4 else if k = 7 then (if bd = true then 4 else 0)
  else if k = 30 then (match ks with | [a, b, c] => if a = 3 ∧ b = c then b else 0 | _ => 0)
  else match ks with
    | [a] => oneK k a
    | [a, b] => twoK k a b
    | _ => 0
namespace Fo
/-- the kinds of the trees of a row -/
def kr : Fo → (Nat → Bnd) → List Int
  | nil, _ => []
  | cons k s _ a r, e => kindV k ((e 0).contains s.data.toList) (kr a (inner k s (e 0))) :: kr r (fun j => e (j + 1))
/-- the kinds of all nodes -/
def ka : Fo → (Nat → Bnd) → List Int
  | nil, _ => []
  | cons k s _ a r, e => kindV k ((e 0).contains s.data.toList) (kr a (inner k s (e 0))) :: (ka a (inner k s (e 0)) ++ ka r (fun j => e (j + 1)))
/-- the first node that is wrong, a node behind its kids -/
def wr : Fo → Nat → (Nat → Bnd) → Option Nat
  | nil, _, _ => none
  | cons k s _ a r, p, e =>
    match wr a (p + 1) (inner k s (e 0)) with
    | some q => some q
    | none => if kindV k ((e 0).contains s.data.toList) (kr a (inner k s (e 0))) = 0 then some p else wr r (p + 1 + a.size) (fun j => e (j + 1))
/-- the nodes, each behind its kids; is it a variable that isn't bound there? -/
def post : Fo → Nat → (Nat → Bnd) → List (Nat × Bool)
  | nil, _, _ => []
  | cons k s _ a r, p, e => post a (p + 1) (inner k s (e 0)) ++ (p, k == 7 && !(e 0).contains s.data.toList) :: post r (p + 1 + a.size) (fun j => e (j + 1))
end Fo
theorem post_len : ∀ (f : Fo) (p : Nat) (e : Nat → Bnd), (f.post p e).length = f.size
  | .nil, _, _ => rfl
  | .cons k s i a r, p, e => by simp only [Fo.post, Fo.size, List.length_cons, List.length_append, post_len a, post_len r]; omega
theorem post_in : ∀ (f : Fo) (p : Nat) (e : Nat → Bnd), ∀ x ∈ f.post p e, p ≤ x.1 ∧ x.1 < p + f.size
  | .nil, _, _, x, h => by simp [Fo.post] at h
  | .cons k s i a r, p, e, x, h => by
    simp only [Fo.post, List.mem_append, List.mem_cons] at h
    simp only [Fo.size]
    rcases h with h | rfl | h
    · have := post_in a (p + 1) _ x h; omega
    · constructor <;> simp <;> omega
    · have := post_in r (p + 1 + a.size) _ x h; omega
end Go.Proofs.YtjlpoigcalfdlaaDoor
namespace Go.Proofs.YtjlpoigcalfdlaaDoor
open Go
set_option linter.unusedVariables false
def rowsL : List (List Nat) := [[0, 0, 0, 0], [2, 0, 0, 0], [4, 0, 0, 0], [8, 0, 0, 0], [8, 0, 0, 0], [16, 0, 0, 0], [16, 0, 0, 0], [16, 0, 0, 0], [4, 16, 0, 0], [32, 16, 0, 0], [16, 16, 0, 0], [16, 16, 0, 0], [8, 16, 0, 0], [32, 16, 0, 0], [2, 32, 0, 0], [16, 32, 0, 0], [4, 2, 0, 0], [4, 16, 0, 0], [2, 16, 0, 0], [2, 4, 0, 0], [6, 6, 6, 0], [2, 2, 2, 0], [2, 2, 2, 0], [8, 30, 30, 0], [8, 30, 30, 0], [8, 6, 6, 0], [8, 6, 6, 0], [8, 8, 8, 0], [8, 8, 8, 0], [8, 8, 0, 0], [62, 8, 62, 62], [8, 32, 8, 0], [8, 32, 8, 0], [32, 32, 8, 0], [2, 32, 2, 0]]
def popN : Nat → Nat → Nat
  | 0, _ => 0
  | f + 1, n => n % 2 + popN f (n / 2)
/-- how many kinds are in a set -/
def pop8 (n : Nat) : Nat := popN 8 n
def ctzN : Nat → Nat → Nat
  | 0, _ => 0
  | f + 1, n => if n % 2 = 1 then 0 else 1 + ctzN f (n / 2)
/-- the first kind of a set -/
def ctz8 (n : Nat) : Nat := ctzN 8 n
def foldK (row : List Nat) : Nat → Nat → List Int → Option Nat
  | _, m, [] => some m
  | i, m, x :: ks =>
    if 1 < pop8 (row.getD (i + 1) 0) then
      (if m &&& (row.getD (i + 1) 0 &&& 1 <<< x.toNat) = 0 then none else foldK row (i + 1) (m &&& (row.getD (i + 1) 0 &&& 1 <<< x.toNat)) ks)
    else (if row.getD (i + 1) 0 &&& 1 <<< x.toNat = 0 then none else foldK row (i + 1) m ks)
/-- what the program's table tells; 0: the node is wrong -/
def kindP (k : Int) (ks : List Int) : Int :=
  match foldK (rowsL.getD k.toNat []) 0 62 ks with
  | none => 0
  | some m => if 1 < pop8 ((rowsL.getD k.toNat []).getD 0 0) then ctz8 m else ctz8 ((rowsL.getD k.toNat []).getD 0 0)
inductive Run where
  | bad (at_ : Nat) (err : Int) : Run
  | ok (known : List Int) : Run
def runP (l : List EN) : List (Nat × Bool) → List Int → Run
  | [], K => .ok K
  | (p, b) :: r, K =>
    if b = true then .bad p 91 else
      match l[p]? with
      | none => .bad p 0
      | some n => if kindP n.kind (n.kids.map fun q => K.getD q.toNat 0) = 0 then .bad p 90 else runP l r (K.set p (kindP n.kind (n.kids.map fun q => K.getD q.toNat 0)))
/-- values laid over a list from a place on -/
def over (K : List Int) (p : Nat) (vs : List Int) : List Int := K.take p ++ vs ++ K.drop (p + vs.length)
end Go.Proofs.YtjlpoigcalfdlaaDoor

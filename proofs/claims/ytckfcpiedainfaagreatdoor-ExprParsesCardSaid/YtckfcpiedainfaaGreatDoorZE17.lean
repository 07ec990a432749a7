/-
  PLAIN: with enough fuel, fuel does not matter: the reader's equations (rdX_lv, rdX_row, rdX_step); readV reads a whole text. No program stands in it.
  PLAIN: a tree's list of nodes (Fo.nodes, Tr.list, at_list), nodes made one after another (Made, OneM), what Parse answers (parseV, placeV). No program stands in it.
  MEMORY: trees in own memory (TsIn: each in a block of its own, its kids' pointers in a row), the reader (RdIn: the tokens, where it is, the text's length).
  WALKS over package expr's reader: has, refuse.
-/
import Derived.Test.YtckfcpiedainfaaGreatDoorZE16
import Derived.Deep.QuietTactic
import Derived.BigQuiet
namespace Go.Proofs.YtckfcpiedainfaaGreatDoor
open Go
set_option linter.unusedVariables false
theorem bind_same {α β : Type} {x x' : Except (List Tok) α} {f f' : α → Except (List Tok) β} (h : x = x') (h2 : ∀ a, x = .ok a → f a = f' a) : bindR x f = bindR x' f' := by
  subst h
  cases x with
  | ok a => exact h2 a rfl
  | error e => rfl
theorem ite_same {α : Type} {c : Prop} [Decidable c] {a a' b b' : α} (h1 : c → a = b) (h2 : ¬ c → a' = b') : (if c then a else a') = (if c then b else b') := by
  by_cases h : c
  · rw [if_pos h, if_pos h]; exact h1 h
  · rw [if_neg h, if_neg h]; exact h2 h
/-- the two answer the same for all lists with fewer tokens -/
abbrev Short (rd rd' : Md → List Tok → Rd) (k : Nat) : Prop := ∀ m l, Md.okM m → l.length < k → rd m l = rd' m l
theorem ok1 : Md.okM (.lv 1) := ⟨Nat.le_refl _, by decide⟩
section
variable {rd rd' : Md → List Tok → Rd} {k : Nat}
theorem until_same (hs : Short rd rd' k) {l : List Tok} {s : List UInt8} (hl : l.length < k) : untilV rd l s = untilV rd' l s := bind_same (hs _ l ok1 hl) fun _ _ => rfl
theorem prim_same (h : LessAll rd) (l : List Tok) (hs : Short rd rd' l.length) : primV rd l = primV rd' l := by
  cases l with
  | nil => rfl
  | cons t r =>
    have hr : r.length < (t :: r).length := Nat.lt_succ_self _
    unfold primV
    refine ite_same (fun _ => rfl) fun _ => ite_same (fun _ => rfl) fun _ => ite_same (fun _ => rfl) fun _ => ite_same (fun _ => rfl) fun _ => ?_
    refine ite_same (fun _ => until_same hs hr) fun _ => ite_same (fun _ => rfl) fun _ => ite_same (fun _ => ?_) fun _ => ite_same (fun _ => ?_) fun _ => ite_same (fun _ => ?_) fun _ => rfl
    · refine bind_same (until_same hs hr) fun a ha => ?_
      have h1 := (until_lt h r _).ok ha
      refine bind_same (until_same hs (by omega)) fun b hb => ?_
      have h2 := (until_lt h a.2 _).ok hb
      exact bind_same (until_same hs (by omega)) fun _ _ => rfl
    · refine bind_same rfl fun q hq => ?_
      obtain ⟨hm, rfl⟩ := mustV_ok hq
      have := isM_drop hm
      exact bind_same (until_same hs (by omega)) fun _ _ => rfl
    · refine bind_same rfl fun x hx => ?_
      obtain ⟨u, q, rfl, _, rfl⟩ := nameV_ok hx
      have hq : q.length < (u :: q).length := Nat.lt_succ_self _
      refine bind_same rfl fun q2 hq2 => ?_
      obtain ⟨hm, rfl⟩ := mustV_ok hq2
      have hd := isM_drop hm
      dsimp only at hd ⊢
      generalize hz : (t :: u :: q).length = z at *
      refine bind_same (until_same hs (by omega)) fun a ha => ?_
      have h1 := (until_lt h _ _).ok ha
      exact bind_same (until_same hs (by omega)) fun _ _ => rfl
theorem lv_same (h : LessAll rd) (n : Nat) (l : List Tok) (hn : Md.okM (.lv n)) (hs : Short rd rd' l.length) (ht : ∀ n', n < n' → n' ≤ 8 → rd (.lv n') l = rd' (.lv n') l) : lvV rd n l = lvV rd' n l := by
  unfold lvV
  split
  · next e3 =>
    subst e3
    split
    · next hm => exact bind_same (hs _ _ ⟨by decide, by decide⟩ (isM_drop hm)) fun _ _ => rfl
    · exact ht 4 (by decide) (by decide)
  split
  · next e4 =>
    subst e4
    refine bind_same (ht 5 (by decide) (by decide)) fun a ha => ?_
    have h1 := (h.lv 5 l).ok ha
    split
    · rfl
    · next hg =>
      have hd := signV_drop hg
      exact bind_same (hs _ _ ⟨by decide, by decide⟩ (by omega)) fun _ _ => rfl
  split
  · next e7 =>
    subst e7
    exact bind_same (ht 8 (by decide) (by decide)) fun a ha => hs _ _ trivial ((h.lv 8 l).ok ha)
  split
  · exact prim_same h l hs
  · refine bind_same (ht (n + 1) (Nat.lt_succ_self n) (by have := hn.2; omega)) fun a ha => hs _ _ ?_ ((h.lv (n + 1) l).ok ha)
    show n = 1 ∨ n = 2 ∨ n = 5 ∨ n = 6
    have := hn.1; have := hn.2; omega
theorem row_same (h : LessAll rd) (n : Nat) (t : Tr) (l : List Tok) (hn : Md.okM (.row n t)) (hs : Short rd rd' l.length) : rowV rd n t l = rowV rd' n t l := by
  unfold rowV
  split
  · rfl
  · next hg =>
    have hd := signV_drop hg
    have hn' : n = 1 ∨ n = 2 ∨ n = 5 ∨ n = 6 := hn
    refine bind_same (hs _ _ (by show 1 ≤ n + 1 ∧ n + 1 ≤ 8; omega) hd) fun b hb => ?_
    exact hs _ _ hn (by have := (h.lv _ _).ok hb; omega)
theorem steps_same (h : LessAll rd) (t : Tr) (l : List Tok) (hs : Short rd rd' l.length) : stepsV rd t l = stepsV rd' t l := by
  unfold stepsV
  split
  · rfl
  next hg =>
  have hd := stepV_drop hg
  split
  · exact hs _ _ trivial hd
  · refine bind_same rfl fun x hx => ?_
    obtain ⟨u, q, e, _, rfl⟩ := nameV_ok hx
    refine hs _ _ trivial ?_
    have : q.length < (l.drop 1).length := by rw [e]; exact Nat.lt_succ_self _
    show q.length < _
    omega
end
theorem need_short {m m' : Md} {l l' : List Tok} (hm : Md.okM m) (hm' : Md.okM m') (h : l'.length < l.length) : need m' l' + 1 ≤ need m l := by
  have e1 : need m' l' ≤ 10 * l'.length + 9 := by
    cases m' with
    | lv n => show _ + (10 - n) ≤ _; have := hm'.1; omega
    | row n t => show _ + 1 ≤ _; omega
    | step t => show _ + 1 ≤ _; omega
  have e2 : 10 * l.length ≤ need m l := by unfold need; omega
  omega
theorem need_lv {n n' : Nat} {l : List Tok} (h : n < n') (hn : n' ≤ 8) : need (.lv n') l + 1 ≤ need (.lv n) l := by
  show 10 * l.length + (10 - n') + 1 ≤ 10 * l.length + (10 - n); omega
/-- with enough fuel, fuel does not matter -/
theorem rd_fuel : ∀ (f g : Nat) (m : Md) (l : List Tok), Md.okM m → need m l ≤ f → need m l ≤ g → rdV f m l = rdV g m l := by
  intro f
  induction f with
  | zero =>
    intro g m l hm hf
    exact absurd hf (by cases m with
      | lv n => show ¬ (_ + (10 - n) ≤ _); have := hm.2; omega
      | row n t => show ¬ (_ + 1 ≤ _); omega
      | step t => show ¬ (_ + 1 ≤ _); omega)
  | succ f ih =>
    intro g m l hm hf hg
    cases g with
    | zero => exact absurd hg (by cases m with
      | lv n => show ¬ (_ + (10 - n) ≤ _); have := hm.2; omega
      | row n t => show ¬ (_ + 1 ≤ _); omega
      | step t => show ¬ (_ + 1 ≤ _); omega)
    | succ g =>
      have hs : Short (rdV f) (rdV g) l.length := fun m' l' hm' hl => by
        have := need_short hm hm' hl
        exact ih g m' l' hm' (by omega) (by omega)
      cases m with
      | lv n =>
        refine lv_same (rd_less f) n l hm hs fun n' h1 h2 => ?_
        have := need_lv (l := l) h1 h2
        exact ih g _ l ⟨by have := hm.1; omega, h2⟩ (by omega) (by omega)
      | row n t => exact row_same (rd_less f) n t l hm hs
      | step t => exact steps_same (rd_less f) t l hs
/-- the reader, with enough fuel -/
def rdX (m : Md) (l : List Tok) : Rd := rdV (need m l) m l
theorem rdX_less : LessAll rdX := fun m l => rd_less _ m l
theorem rdX_lv {n : Nat} {l : List Tok} (hn : Md.okM (.lv n)) : rdX (.lv n) l = lvV rdX n l := by
  have e : need (.lv n) l = (10 * l.length + (9 - n)) + 1 := by show 10 * l.length + (10 - n) = _; have := hn.2; omega
  unfold rdX
  rw [e]
  show lvV (rdV _) n l = _
  refine lv_same (rd_less _) n l hn (fun m' l' hm' hl => ?_) fun n' h1 h2 => ?_
  · have := need_short hn hm' hl
    exact rd_fuel _ _ _ _ hm' (by omega) (Nat.le_refl _)
  · have := need_lv (l := l) h1 h2
    exact rd_fuel _ _ _ _ ⟨by have := hn.1; omega, h2⟩ (by omega) (Nat.le_refl _)
theorem rdX_row {n : Nat} {t : Tr} {l : List Tok} (hn : Md.okM (.row n t)) : rdX (.row n t) l = rowV rdX n t l := by
  unfold rdX
  show rowV (rdV (10 * l.length)) n t l = _
  refine row_same (rd_less _) n t l hn fun m' l' hm' hl => ?_
  have := need_short hn hm' hl
  have e : need (.row n t) l = 10 * l.length + 1 := rfl
  exact rd_fuel _ _ _ _ hm' (by omega) (Nat.le_refl _)
theorem rdX_step {t : Tr} {l : List Tok} : rdX (.step t) l = stepsV rdX t l := by
  unfold rdX
  show stepsV (rdV (10 * l.length)) t l = _
  refine steps_same (rd_less _) t l fun m' l' hm' hl => ?_
  have := need_short (m := .step t) trivial hm' hl
  have e : need (.step t) l = 10 * l.length + 1 := rfl
  exact rd_fuel _ _ _ _ hm' (by omega) (Nat.le_refl _)
/-- the whole text: all the tokens, or where it goes on no more -/
def readV (l : List Tok) : Except (List Tok) Tr := match rdX (.lv 1) l with
  | .ok p => match p.2 with
    | [] => .ok p.1
    | t :: r => .error (t :: r)
  | .error e => .error e
end Go.Proofs.YtckfcpiedainfaaGreatDoor
namespace Go.Proofs.YtckfcpiedainfaaGreatDoor
open Go
set_option linter.unusedVariables false
/-- a row of trees as a list of nodes, from a place on, in the order in which they are met -/
def Fo.nodes : Nat → Fo → List EN
  | _, .nil => []
  | p, .cons k s i a r => ⟨k, s, i, a.offs (p + 1)⟩ :: (a.nodes (p + 1) ++ r.nodes (p + 1 + a.size))
theorem nodes_len : ∀ (f : Fo) (p : Nat), (f.nodes p).length = f.size
  | .nil, _ => rfl
  | .cons _ _ _ a r, p => by
    simp only [Fo.nodes, Fo.size, List.length_cons, List.length_append, nodes_len a, nodes_len r]; omega
/-- a tree's list -/
def Tr.list (t : Tr) : List EN := (row1 t).nodes 0
def Tr.size (t : Tr) : Nat := 1 + t.a.size
def Tr.depth (t : Tr) : Nat := 1 + t.a.depth
theorem row1_size (t : Tr) : (row1 t).size = t.size := rfl
theorem row2_size (t u : Tr) : (row2 t u).size = t.size + u.size := rfl
theorem row3_size (t u v : Tr) : (row3 t u v).size = t.size + (u.size + v.size) := rfl
/-- nodes that were made one after another: a node's kids are told by their numbers. The numbers ks are those of the row of trees f -/
def Made (l : List EN) : List Int → Fo → Prop
  | ks, .nil => ks = []
  | ks, .cons k s i a r => ∃ (j : Nat) (js ks' : List Int), ks = (j : Int) :: ks' ∧ l[j]? = some ⟨k, s, i, js⟩ ∧ Made l js a ∧ Made l ks' r
theorem Made.more {l : List EN} (q : List EN) : ∀ {ks : List Int} {f : Fo}, Made l ks f → Made (l ++ q) ks f
  | _, .nil, h => h
  | _, .cons _ _ _ _ _, ⟨j, js, ks', e, h1, h2, h3⟩ => ⟨j, js, ks', e, by
      rw [List.getElem?_append_left (List.getElem?_eq_some_iff.1 h1).1]; exact h1, Made.more q h2, Made.more q h3⟩
theorem Made.len {l : List EN} : ∀ {ks : List Int} {f : Fo}, Made l ks f → ks.length = f.count
  | _, .nil, h => by rw [show _ = _ from h]; rfl
  | _, .cons _ _ _ _ _, ⟨_, _, _, e, _, _, h3⟩ => by rw [e, List.length_cons, Made.len h3]; show _ = 1 + _; omega
/-- one tree that was made -/
def OneM (l : List EN) (j : Nat) (t : Tr) : Prop := ∃ js, l[j]? = some ⟨t.k, t.s, t.i, js⟩ ∧ Made l js t.a
theorem OneM.more {l : List EN} {j : Nat} {t : Tr} (h : OneM l j t) (q : List EN) : OneM (l ++ q) j t := by
  obtain ⟨js, h1, h2⟩ := h
  exact ⟨js, by rw [List.getElem?_append_left (List.getElem?_eq_some_iff.1 h1).1]; exact h1, h2.more q⟩
theorem made_nil (l : List EN) : Made l [] .nil := rfl
theorem made_cons {l : List EN} {j : Nat} {t : Tr} {ks : List Int} {r : Fo} (h : OneM l j t) (hr : Made l ks r) : Made l ((j : Int) :: ks) (.cons t.k t.s t.i t.a r) := by
  obtain ⟨js, h1, h2⟩ := h
  exact ⟨j, js, ks, rfl, h1, h2, hr⟩
theorem made1 {l : List EN} {j : Nat} {t : Tr} (h : OneM l j t) : Made l [(j : Int)] (row1 t) := made_cons h (made_nil l)
theorem made2 {l : List EN} {j k : Nat} {t u : Tr} (h : OneM l j t) (h2 : OneM l k u) : Made l [(j : Int), (k : Int)] (row2 t u) := made_cons h (made1 h2)
theorem made3 {l : List EN} {j k m : Nat} {t u v : Tr} (h : OneM l j t) (h2 : OneM l k u) (h3 : OneM l m v) : Made l [(j : Int), (k : Int), (m : Int)] (row3 t u v) := made_cons h (made2 h2 h3)
/-- a node is made -/
theorem one_add {l : List EN} {ks : List Int} {f : Fo} (h : Made l ks f) (k : Int) (s : ByteArray) (i : Int) : OneM (l ++ [⟨k, s, i, ks⟩]) l.length ⟨k, s, i, f⟩ :=
  ⟨ks, by rw [List.getElem?_append_right (Nat.le_refl _), Nat.sub_self]; rfl, h.more _⟩
/-- the limits of a whole -/
def parseV (l : List Tok) : Except (List Tok) (Option (List EN)) := match readV l with
  | .error e => .error e
  | .ok t => .ok (if 256 < t.size ∨ 32 < t.depth then none else some t.list)
/-- the place of an error: of the token ahead, or the text's end -/
def placeV (l : List Tok) (fin : Int) : Int := match l with
  | t :: _ => t.place
  | [] => fin
end Go.Proofs.YtckfcpiedainfaaGreatDoor
namespace Go.Proofs.YtckfcpiedainfaaGreatDoor
open Go Go.RowKit
set_option linter.unusedVariables false
/-- a tree's cells: its node (with no kids yet), the pointers of its kids, how many nodes it has, how deep it is -/
def treeC (k : Int) (s : ByteArray) (i : Int) (v : Value) (a : Fo) : Array Value := #[.int .i64 k, .string s, .int .i64 i, .slice none 0 0, v, .int .i64 ((1 + a.size : Nat) : Int), .int .i64 ((1 + a.depth : Nat) : Int)]
/-- a row of trees' pointers -/
def PRow (w : World) (B : Nat) (v : Value) (qs : List Value) : Prop := (qs = [] ∧ v = .slice none 0 0) ∨ ∃ q, B ≤ q ∧ v = .slice (some ⟨q, 0, none⟩) qs.length qs.length ∧ Blk w q 48 qs.toArray
theorem PRow.kept {w w' : World} {B : Nat} {v : Value} {qs : List Value} {g : Nat} (h : PRow w B v qs) (hg : w.grownBy w' (some g)) (hB : g < B) : PRow w' B v qs := by
  rcases h with h | ⟨q, h1, h2, h3⟩
  · exact .inl h
  · exact .inr ⟨q, h1, h2, h3.grown hg (by simp; omega)⟩
/-- trees in own memory, from the block B on: their pointers -/
def TsIn (w : World) (B : Nat) : Fo → List Value → Prop
  | .nil, ps => ps = []
  | .cons k s i a r, ps => ∃ b v qs ps', ps = .pointer (some ⟨b, 0, none⟩) :: ps' ∧ B ≤ b ∧ Blk w b 55 (treeC k s i v a) ∧ PRow w B v qs ∧ TsIn w B a qs ∧ TsIn w B r ps'
theorem TsIn.kept {w w' : World} {B g : Nat} (hg : w.grownBy w' (some g)) (hB : g < B) : ∀ {f : Fo} {ps : List Value}, TsIn w B f ps → TsIn w' B f ps
  | .nil, _, h => h
  | .cons _ _ _ _ _, _, ⟨b, v, qs, ps', e, hb, h1, h2, h3, h4⟩ => ⟨b, v, qs, ps', e, hb, h1.grown hg (by simp; omega), h2.kept hg hB, TsIn.kept hg hB h3, TsIn.kept hg hB h4⟩
theorem TsIn.len {w : World} {B : Nat} : ∀ {f : Fo} {ps : List Value}, TsIn w B f ps → ps.length = f.count
  | .nil, _, h => by rw [show _ = _ from h]; rfl
  | .cons _ _ _ _ _, _, ⟨_, _, _, _, e, _, _, _, _, h4⟩ => by rw [e, List.length_cons, TsIn.len h4]; show _ = 1 + _; omega
/-- one tree, by its block -/
def TIn (w : World) (B b : Nat) (t : Tr) : Prop := ∃ v qs, B ≤ b ∧ Blk w b 55 (treeC t.k t.s t.i v t.a) ∧ PRow w B v qs ∧ TsIn w B t.a qs
theorem TIn.kept {w w' : World} {B b g : Nat} {t : Tr} (h : TIn w B b t) (hg : w.grownBy w' (some g)) (hB : g < B) : TIn w' B b t := by
  obtain ⟨v, qs, h0, h1, h2, h3⟩ := h
  exact ⟨v, qs, h0, h1.grown hg (by simp; omega), h2.kept hg hB, TsIn.kept hg hB h3⟩
theorem TIn.after {w w' : World} {B b : Nat} {t : Tr} (h : TIn w B b t) (hb : Below w.heap.size w w') (hB : 0 < B) : TIn w' B b t :=
  h.kept (g := 0) ⟨hb.os, hb.tape, hb.output, hb.size, fun k hk _ => hb.block k hk⟩ hB
theorem ts_nil (w : World) (B : Nat) : TsIn w B .nil [] := rfl
theorem ts_cons {w : World} {B b : Nat} {t : Tr} {r : Fo} {ps : List Value} (h : TIn w B b t) (hr : TsIn w B r ps) : TsIn w B (.cons t.k t.s t.i t.a r) (.pointer (some ⟨b, 0, none⟩) :: ps) := by
  obtain ⟨v, qs, h0, h1, h2, h3⟩ := h
  exact ⟨b, v, qs, ps, rfl, h0, h1, h2, h3, hr⟩
/-- the reader, in the block g: l are the tokens ahead of it -/
structure RdIn (w : World) (g : Nat) (A : Option Addr) (c : Nat) (all : List Tok) (fin : Int) (at_ : Nat) : Prop where
  blk : Blk w g 47 #[.slice A all.length c, .int .i64 at_, .int .i64 fin]
  own : ∃ B, OwnT w B (.slice A all.length c) all
  far : ∀ a, A = some a → a.block ≠ g
  le : at_ ≤ all.length
  room : all.length ≤ 1000000
  kinds : ∀ t ∈ all, 1 ≤ t.kind ∧ t.kind ≤ 5
  txt : TxtOk all
theorem RdIn.after {w w' : World} {g : Nat} {A : Option Addr} {c : Nat} {all : List Tok} {fin : Int} {p : Nat} (h : RdIn w g A c all fin p) (hb : Below w.heap.size w w') : RdIn w' g A c all fin p := by
  obtain ⟨B, ho⟩ := h.own
  exact ⟨h.blk.after hb, ⟨B, ho.kept ⟨hb.os, hb.tape, hb.output, hb.size, fun k hk _ => hb.block k hk⟩ (row := none) (by cases A <;> simp [Value.ownBlock])⟩, h.far, h.le, h.room, h.kinds, h.txt⟩
end Go.Proofs.YtckfcpiedainfaaGreatDoor
namespace Go.Proofs.YtckfcpiedainfaaGreatDoor
open Go Go.RowKit
set_option linter.unusedVariables false
/-- the next token, where it lies -/
theorem RdIn.tok {w : World} {g c p : Nat} {A : Option Addr} {all : List Tok} {fin : Int} (h : RdIn w g A c all fin p) {t : Tok} (ht : all[p]? = some t) :
    ∃ b, A = some ⟨b, 0, none⟩ ∧ w.cell? ⟨b, p * 4, none⟩ = some (.int .i64 t.kind) ∧ w.cell? ⟨b, p * 4 + 1, none⟩ = some (.string t.text) ∧ w.cell? ⟨b, p * 4 + 2, none⟩ = some (.int .i64 t.int) ∧ w.cell? ⟨b, p * 4 + 3, none⟩ = some (.int .i64 t.place) := by
  obtain ⟨B, ho⟩ := h.own
  have hp := (List.getElem?_eq_some_iff.1 ht).1
  have hr : Row w B w.heap.size 4 A all.length c (toksCells all) := own_row ho
  obtain ⟨b, o, e, h1, h2, hc⟩ := hr.at_ (by omega)
  have ho' := ho
  rcases ho'.2 with ⟨e0, hn⟩ | ⟨b', cap, cur, e', _⟩
  · rw [e] at e0; cases e0
  · have e2 : A = some ⟨b', 0, none⟩ := by injection e'
    subst e2
    injection e with e; injection e with e3 e4; subst e3; subst e4
    have hk : ∀ j u, j < 4 → (tokCells t)[j]? = some u → w.cell? ⟨b', p * 4 + j, none⟩ = some u := fun j u hj hu => by
      have := hc (p * 4 + j) u (by unfold toksCells; rw [flatN_get tokCells_len all p t ht j hj]; exact hu)
      simpa using this
    exact ⟨b', rfl, hk 0 _ (by decide) rfl, hk 1 _ (by decide) rfl, hk 2 _ (by decide) rfl, hk 3 _ (by decide) rfl⟩
/-- is there a next token of that kind? -/
def hasK (l : List Tok) (k : Int) : Bool := match l with
  | t :: _ => t.kind == k
  | [] => false
theorem drop_head {l : List Tok} {p : Nat} {t : Tok} (h : l[p]? = some t) : l.drop p = t :: l.drop (p + 1) := by
  have hp := (List.getElem?_eq_some_iff.1 h).1
  rw [List.drop_eq_getElem_cons hp, (List.getElem?_eq_some_iff.1 h).2]
theorem drop_end {l : List Tok} {p : Nat} (h : ¬ p < l.length) : l.drop p = [] := List.drop_eq_nil_of_le (by omega)
set_option maxHeartbeats 400000 in
theorem has_any (w : World) (g c p : Nat) (A : Option Addr) (all : List Tok) (fin k : Int) (h : RdIn w g A c all fin p) :
    Calls Tryz.prog 95 #[.pointer (some ⟨g, 0, none⟩), .int .i64 k] w (Ret w (.bool (hasK (all.drop p) k))) := by
  have c0 := h.blk.cell 0
  have c1 := h.blk.cell 1
  simp at c0 c1
  have hroom := h.room
  by_cases hp : p < all.length
  · have ht : all[p]? = some all[p] := List.getElem?_eq_getElem hp
    obtain ⟨b, rfl, d0, d1, d2, d3⟩ := h.tok ht
    rw [drop_head ht]
    have q1 : decide ((p : Int) < (all.length : Int)) = true := decide_eq_true (by omega)
    have hix : p < all.length := hp
    have hK : hasK (all[p] :: all.drop (p + 1)) k = (all[p].kind == k) := rfl
    rw [hK]
    clear h ht d1 d2 d3
    go_enter Tryz.func95, Tryz.ntmps95
    go_wp2_with fail
    go_quiet (fail)
    go_wp2_with fail
    go_ret
    exact ⟨rfl, below_drewN (Below.refl _ _) _⟩
  · rw [drop_end hp]
    have q1 : decide ((p : Int) < (all.length : Int)) = false := decide_eq_false (by omega)
    go_enter Tryz.func95, Tryz.ntmps95
    go_wp2_with fail
    go_quiet (fail)
    go_wp2_with fail
    go_ret
    exact ⟨rfl, below_drewN (Below.refl _ _) _⟩
end Go.Proofs.YtckfcpiedainfaaGreatDoor

/-
  WHAT IS TAKEN AWAY FROM A DEFINITION THAT MAY BE LEAVES ONE THAT MAY BE. No program stands in it.
  A LIST OF THE COPY LOSES AN ELEMENT: the copy's other lists stay.
  AN ELEMENT OF A LIST IS TAKEN AWAY IN PLACE: append(s[:i], s[i+1:]...).
  WHAT LESS TELLS, by the list that loses an element; the definition that it lays into its result's box.
  THE COPY'S PARTS LIE APART: each part's lists lie in blocks above those of the parts ahead of it.
-/
import Derived.Test.YtilemieknfdjnaaGreatZ19
namespace Go.Proofs.YtilemieknfdjnaaGreat
open Go Go.RowKit Go.Sort
set_option linter.unusedVariables false
/-- a list whose elements are good each by itself, and none is like one ahead -/
def ListOk {α : Type} (most : Nat) (good : α → Prop) (like : α → α → Bool) (l : List α) : Prop := l.length ≤ most ∧ (∀ x ∈ l, good x) ∧ l.Pairwise fun y x => like y x = false
theorem listOk_iff {α : Type} {most : Nat} {pl : Nat → Fa} {one : List α → Nat → α → Out} {like : α → α → Bool} {good : α → Prop} (h : ∀ l i x, (one l i x).fault (pl i) = none ↔ (good x ∧ ((l.take i).any fun y => like y x) = false)) (l : List α) :
    eachV most pl (one l) 0 l = none ↔ ListOk most good like l := by
  rw [eachV_none l 0 (Nat.zero_le _)]
  simp only [Nat.zero_add]
  constructor
  · rintro ⟨h1, h2⟩
    refine ⟨h1, fun x hx => ?_, ?_⟩
    · obtain ⟨j, hj⟩ := List.mem_iff_getElem?.1 hx
      exact ((h l j x).1 (h2 j x hj)).1
    · rw [List.pairwise_iff_getElem]
      intro i j hi hj hij
      have := ((h l j l[j]).1 (h2 j _ (List.getElem?_eq_getElem hj))).2
      rw [List.any_eq_false] at this
      have hm : l[i] ∈ l.take j := List.mem_iff_getElem?.2 ⟨i, by rw [List.getElem?_take_of_lt hij]; exact List.getElem?_eq_getElem hi⟩
      simpa using this _ hm
  · rintro ⟨h1, h2, h3⟩
    refine ⟨h1, fun j x hx => (h l j x).2 ⟨h2 x (List.mem_of_getElem? hx), ?_⟩⟩
    rw [List.any_eq_false]
    intro y hy
    obtain ⟨i, hi⟩ := List.mem_iff_getElem?.1 hy
    obtain ⟨hil, rfl⟩ := List.getElem?_eq_some_iff.1 hi
    rw [List.length_take] at hil
    obtain ⟨hjl, rfl⟩ := List.getElem?_eq_some_iff.1 hx
    rw [List.pairwise_iff_getElem] at h3
    have := h3 i j (by omega) hjl (by omega)
    rw [List.getElem_take]
    simpa using this
theorem ListOk.sub {α : Type} {most : Nat} {good : α → Prop} {like : α → α → Bool} {l l' : List α} (h : ListOk most good like l) (hs : l'.Sublist l) : ListOk most good like l' :=
  ⟨Nat.le_trans hs.length_le h.1, fun x hx => h.2.1 x (hs.subset hx), h.2.2.sublist hs⟩
/-- one element is put in another's place that is as good, and alike to the same -/
theorem ListOk.set {α : Type} {most : Nat} {good : α → Prop} {like : α → α → Bool} {l : List α} (h : ListOk most good like l) {i : Nat} {x y : α} (hx : l[i]? = some x) (hy : good y) (h1 : ∀ z, like z y = like z x) (h2 : ∀ z, like y z = like x z) : ListOk most good like (l.set i y) := by
  obtain ⟨hi, rfl⟩ := List.getElem?_eq_some_iff.1 hx
  refine ⟨by rw [List.length_set]; exact h.1, fun z hz => ?_, ?_⟩
  · rcases List.mem_or_eq_of_mem_set hz with hz | rfl
    · exact h.2.1 z hz
    · exact hy
  · have hp := h.2.2
    rw [List.pairwise_iff_getElem] at hp ⊢
    intro a b ha hb hab
    rw [List.length_set] at ha hb
    have := hp a b ha hb hab
    rw [List.getElem_set, List.getElem_set]
    by_cases ea : i = a
    · subst ea
      rw [if_pos rfl, if_neg (by omega), h2]
      exact this
    · rw [if_neg ea]
      by_cases eb : i = b
      · subst eb
        rw [if_pos rfl, h1]
        exact this
      · rw [if_neg eb]
        exact this
theorem named_ok {ws : List ByteArray} {b : Bool} : namedV ws b = 0 ↔ ws.all nmB = true ∧ b = false := by
  unfold namedV
  cases ws.all nmB <;> cases b <;> simp
theorem ret_ok {k : Int} {p : Fa} : (Out.ret k).fault p = none ↔ k = 0 := by
  unfold Out.fault
  simp only
  by_cases h : k = 0 <;> simp [h]
theorem outOf_ok {v : Option Fa} {p : Fa} : (outOf v).fault p = none ↔ v = none := by
  cases v with
  | none => simp [outOf, Out.fault]
  | some f => simp [outOf, Out.fault]
def useGood (nm : ByteArray) (u : ByteArray) : Prop := nmB u = true ∧ bEq u nm = false
theorem use_ok (nm : ByteArray) (p : Fa) (l : List ByteArray) (i : Nat) (u : ByteArray) : (useO nm l i u).fault p = none ↔ (useGood nm u ∧ ((l.take i).any fun y => bEq y u) = false) := by
  unfold useO useGood
  rw [ret_ok]
  simp only
  by_cases h : namedV [u] ((l.take i).any fun y => bEq y u) = 0
  · rw [if_pos h]
    obtain ⟨h1, h2⟩ := named_ok.1 h
    have h1' : nmB u = true := by simpa using h1
    rw [h1', h2]
    cases bEq u nm <;> simp
  · rw [if_neg h]
    constructor
    · intro h'; exact absurd h' h
    · rintro ⟨⟨h1, _⟩, h2⟩
      exact absurd (named_ok.2 ⟨by simpa using h1, h2⟩) h
def propGood (p : PropD) : Prop := nmB p.name = true ∧ withinB p.typ 1 4 = true
theorem prop_ok (q : Fa) (l : List PropD) (i : Nat) (p : PropD) : (propO l i p).fault q = none ↔ (propGood p ∧ ((l.take i).any fun y => bEq y.name p.name) = false) := by
  unfold propO propGood
  rw [ret_ok]
  simp only
  by_cases h : namedV [p.name] ((l.take i).any fun y => bEq y.name p.name) = 0
  · rw [if_pos h]
    obtain ⟨h1, h2⟩ := named_ok.1 h
    have h1' : nmB p.name = true := by simpa using h1
    rw [h1', h2]
    cases withinB p.typ 1 4 <;> simp
  · rw [if_neg h]
    constructor
    · intro h'; exact absurd h' h
    · rintro ⟨⟨h1, _⟩, h2⟩
      exact absurd (named_ok.2 ⟨by simpa using h1, h2⟩) h
def kidGood (p : KidD) : Prop := nmB p.role = true ∧ nmB p.con = true ∧ (withinB p.min 0 1 && withinB p.max 0 1) = true
theorem kid_ok (q : Fa) (l : List KidD) (i : Nat) (p : KidD) : (kidO l i p).fault q = none ↔ (kidGood p ∧ ((l.take i).any fun y => bEq y.role p.role) = false) := by
  unfold kidO kidGood
  rw [ret_ok]
  simp only
  by_cases h : namedV [p.role, p.con] ((l.take i).any fun y => bEq y.role p.role) = 0
  · rw [if_pos h]
    obtain ⟨h1, h2⟩ := named_ok.1 h
    have h1' : nmB p.role = true ∧ nmB p.con = true := by simpa using h1
    rw [h1'.1, h1'.2, h2]
    cases (withinB p.min 0 1 && withinB p.max 0 1) <;> simp
  · rw [if_neg h]
    constructor
    · intro h'; exact absurd h' h
    · rintro ⟨⟨h1, h3, _⟩, h2⟩
      exact absurd (named_ok.2 ⟨by simp [h1, h3], h2⟩) h
def refGood (p : RefD) : Prop := nmB p.role = true ∧ nmB p.con = true
theorem ref_ok (q : Fa) (l : List RefD) (i : Nat) (p : RefD) : (refO l i p).fault q = none ↔ (refGood p ∧ ((l.take i).any fun y => bEq y.role p.role) = false) := by
  unfold refO refGood
  rw [ret_ok, named_ok]
  simp
def ruleGood (r : RuleD) : Prop := nmB r.con = true ∧ nmB r.name = true ∧ ¬ 4096 < r.expr.size
theorem rule_ok (q : Fa) (l : List RuleD) (i : Nat) (r : RuleD) : (ruleO l i r).fault q = none ↔ (ruleGood r ∧ ((l.take i).any fun y => bEq y.con r.con && bEq y.name r.name && y.scope == r.scope) = false) := by
  unfold ruleO ruleGood
  rw [ret_ok]
  simp only
  by_cases h : namedV [r.con, r.name] ((l.take i).any fun y => bEq y.con r.con && bEq y.name r.name && y.scope == r.scope) = 0
  · rw [if_pos h]
    obtain ⟨h1, h2⟩ := named_ok.1 h
    have h1' : nmB r.con = true ∧ nmB r.name = true := by simpa using h1
    rw [h1'.1, h1'.2, h2]
    by_cases h4 : 4096 < r.expr.size <;> simp [h4]
  · rw [if_neg h]
    constructor
    · intro h'; exact absurd h' h
    · rintro ⟨⟨h1, h3, _⟩, h2⟩
      exact absurd (named_ok.2 ⟨by simp [h1, h3], h2⟩) h
def partsGood (c : ConD) : Prop := ListOk 32 propGood (fun y x => bEq y.name x.name) c.props ∧ ListOk 32 kidGood (fun y x => bEq y.role x.role) c.kids ∧ ListOk 32 refGood (fun y x => bEq y.role x.role) c.refs
theorem parts_ok (c : ConD) (i : Nat) : partsF c i = none ↔ partsGood c := by
  unfold partsF orElse3 partsGood
  rw [← listOk_iff (pl := partF 2 i 0) (one := propO) (fun l i x => prop_ok _ l i x), ← listOk_iff (pl := partF 2 i c.props.length) (one := kidO) (fun l i x => kid_ok _ l i x), ← listOk_iff (pl := partF 2 i (c.props.length + c.kids.length)) (one := refO) (fun l i x => ref_ok _ l i x)]
  cases eachV 32 (partF 2 i 0) (propO c.props) 0 c.props <;> cases eachV 32 (partF 2 i c.props.length) (kidO c.kids) 0 c.kids <;> simp
def conGood (c : ConD) : Prop := nmB c.name = true ∧ (!(bEq c.super ⟨#[]⟩) && !(nmB c.super)) = false ∧ bEq c.super c.name = false ∧ partsGood c
theorem con_ok (p : Fa) (l : List ConD) (i : Nat) (c : ConD) : (conG l i c).fault p = none ↔ (conGood c ∧ ((l.take i).any fun y => bEq y.name c.name) = false) := by
  unfold conG conGood
  simp only
  by_cases h : namedV [c.name] ((l.take i).any fun y => bEq y.name c.name) = 0
  · rw [if_pos h]
    obtain ⟨h1, h2⟩ := named_ok.1 h
    have h1' : nmB c.name = true := by simpa using h1
    rw [h1', h2]
    cases (!(bEq c.super ⟨#[]⟩) && !(nmB c.super)) with
    | true => simp [Out.fault]
    | false =>
      cases bEq c.super c.name with
      | true => simp [Out.fault]
      | false =>
        simp only [Bool.false_eq_true, if_false, true_and, and_true]
        rw [outOf_ok, parts_ok]
  · rw [if_neg h, ret_ok]
    constructor
    · intro h'; exact absurd h' h
    · rintro ⟨⟨h1, _⟩, h2⟩
      exact absurd (named_ok.2 ⟨by simpa using h1, h2⟩) h
def rowGood (kinds : Int) (r : RowD) : Prop := nmB r.con = true ∧ r.cells.length ≤ 64 ∧ ∀ c ∈ r.cells, cellErr kinds c = 0
theorem row_ok (lst kinds : Int) (p : Fa) (l : List RowD) (i : Nat) (r : RowD) : (rowG lst kinds l i r).fault p = none ↔ (rowGood kinds r ∧ ((l.take i).any fun y => bEq y.con r.con) = false) := by
  unfold rowG rowGood
  simp only
  by_cases h : namedV [r.con] ((l.take i).any fun y => bEq y.con r.con) = 0
  · rw [if_pos h]
    obtain ⟨h1, h2⟩ := named_ok.1 h
    have h1' : nmB r.con = true := by simpa using h1
    rw [h1', h2, outOf_ok]
    unfold rowF
    by_cases h64 : 64 < r.cells.length
    · rw [if_pos h64]
      simp
      omega
    · rw [if_neg h64, eachV_none _ 0 (Nat.zero_le _)]
      simp only [Nat.zero_add, Nat.le_refl, true_and, and_true]
      constructor
      · intro hc
        refine ⟨by omega, fun c hcm => ?_⟩
        obtain ⟨j, hj⟩ := List.mem_iff_getElem?.1 hcm
        exact ret_ok.1 (hc j c hj)
      · rintro ⟨_, hc⟩ j c hj
        exact ret_ok.2 (hc c (List.mem_of_getElem? hj))
  · rw [if_neg h, ret_ok]
    constructor
    · intro h'; exact absurd h' h
    · rintro ⟨⟨h1, _⟩, h2⟩
      exact absurd (named_ok.2 ⟨by simpa using h1, h2⟩) h
theorem eq_ok (l : List EqK) : eachV 256 (elemF 4) eqG 0 l = none ↔ l.length ≤ 256 ∧ ∀ q ∈ l, (eqG 0 q).fault (elemF 4 0) = none := by
  rw [eachV_none l 0 (Nat.zero_le _)]
  simp only [Nat.zero_add]
  have key : ∀ (i : Nat) (q : EqK), (eqG i q).fault (elemF 4 i) = none ↔ (eqG 0 q).fault (elemF 4 0) = none := by
    intro i q
    unfold eqG
    by_cases h : nmB q.con = true
    · rw [if_pos h, if_pos h, outOf_ok, outOf_ok, eachV_none _ 0 (Nat.zero_le _), eachV_none _ 0 (Nat.zero_le _)]
      simp only [ret_ok]
    · rw [if_neg h, if_neg h, ret_ok, ret_ok]
  constructor
  · rintro ⟨h1, h2⟩
    refine ⟨h1, fun q hq => ?_⟩
    obtain ⟨j, hj⟩ := List.mem_iff_getElem?.1 hq
    exact (key j q).1 (h2 j q hj)
  · rintro ⟨h1, h2⟩
    exact ⟨h1, fun j q hj => (key j q).2 (h2 q (List.mem_of_getElem? hj))⟩
/-- a definition that may be -/
structure ContOk (k : Cont) : Prop where
  own : ownW k.name k.ver = none
  us : ListOk 8 (useGood k.name) bEq k.us
  cs : ListOk 128 conGood (fun y x => bEq y.name x.name) k.cs
  ru : ListOk 256 ruleGood (fun y x => bEq y.con x.con && bEq y.name x.name && y.scope == x.scope) k.ru
  qs : k.qs.length ≤ 256 ∧ ∀ q ∈ k.qs, (eqG 0 q).fault (elemF 4 0) = none
  es : ListOk 256 (rowGood 6) (fun y x => bEq y.con x.con) k.es
  ts : ListOk 256 (rowGood 5) (fun y x => bEq y.con x.con) k.ts
theorem contOk_iff (k : Cont) : langG k = none ↔ ContOk k := by
  constructor
  · intro h
    obtain ⟨h0, h1, h2, h3, h4, h5, h6⟩ := langG_all h
    exact ⟨h0, (listOk_iff (one := useO k.name) (fun l i x => use_ok _ _ l i x) _).1 h1, (listOk_iff (one := conG) (fun l i x => con_ok _ l i x) _).1 h2, (listOk_iff (one := ruleO) (fun l i x => rule_ok _ l i x) _).1 h3, (eq_ok _).1 h4, (listOk_iff (one := rowG 5 6) (fun l i x => row_ok 5 6 _ l i x) _).1 h5, (listOk_iff (one := rowG 6 5) (fun l i x => row_ok 6 5 _ l i x) _).1 h6⟩
  · rintro ⟨h0, h1, h2, h3, h4, h5, h6⟩
    exact langG_of h0 ((listOk_iff (one := useO k.name) (fun l i x => use_ok _ _ l i x) _).2 h1) ((listOk_iff (one := conG) (fun l i x => con_ok _ l i x) _).2 h2) ((listOk_iff (one := ruleO) (fun l i x => rule_ok _ l i x) _).2 h3) ((eq_ok _).2 h4) ((listOk_iff (one := rowG 5 6) (fun l i x => row_ok 5 6 _ l i x) _).2 h5) ((listOk_iff (one := rowG 6 5) (fun l i x => row_ok 6 5 _ l i x) _).2 h6)
theorem ContOk.eraseU {k : Cont} (h : ContOk k) (i : Nat) : ContOk { k with us := k.us.eraseIdx i } := ⟨h.own, h.us.sub (List.eraseIdx_sublist _ _), h.cs, h.ru, h.qs, h.es, h.ts⟩
theorem ContOk.eraseC {k : Cont} (h : ContOk k) (i : Nat) : ContOk { k with cs := k.cs.eraseIdx i } := ⟨h.own, h.us, h.cs.sub (List.eraseIdx_sublist _ _), h.ru, h.qs, h.es, h.ts⟩
theorem ContOk.eraseN {k : Cont} (h : ContOk k) (i : Nat) : ContOk { k with ru := k.ru.eraseIdx i } := ⟨h.own, h.us, h.cs, h.ru.sub (List.eraseIdx_sublist _ _), h.qs, h.es, h.ts⟩
theorem ContOk.eraseQ {k : Cont} (h : ContOk k) (i : Nat) : ContOk { k with qs := k.qs.eraseIdx i } :=
  ⟨h.own, h.us, h.cs, h.ru, ⟨Nat.le_trans (List.eraseIdx_sublist _ _).length_le h.qs.1, fun q hq => h.qs.2 q ((List.eraseIdx_sublist _ _).subset hq)⟩, h.es, h.ts⟩
theorem ContOk.eraseE {k : Cont} (h : ContOk k) (i : Nat) : ContOk { k with es := k.es.eraseIdx i } := ⟨h.own, h.us, h.cs, h.ru, h.qs, h.es.sub (List.eraseIdx_sublist _ _), h.ts⟩
theorem ContOk.eraseT {k : Cont} (h : ContOk k) (i : Nat) : ContOk { k with ts := k.ts.eraseIdx i } := ⟨h.own, h.us, h.cs, h.ru, h.qs, h.es, h.ts.sub (List.eraseIdx_sublist _ _)⟩
/-- a concept with fewer parts -/
structure Fewer (c c' : ConD) : Prop where
  name : c'.name = c.name
  super : c'.super = c.super
  props : c'.props.Sublist c.props
  kids : c'.kids.Sublist c.kids
  refs : c'.refs.Sublist c.refs
theorem conGood_fewer {c c' : ConD} (h : conGood c) (f : Fewer c c') : conGood c' :=
  ⟨by rw [f.name]; exact h.1, by rw [f.super]; exact h.2.1, by rw [f.super, f.name]; exact h.2.2.1, h.2.2.2.1.sub f.props, h.2.2.2.2.1.sub f.kids, h.2.2.2.2.2.sub f.refs⟩
theorem ContOk.fewC {k : Cont} (h : ContOk k) {i : Nat} {c c' : ConD} (hc : k.cs[i]? = some c) (f : Fewer c c') : ContOk { k with cs := k.cs.set i c' } :=
  ⟨h.own, h.us, h.cs.set hc (conGood_fewer (h.cs.2.1 c (List.mem_of_getElem? hc)) f) (fun z => by simp only [f.name]) (fun z => by simp only [f.name]), h.ru, h.qs, h.es, h.ts⟩
theorem rowGood_fewer {kinds : Int} {r : RowD} (h : rowGood kinds r) {l : List CellD} (hl : l.Sublist r.cells) : rowGood kinds { r with cells := l } := ⟨h.1, Nat.le_trans hl.length_le h.2.1, fun c hc => h.2.2 c (hl.subset hc)⟩
theorem ContOk.fewE {k : Cont} (h : ContOk k) {i : Nat} {r : RowD} (hr : k.es[i]? = some r) {l : List CellD} (hl : l.Sublist r.cells) : ContOk { k with es := k.es.set i { r with cells := l } } :=
  ⟨h.own, h.us, h.cs, h.ru, h.qs, h.es.set hr (rowGood_fewer (h.es.2.1 r (List.mem_of_getElem? hr)) hl) (fun z => rfl) (fun z => rfl), h.ts⟩
theorem ContOk.fewT {k : Cont} (h : ContOk k) {i : Nat} {r : RowD} (hr : k.ts[i]? = some r) {l : List CellD} (hl : l.Sublist r.cells) : ContOk { k with ts := k.ts.set i { r with cells := l } } :=
  ⟨h.own, h.us, h.cs, h.ru, h.qs, h.es, h.ts.set hr (rowGood_fewer (h.ts.2.1 r (List.mem_of_getElem? hr)) hl) (fun z => rfl) (fun z => rfl)⟩
end Go.Proofs.YtilemieknfdjnaaGreat
namespace Go.Proofs.YtilemieknfdjnaaGreat
open Go Go.RowKit Go.Sort
set_option linter.unusedVariables false
/-- the boxes of less, and the copy -/
structure LSt (w : World) (x : LangM) (ds : Array Value) (y : LangM) (gx : Nat) (Y : World) : Prop where
  q : B2 w 29 #[.string x.name, .int .i64 x.ver, .slice x.U.A x.U.n x.U.c, .slice x.C.A x.C.n x.C.c, .slice x.N.A x.N.n x.N.c, .slice x.Q.A x.Q.n x.Q.c, .slice x.E.A x.E.n x.E.c, .slice x.T.A x.T.n x.T.c] ds Y
  bx : Blk Y gx 29 #[.string y.name, .int .i64 y.ver, .slice y.U.A y.U.n y.U.c, .slice y.C.A y.C.n y.C.c, .slice y.N.A y.N.n y.N.c, .slice y.Q.A y.Q.n y.Q.c, .slice y.E.A y.E.n y.E.c, .slice y.T.A y.T.n y.T.c]
  o : TwinOwn Y (w.heap.size + 2) y
  l : LangIn Y 0 Y.heap.size y
theorem LSt.after {w : World} {x y : LangM} {ds : Array Value} {gx : Nat} {Y Y' : World} (h : LSt w x ds y gx Y) (hb : Below Y.heap.size Y Y') : LSt w x ds y gx Y' := ⟨h.q.after hb, h.bx.after hb, h.o.after hb, langK.mono (langK.below h.l hb) (Nat.le_refl _) hb.size⟩
structure LEnd (w : World) (x : LangM) (ds : Array Value) (y : LangM) (gx : Nat) (Y : World) : Prop where
  q : B2 w 29 #[.string x.name, .int .i64 x.ver, .slice x.U.A x.U.n x.U.c, .slice x.C.A x.C.n x.C.c, .slice x.N.A x.N.n x.N.c, .slice x.Q.A x.Q.n x.Q.c, .slice x.E.A x.E.n x.E.c, .slice x.T.A x.T.n x.T.c] ds Y
  bx : Blk Y gx 29 #[.string y.name, .int .i64 y.ver, .slice y.U.A y.U.n y.U.c, .slice y.C.A y.C.n y.C.c, .slice y.N.A y.N.n y.N.c, .slice y.Q.A y.Q.n y.Q.c, .slice y.E.A y.E.n y.E.c, .slice y.T.A y.T.n y.T.c]
  l : LangIn Y (w.heap.size + 2) Y.heap.size y
theorem LEnd.after {w : World} {x y : LangM} {ds : Array Value} {gx : Nat} {Y Y' : World} (h : LEnd w x ds y gx Y) (hb : Below Y.heap.size Y Y') : LEnd w x ds y gx Y' := ⟨h.q.after hb, h.bx.after hb, langK.mono (langK.below h.l hb) (Nat.le_refl _) hb.size⟩
theorem flat_erase {α : Type} {C : α → List Value} {s : Nat} (hs : ∀ a, (C a).length = s) : ∀ (l : List α) (i : Nat), (l.eraseIdx i).flatMap C = (l.flatMap C).take (i * s) ++ (l.flatMap C).drop ((i + 1) * s)
  | [], i => by simp
  | x :: r, 0 => by
    simp only [List.eraseIdx_cons_zero, Nat.zero_mul, List.take_zero, List.nil_append, Nat.zero_add, Nat.one_mul, List.flatMap_cons]
    rw [List.drop_left' (hs x)]
  | x :: r, i + 1 => by
    have e1 : s ≤ (i + 1) * s := Nat.le_mul_of_pos_left _ (by omega)
    have e2 : s ≤ (i + 1 + 1) * s := Nat.le_mul_of_pos_left _ (by omega)
    have t1 : (C x).take ((i + 1) * s) = C x := List.take_of_length_le (by rw [hs]; exact e1)
    have t2 : (C x).drop ((i + 1 + 1) * s) = [] := List.drop_of_length_le (by rw [hs]; exact e2)
    have d1 : (i + 1) * s - s = i * s := by rw [Nat.add_mul, Nat.one_mul, Nat.add_sub_cancel]
    have d2 : (i + 1 + 1) * s - s = (i + 1) * s := by rw [Nat.add_mul (i + 1), Nat.one_mul, Nat.add_sub_cancel]
    rw [List.eraseIdx_cons_succ, List.flatMap_cons, List.flatMap_cons, flat_erase hs r i, List.take_append, List.drop_append, hs, t1, t2, d1, d2, List.nil_append, List.append_assoc]
set_option maxHeartbeats 800000 in
theorem erase_str {w : World} {x y : LangM} {ds : Array Value} {gx : Nat} {Y Y' : World} (h : LSt w x ds y gx Y) (hgx : w.heap.size + 1 < gx) (i : Nat) {A' : Option Addr} {m' c' : Nat} (hm : m' = (y.us.eraseIdx i).length) (hown : Y'.ownsRow (w.heap.size + 2) 9 1 (.slice A' m' c') m' (strCells (y.us.eraseIdx i))) (hg : Y.grownBy Y' (Value.ownBlock (.slice y.U.A y.U.n y.U.c))) :
    LEnd w x ds ({ y with U := ⟨A', m', c'⟩, us := y.us.eraseIdx i }) gx (Y'.setCell ⟨gx, 2, none⟩ (.slice A' m' c')) := by
  have hn0 := h.l.un
  have ho0 : Y.ownsRow (w.heap.size + 2) 9 1 (.slice y.U.A y.U.n y.U.c) y.U.n (strCells y.us) := by
    exact h.o.u
  have hbx := h.bx.grown hg (fun e => own_blk_ne ho0 h.bx (by decide) e.symm)
  have hq2 := h.q.kept (own_mono ho0 (Nat.le_add_right _ _)) (by decide) hg
  have hbx2 := hbx.set_ 2 (.slice A' m' c')
  have hq3 := B2.far2 (i := 2) hq2 hgx (.slice A' m' c')
  have s : Stp Y (Y'.setCell ⟨gx, 2, none⟩ (.slice A' m' c')) 9 := ⟨fun h0 h1 h2 => own_other (own_kept h0 ho0 h1 hg) hbx h2 2 _⟩
  have hnew := own_other hown hbx (by decide) 2 (.slice A' m' c')
  refine ⟨hq3, by simpa using hbx2, ?_⟩
  refine ⟨?_, ?_, ?_, ?_, ?_, ?_, ?_, ?_⟩
  · exact hm
  · exact Row.mono (own_row hnew) (Nat.le_refl _) (Nat.le_refl _)
  · exact GRow.mono (GL0.toG ⟨s.keep h.o.c.own (by decide) (by decide), fun g hg => con_step s (h.o.c.leaf g hg) (by decide) (by decide) (by decide)⟩ h.l.c.n (fun _ hg => hg.in_)) conK (Nat.le_refl _) (Nat.le_refl _)
  · exact h.l.nn
  · exact Row.mono (own_row (by have := s.keep h.o.n (by decide) (by decide); exact this)) (Nat.le_refl _) (Nat.le_refl _)
  · exact GRow.mono (GL0.toG ⟨s.keep h.o.q.own (by decide) (by decide), fun g hg => eq_step s (h.o.q.leaf g hg) (by decide) (by decide)⟩ h.l.q.n (fun _ hg => hg.in_)) eqK (Nat.le_refl _) (Nat.le_refl _)
  · exact GRow.mono (GL0.toG ⟨s.keep h.o.e.own (by decide) (by decide), fun g hg => row_step s (h.o.e.leaf g hg) (by decide) (by decide)⟩ h.l.e.n (fun _ hg => hg.in_)) rowK (Nat.le_refl _) (Nat.le_refl _)
  · exact GRow.mono (GL0.toG ⟨s.keep h.o.t.own (by decide) (by decide), fun g hg => row_step s (h.o.t.leaf g hg) (by decide) (by decide)⟩ h.l.t.n (fun _ hg => hg.in_)) rowK (Nat.le_refl _) (Nat.le_refl _)
set_option maxHeartbeats 800000 in
theorem erase_con {w : World} {x y : LangM} {ds : Array Value} {gx : Nat} {Y Y' : World} (h : LSt w x ds y gx Y) (hgx : w.heap.size + 1 < gx) (i : Nat) {A' : Option Addr} {m' c' : Nat} (hm : m' = (y.cs.eraseIdx i).length) (hown : Y'.ownsRow (w.heap.size + 2) 47 6 (.slice A' m' c') m' ((y.cs.eraseIdx i).flatMap conC)) (hg : Y.grownBy Y' (Value.ownBlock (.slice y.C.A y.C.n y.C.c))) :
    LEnd w x ds ({ y with C := ⟨A', m', c'⟩, cs := y.cs.eraseIdx i }) gx (Y'.setCell ⟨gx, 3, none⟩ (.slice A' m' c')) := by
  have hn0 := h.l.c.n
  have ho0 : Y.ownsRow (w.heap.size + 2) 47 6 (.slice y.C.A y.C.n y.C.c) y.C.n (y.cs.flatMap conC) := by
    have := h.o.c.own; rw [← hn0] at this; exact this
  have hbx := h.bx.grown hg (fun e => own_blk_ne ho0 h.bx (by decide) e.symm)
  have hq2 := h.q.kept (own_mono ho0 (Nat.le_add_right _ _)) (by decide) hg
  have hbx2 := hbx.set_ 3 (.slice A' m' c')
  have hq3 := B2.far2 (i := 3) hq2 hgx (.slice A' m' c')
  have s : Stp Y (Y'.setCell ⟨gx, 3, none⟩ (.slice A' m' c')) 47 := ⟨fun h0 h1 h2 => own_other (own_kept h0 ho0 h1 hg) hbx h2 3 _⟩
  have hnew := own_other hown hbx (by decide) 3 (.slice A' m' c')
  refine ⟨hq3, by simpa using hbx2, ?_⟩
  refine ⟨?_, ?_, ?_, ?_, ?_, ?_, ?_, ?_⟩
  · exact h.l.un
  · exact Row.mono (own_row (by have := s.keep h.o.u (by decide) (by decide); exact this)) (Nat.le_refl _) (Nat.le_refl _)
  · exact ⟨hm, Row.mono (own_row hnew) (Nat.le_refl _) (Nat.le_refl _), fun g hg => conK.mono ((fun g hg => con_step s (h.o.c.leaf g hg) (by decide) (by decide) (by decide)) g ((List.eraseIdx_sublist _ _).subset hg)).in_ (Nat.le_refl _) (Nat.le_refl _)⟩
  · exact h.l.nn
  · exact Row.mono (own_row (by have := s.keep h.o.n (by decide) (by decide); exact this)) (Nat.le_refl _) (Nat.le_refl _)
  · exact GRow.mono (GL0.toG ⟨s.keep h.o.q.own (by decide) (by decide), fun g hg => eq_step s (h.o.q.leaf g hg) (by decide) (by decide)⟩ h.l.q.n (fun _ hg => hg.in_)) eqK (Nat.le_refl _) (Nat.le_refl _)
  · exact GRow.mono (GL0.toG ⟨s.keep h.o.e.own (by decide) (by decide), fun g hg => row_step s (h.o.e.leaf g hg) (by decide) (by decide)⟩ h.l.e.n (fun _ hg => hg.in_)) rowK (Nat.le_refl _) (Nat.le_refl _)
  · exact GRow.mono (GL0.toG ⟨s.keep h.o.t.own (by decide) (by decide), fun g hg => row_step s (h.o.t.leaf g hg) (by decide) (by decide)⟩ h.l.t.n (fun _ hg => hg.in_)) rowK (Nat.le_refl _) (Nat.le_refl _)
set_option maxHeartbeats 800000 in
theorem erase_ru {w : World} {x y : LangM} {ds : Array Value} {gx : Nat} {Y Y' : World} (h : LSt w x ds y gx Y) (hgx : w.heap.size + 1 < gx) (i : Nat) {A' : Option Addr} {m' c' : Nat} (hm : m' = (y.ru.eraseIdx i).length) (hown : Y'.ownsRow (w.heap.size + 2) 49 4 (.slice A' m' c') m' (ruCells (y.ru.eraseIdx i))) (hg : Y.grownBy Y' (Value.ownBlock (.slice y.N.A y.N.n y.N.c))) :
    LEnd w x ds ({ y with N := ⟨A', m', c'⟩, ru := y.ru.eraseIdx i }) gx (Y'.setCell ⟨gx, 4, none⟩ (.slice A' m' c')) := by
  have hn0 := h.l.nn
  have ho0 : Y.ownsRow (w.heap.size + 2) 49 4 (.slice y.N.A y.N.n y.N.c) y.N.n (ruCells y.ru) := by
    exact h.o.n
  have hbx := h.bx.grown hg (fun e => own_blk_ne ho0 h.bx (by decide) e.symm)
  have hq2 := h.q.kept (own_mono ho0 (Nat.le_add_right _ _)) (by decide) hg
  have hbx2 := hbx.set_ 4 (.slice A' m' c')
  have hq3 := B2.far2 (i := 4) hq2 hgx (.slice A' m' c')
  have s : Stp Y (Y'.setCell ⟨gx, 4, none⟩ (.slice A' m' c')) 49 := ⟨fun h0 h1 h2 => own_other (own_kept h0 ho0 h1 hg) hbx h2 4 _⟩
  have hnew := own_other hown hbx (by decide) 4 (.slice A' m' c')
  refine ⟨hq3, by simpa using hbx2, ?_⟩
  refine ⟨?_, ?_, ?_, ?_, ?_, ?_, ?_, ?_⟩
  · exact h.l.un
  · exact Row.mono (own_row (by have := s.keep h.o.u (by decide) (by decide); exact this)) (Nat.le_refl _) (Nat.le_refl _)
  · exact GRow.mono (GL0.toG ⟨s.keep h.o.c.own (by decide) (by decide), fun g hg => con_step s (h.o.c.leaf g hg) (by decide) (by decide) (by decide)⟩ h.l.c.n (fun _ hg => hg.in_)) conK (Nat.le_refl _) (Nat.le_refl _)
  · exact hm
  · exact Row.mono (own_row hnew) (Nat.le_refl _) (Nat.le_refl _)
  · exact GRow.mono (GL0.toG ⟨s.keep h.o.q.own (by decide) (by decide), fun g hg => eq_step s (h.o.q.leaf g hg) (by decide) (by decide)⟩ h.l.q.n (fun _ hg => hg.in_)) eqK (Nat.le_refl _) (Nat.le_refl _)
  · exact GRow.mono (GL0.toG ⟨s.keep h.o.e.own (by decide) (by decide), fun g hg => row_step s (h.o.e.leaf g hg) (by decide) (by decide)⟩ h.l.e.n (fun _ hg => hg.in_)) rowK (Nat.le_refl _) (Nat.le_refl _)
  · exact GRow.mono (GL0.toG ⟨s.keep h.o.t.own (by decide) (by decide), fun g hg => row_step s (h.o.t.leaf g hg) (by decide) (by decide)⟩ h.l.t.n (fun _ hg => hg.in_)) rowK (Nat.le_refl _) (Nat.le_refl _)
set_option maxHeartbeats 800000 in
theorem erase_eq {w : World} {x y : LangM} {ds : Array Value} {gx : Nat} {Y Y' : World} (h : LSt w x ds y gx Y) (hgx : w.heap.size + 1 < gx) (i : Nat) {A' : Option Addr} {m' c' : Nat} (hm : m' = (y.qs.eraseIdx i).length) (hown : Y'.ownsRow (w.heap.size + 2) 52 3 (.slice A' m' c') m' ((y.qs.eraseIdx i).flatMap eqC)) (hg : Y.grownBy Y' (Value.ownBlock (.slice y.Q.A y.Q.n y.Q.c))) :
    LEnd w x ds ({ y with Q := ⟨A', m', c'⟩, qs := y.qs.eraseIdx i }) gx (Y'.setCell ⟨gx, 5, none⟩ (.slice A' m' c')) := by
  have hn0 := h.l.q.n
  have ho0 : Y.ownsRow (w.heap.size + 2) 52 3 (.slice y.Q.A y.Q.n y.Q.c) y.Q.n (y.qs.flatMap eqC) := by
    have := h.o.q.own; rw [← hn0] at this; exact this
  have hbx := h.bx.grown hg (fun e => own_blk_ne ho0 h.bx (by decide) e.symm)
  have hq2 := h.q.kept (own_mono ho0 (Nat.le_add_right _ _)) (by decide) hg
  have hbx2 := hbx.set_ 5 (.slice A' m' c')
  have hq3 := B2.far2 (i := 5) hq2 hgx (.slice A' m' c')
  have s : Stp Y (Y'.setCell ⟨gx, 5, none⟩ (.slice A' m' c')) 52 := ⟨fun h0 h1 h2 => own_other (own_kept h0 ho0 h1 hg) hbx h2 5 _⟩
  have hnew := own_other hown hbx (by decide) 5 (.slice A' m' c')
  refine ⟨hq3, by simpa using hbx2, ?_⟩
  refine ⟨?_, ?_, ?_, ?_, ?_, ?_, ?_, ?_⟩
  · exact h.l.un
  · exact Row.mono (own_row (by have := s.keep h.o.u (by decide) (by decide); exact this)) (Nat.le_refl _) (Nat.le_refl _)
  · exact GRow.mono (GL0.toG ⟨s.keep h.o.c.own (by decide) (by decide), fun g hg => con_step s (h.o.c.leaf g hg) (by decide) (by decide) (by decide)⟩ h.l.c.n (fun _ hg => hg.in_)) conK (Nat.le_refl _) (Nat.le_refl _)
  · exact h.l.nn
  · exact Row.mono (own_row (by have := s.keep h.o.n (by decide) (by decide); exact this)) (Nat.le_refl _) (Nat.le_refl _)
  · exact ⟨hm, Row.mono (own_row hnew) (Nat.le_refl _) (Nat.le_refl _), fun g hg => eqK.mono ((fun g hg => eq_step s (h.o.q.leaf g hg) (by decide) (by decide)) g ((List.eraseIdx_sublist _ _).subset hg)).in_ (Nat.le_refl _) (Nat.le_refl _)⟩
  · exact GRow.mono (GL0.toG ⟨s.keep h.o.e.own (by decide) (by decide), fun g hg => row_step s (h.o.e.leaf g hg) (by decide) (by decide)⟩ h.l.e.n (fun _ hg => hg.in_)) rowK (Nat.le_refl _) (Nat.le_refl _)
  · exact GRow.mono (GL0.toG ⟨s.keep h.o.t.own (by decide) (by decide), fun g hg => row_step s (h.o.t.leaf g hg) (by decide) (by decide)⟩ h.l.t.n (fun _ hg => hg.in_)) rowK (Nat.le_refl _) (Nat.le_refl _)
set_option maxHeartbeats 800000 in
theorem erase_ed {w : World} {x y : LangM} {ds : Array Value} {gx : Nat} {Y Y' : World} (h : LSt w x ds y gx Y) (hgx : w.heap.size + 1 < gx) (i : Nat) {A' : Option Addr} {m' c' : Nat} (hm : m' = (y.es.eraseIdx i).length) (hown : Y'.ownsRow (w.heap.size + 2) 55 2 (.slice A' m' c') m' ((y.es.eraseIdx i).flatMap rowC)) (hg : Y.grownBy Y' (Value.ownBlock (.slice y.E.A y.E.n y.E.c))) :
    LEnd w x ds ({ y with E := ⟨A', m', c'⟩, es := y.es.eraseIdx i }) gx (Y'.setCell ⟨gx, 6, none⟩ (.slice A' m' c')) := by
  have hn0 := h.l.e.n
  have ho0 : Y.ownsRow (w.heap.size + 2) 55 2 (.slice y.E.A y.E.n y.E.c) y.E.n (y.es.flatMap rowC) := by
    have := h.o.e.own; rw [← hn0] at this; exact this
  have hbx := h.bx.grown hg (fun e => own_blk_ne ho0 h.bx (by decide) e.symm)
  have hq2 := h.q.kept (own_mono ho0 (Nat.le_add_right _ _)) (by decide) hg
  have hbx2 := hbx.set_ 6 (.slice A' m' c')
  have hq3 := B2.far2 (i := 6) hq2 hgx (.slice A' m' c')
  have s : Stp Y (Y'.setCell ⟨gx, 6, none⟩ (.slice A' m' c')) 55 := ⟨fun h0 h1 h2 => own_other (own_kept h0 ho0 h1 hg) hbx h2 6 _⟩
  have hnew := own_other hown hbx (by decide) 6 (.slice A' m' c')
  refine ⟨hq3, by simpa using hbx2, ?_⟩
  refine ⟨?_, ?_, ?_, ?_, ?_, ?_, ?_, ?_⟩
  · exact h.l.un
  · exact Row.mono (own_row (by have := s.keep h.o.u (by decide) (by decide); exact this)) (Nat.le_refl _) (Nat.le_refl _)
  · exact GRow.mono (GL0.toG ⟨s.keep h.o.c.own (by decide) (by decide), fun g hg => con_step s (h.o.c.leaf g hg) (by decide) (by decide) (by decide)⟩ h.l.c.n (fun _ hg => hg.in_)) conK (Nat.le_refl _) (Nat.le_refl _)
  · exact h.l.nn
  · exact Row.mono (own_row (by have := s.keep h.o.n (by decide) (by decide); exact this)) (Nat.le_refl _) (Nat.le_refl _)
  · exact GRow.mono (GL0.toG ⟨s.keep h.o.q.own (by decide) (by decide), fun g hg => eq_step s (h.o.q.leaf g hg) (by decide) (by decide)⟩ h.l.q.n (fun _ hg => hg.in_)) eqK (Nat.le_refl _) (Nat.le_refl _)
  · exact ⟨hm, Row.mono (own_row hnew) (Nat.le_refl _) (Nat.le_refl _), fun g hg => rowK.mono ((fun g hg => row_step s (h.o.e.leaf g hg) (by decide) (by decide)) g ((List.eraseIdx_sublist _ _).subset hg)).in_ (Nat.le_refl _) (Nat.le_refl _)⟩
  · exact GRow.mono (GL0.toG ⟨s.keep h.o.t.own (by decide) (by decide), fun g hg => row_step s (h.o.t.leaf g hg) (by decide) (by decide)⟩ h.l.t.n (fun _ hg => hg.in_)) rowK (Nat.le_refl _) (Nat.le_refl _)
set_option maxHeartbeats 800000 in
theorem erase_te {w : World} {x y : LangM} {ds : Array Value} {gx : Nat} {Y Y' : World} (h : LSt w x ds y gx Y) (hgx : w.heap.size + 1 < gx) (i : Nat) {A' : Option Addr} {m' c' : Nat} (hm : m' = (y.ts.eraseIdx i).length) (hown : Y'.ownsRow (w.heap.size + 2) 58 2 (.slice A' m' c') m' ((y.ts.eraseIdx i).flatMap rowC)) (hg : Y.grownBy Y' (Value.ownBlock (.slice y.T.A y.T.n y.T.c))) :
    LEnd w x ds ({ y with T := ⟨A', m', c'⟩, ts := y.ts.eraseIdx i }) gx (Y'.setCell ⟨gx, 7, none⟩ (.slice A' m' c')) := by
  have hn0 := h.l.t.n
  have ho0 : Y.ownsRow (w.heap.size + 2) 58 2 (.slice y.T.A y.T.n y.T.c) y.T.n (y.ts.flatMap rowC) := by
    have := h.o.t.own; rw [← hn0] at this; exact this
  have hbx := h.bx.grown hg (fun e => own_blk_ne ho0 h.bx (by decide) e.symm)
  have hq2 := h.q.kept (own_mono ho0 (Nat.le_add_right _ _)) (by decide) hg
  have hbx2 := hbx.set_ 7 (.slice A' m' c')
  have hq3 := B2.far2 (i := 7) hq2 hgx (.slice A' m' c')
  have s : Stp Y (Y'.setCell ⟨gx, 7, none⟩ (.slice A' m' c')) 58 := ⟨fun h0 h1 h2 => own_other (own_kept h0 ho0 h1 hg) hbx h2 7 _⟩
  have hnew := own_other hown hbx (by decide) 7 (.slice A' m' c')
  refine ⟨hq3, by simpa using hbx2, ?_⟩
  refine ⟨?_, ?_, ?_, ?_, ?_, ?_, ?_, ?_⟩
  · exact h.l.un
  · exact Row.mono (own_row (by have := s.keep h.o.u (by decide) (by decide); exact this)) (Nat.le_refl _) (Nat.le_refl _)
  · exact GRow.mono (GL0.toG ⟨s.keep h.o.c.own (by decide) (by decide), fun g hg => con_step s (h.o.c.leaf g hg) (by decide) (by decide) (by decide)⟩ h.l.c.n (fun _ hg => hg.in_)) conK (Nat.le_refl _) (Nat.le_refl _)
  · exact h.l.nn
  · exact Row.mono (own_row (by have := s.keep h.o.n (by decide) (by decide); exact this)) (Nat.le_refl _) (Nat.le_refl _)
  · exact GRow.mono (GL0.toG ⟨s.keep h.o.q.own (by decide) (by decide), fun g hg => eq_step s (h.o.q.leaf g hg) (by decide) (by decide)⟩ h.l.q.n (fun _ hg => hg.in_)) eqK (Nat.le_refl _) (Nat.le_refl _)
  · exact GRow.mono (GL0.toG ⟨s.keep h.o.e.own (by decide) (by decide), fun g hg => row_step s (h.o.e.leaf g hg) (by decide) (by decide)⟩ h.l.e.n (fun _ hg => hg.in_)) rowK (Nat.le_refl _) (Nat.le_refl _)
  · exact ⟨hm, Row.mono (own_row hnew) (Nat.le_refl _) (Nat.le_refl _), fun g hg => rowK.mono ((fun g hg => row_step s (h.o.t.leaf g hg) (by decide) (by decide)) g ((List.eraseIdx_sublist _ _).subset hg)).in_ (Nat.le_refl _) (Nat.le_refl _)⟩
end Go.Proofs.YtilemieknfdjnaaGreat
namespace Go.Proofs.YtilemieknfdjnaaGreat
open Go Go.RowKit Go.Sort
set_option linter.unusedVariables false
theorem own_some {w : World} {B n c s : Nat} {e : TypeId} {A : Option Addr} {xs : List Value} (h : w.ownsRow B e s (.slice A n c) n xs) (hn : 0 < n) : ∃ g, A = some ⟨g, 0, none⟩ := by
  rcases h.2 with ⟨hv, h0⟩ | ⟨g, cap, cur, hv, _⟩
  · injection hv with h1 h2 h3; omega
  · injection hv with h1; exact ⟨g, h1⟩
theorem own_addr {w : World} {B n c s : Nat} {e : TypeId} {A : Option Addr} {a : Addr} {xs : List Value} (h : w.ownsRow B e s (.slice A n c) n xs) (hA : A = some a) : w.ownsRow B e s (.slice (some a) n c) n xs := by subst hA; exact h
/-- what is left ahead of the place is still the call's own -/
theorem own_ahead {w : World} {B n c g i s : Nat} {e : TypeId} {xs : List Value} (h : w.ownsRow B e s (.slice (some ⟨g, 0, none⟩) n c) n xs) (hi : i ≤ n) : w.ownsRow B e s (.slice (some ⟨g, 0, none⟩) i c) i (xs.take (i * s)) := own_take h hi (by simp)
/-- what stands behind it reads as a row of the same block -/
theorem own_behind {w : World} {B n c g a s o : Nat} {e : TypeId} {xs : List Value} (h : w.ownsRow B e s (.slice (some ⟨g, 0, none⟩) n c) n xs) (ha : a ≤ n) (ho : n = a ∨ o = a * s) : Row w B w.heap.size s (some ⟨g, o, none⟩) (n - a) (c - a) (xs.drop (a * s)) := by
  have hr := own_row h
  have hm := hr.2.2.1
  have hn := hr.2.1
  refine ⟨by rw [List.length_drop, hr.1, Nat.sub_mul], by omega, by omega, fun hp => ?_⟩
  obtain ⟨b, o', e', h1, h2, hc⟩ := hr.2.2.2 (by omega)
  injection e' with e'
  injection e' with e1 e2
  subst e1 e2
  have ho' : o = a * s := by rcases ho with h0 | h0; omega; exact h0
  subst ho'
  refine ⟨g, a * s, rfl, h1, h2, fun j u hu => ?_⟩
  rw [List.getElem?_drop] at hu
  have := hc (a * s + j) u hu
  rwa [Nat.zero_add] at this
/-- the append as the walk takes it: the list without its i-th element -/
theorem app_cut {α : Type} {C : α → List Value} {s : Nat} (hs : ∀ a, (C a).length = s) (h1c : ∀ (l : List α), ∀ u ∈ l.flatMap C, u.oneCell' = true) {X : World} {ops : Array Oper} {rest : List Oper} {o : Oper} {a : Act} {Q : Exit → Act → World → Prop} (hgd : o.guard = none) (sl x : Operand) (t : TypeId)
    (ho : o.op = .call { callee := .builtin .append, args := #[sl, x], argTypes := #[t, t] })
    (B : Nat) (e : TypeId) (i : TypeInfo) (z : Value) (bytes : Nat) (ht : Tryz.prog.underlying t = some (.slice e)) (hi : Tryz.prog.info? e = some i) (hz : i.zero = some z)
    (hsize : i.size = s) (hby : i.bytes = bytes) (hzs : z.cells.size = s) (hsz : 0 < s) (hb64 : bytes ≤ 128)
    {l : List α} {n c g : Nat} (hown : X.ownsRow B e s (.slice (some ⟨g, 0, none⟩) n c) n (l.flatMap C)) (hn : n ≤ 1048576) (k p : Nat) (hk : k < n) (hp : n = k + 1 ∨ p = (k + 1) * s)
    (hsl : a.eval sl = .slice (some ⟨g, 0, none⟩) k c) (hx : a.eval x = .slice (some ⟨g, p, none⟩) (n - (k + 1)) (c - (k + 1))) (hB : B ≤ X.heap.size)
    (h : ∀ A' c' w', w'.ownsRow B e s (.slice A' (n - 1) c') (n - 1) ((l.eraseIdx k).flatMap C) → X.grownBy w' (Value.ownBlock (.slice (some ⟨g, 0, none⟩) n c)) → wpList Tryz.prog ops Q rest (a.put o.dst (.slice A' (n - 1) c')) w') : wpList Tryz.prog ops Q (o :: rest) a X := by
  have hr := own_behind hown (a := k + 1) (by omega) (o := p) hp
  have hN : k + (n - (k + 1)) = n - 1 := by omega
  refine wpList_app X hgd sl x t ho B e i z s bytes ht hi hz hsize hby hzs hsz _ k _ hsl (own_ahead hown (Nat.le_of_lt hk)) B X.heap.size _ _ _ _ hx hr (fun u hu => h1c l u (List.mem_of_mem_drop hu)) (by unfold maxLen; omega) ?_ hB ?_
  · rw [hN]
    exact Nat.le_trans (Nat.mul_le_mul (Nat.le_trans (Nat.sub_le _ _) hn) hb64) (by decide)
  · intro v' w' hown' hg _
    rw [hN, ← flat_erase hs] at hown'
    obtain ⟨A', c', rfl⟩ := own_form hown'
    exact h A' c' w' hown' hg
theorem str_flat : ∀ (l : List ByteArray), l.flatMap (fun u => [Value.string u]) = strCells l
  | [] => rfl
  | a :: r => by rw [List.flatMap_cons, str_flat r]; rfl
theorem one_of {α : Type} {C : α → List Value} (h : ∀ a, (C a).all (·.oneCell') = true) (l : List α) : ∀ u ∈ l.flatMap C, u.oneCell' = true := by
  intro u hu
  obtain ⟨a, _, ha⟩ := List.mem_flatMap.1 hu
  exact List.all_eq_true.1 (h a) u ha
theorem one_conC (a : ConD × Leaf) : (conC a).all (·.oneCell') = true := by simp [conC, Value.oneCell']
theorem one_eqC (a : EqM) : (eqC a).all (·.oneCell') = true := by simp [eqC, Value.oneCell']
theorem one_rowC (a : RowD × Sl) : (rowC a).all (·.oneCell') = true := by simp [rowC, Value.oneCell']
theorem one_ruC (a : RuleD) : (ruC a).all (·.oneCell') = true := by simp [ruC, Value.oneCell']
theorem one_strC (a : ByteArray) : [Value.string a].all (·.oneCell') = true := by simp [Value.oneCell']
/-- where the part behind the place begins: at the list's end the array's first address is told -/
theorem behind_at (gu n c i s : Nat) (hn : n ≤ c) (hi : i < n) : ∃ p : Nat, (if c = i + 1 then some (⟨gu, 0, none⟩ : Addr) else some ⟨gu, (i + 1) * s, none⟩) = some ⟨gu, p, none⟩ ∧ (n = i + 1 ∨ p = (i + 1) * s) := by
  by_cases h : c = i + 1
  · exact ⟨0, by rw [if_pos h], .inl (by omega)⟩
  · exact ⟨(i + 1) * s, by rw [if_neg h], .inr rfl⟩
end Go.Proofs.YtilemieknfdjnaaGreat
namespace Go.Proofs.YtilemieknfdjnaaGreat
open Go Go.RowKit Go.Sort
set_option linter.unusedVariables false
theorem Row.same_ {w w' : World} {lo hi size n c : Nat} {A : Option Addr} {xs : List Value} (h : Row w lo hi size A n c xs) (hk : SameB lo hi w w') : Row w' lo hi size A n c xs := by
  refine ⟨h.1, h.2.1, h.2.2.1, fun h0 => ?_⟩
  obtain ⟨b, o, hA, h1, h2, hc⟩ := h.2.2.2 h0
  refine ⟨b, o, hA, h1, h2, fun j u hu => ?_⟩
  have := hc j u hu
  unfold World.cell? at this ⊢
  rw [hk b h1 h2]
  exact this
theorem langIn_same {w w' : World} {lo hi : Nat} {y : LangM} (h : LangIn w lo hi y) (hk : SameB lo hi w w') : LangIn w' lo hi y := by
  have hr : ∀ {g : RowD × Sl}, RowIn w lo hi g → RowIn w' lo hi g := fun h => ⟨h.qn, Row.same_ h.q hk⟩
  have hs : ∀ {g : SideD × Sl}, SideIn w lo hi g → SideIn w' lo hi g := fun h => ⟨h.an, Row.same_ h.a hk⟩
  exact ⟨h.un, Row.same_ h.u hk, ⟨h.c.n, Row.same_ h.c.row hk, fun g hg => let f := h.c.all g hg; ⟨f.pn, f.kn, f.rn, Row.same_ f.p hk, Row.same_ f.k hk, Row.same_ f.r hk⟩⟩, h.nn, Row.same_ h.n hk,
    ⟨h.q.n, Row.same_ h.q.row hk, fun g hg => let f := h.q.all g hg; ⟨⟨f.l.n, Row.same_ f.l.row hk, fun p hp => hs (f.l.all p hp)⟩, ⟨f.r.n, Row.same_ f.r.row hk, fun p hp => hs (f.r.all p hp)⟩⟩⟩, ⟨h.e.n, Row.same_ h.e.row hk, fun g hg => hr (h.e.all g hg)⟩, ⟨h.t.n, Row.same_ h.t.row hk, fun g hg => hr (h.t.all g hg)⟩⟩
theorem SameB.of_row {lo hi N : Nat} {w : World} {cs : Array Value} (h : N < lo) : SameB lo hi w (w.setRow N cs) := fun g hl _ => setRow_other _ _ _ _ (by omega)
theorem map_erase {α β : Type} (f : α → β) : ∀ (l : List α) (i : Nat), (l.eraseIdx i).map f = (l.map f).eraseIdx i
  | [], _ => rfl
  | _ :: _, 0 => rfl
  | a :: r, i + 1 => by rw [List.eraseIdx_cons_succ, List.map_cons, List.map_cons, List.eraseIdx_cons_succ, map_erase f r i]
/-- what is told of the definition that less answers -/
structure Lesser (x y : LangM) : Prop where
  ok : ContOk (cont x) → ContOk (cont y)
  fit : FitK (cont y)
  n : y.C.n ≤ x.C.n
theorem cer_str (y : LangM) (S : Sl) (i : Nat) : cont ({ y with U := S, us := y.us.eraseIdx i }) = { cont y with us := (cont y).us.eraseIdx i } := by
  rfl
theorem less_str {w X : World} {hi i : Nat} {x y : LangM} {S : Sl} (hx : LangIn w 0 hi x) (hy : LangIn X 0 X.heap.size y) (fx : Fit x) (hE : langEM x y = true) : Lesser x ({ y with U := S, us := y.us.eraseIdx i }) := by
  have h1 := (fit_iff x).1 fx
  rw [cont_same hE] at h1
  refine ⟨fun h => ?_, ?_, ?_⟩
  · rw [cer_str]
    rw [cont_same hE] at h
    exact h.eraseU i
  · rw [cer_str]
    exact ⟨h1.q, h1.e, h1.t⟩
  · have h2 := twin_ncon hE hy hx
    show y.C.n ≤ x.C.n; omega
theorem cer_con (y : LangM) (S : Sl) (i : Nat) : cont ({ y with C := S, cs := y.cs.eraseIdx i }) = { cont y with cs := (cont y).cs.eraseIdx i } := by
  simp only [cont, map_erase]
theorem less_con {w X : World} {hi i : Nat} {x y : LangM} {S : Sl} (hx : LangIn w 0 hi x) (hy : LangIn X 0 X.heap.size y) (fx : Fit x) (hE : langEM x y = true) (hm : S.n = (y.cs.eraseIdx i).length) : Lesser x ({ y with C := S, cs := y.cs.eraseIdx i }) := by
  have h1 := (fit_iff x).1 fx
  rw [cont_same hE] at h1
  refine ⟨fun h => ?_, ?_, ?_⟩
  · rw [cer_con]
    rw [cont_same hE] at h
    exact h.eraseC i
  · rw [cer_con]
    exact ⟨h1.q, h1.e, h1.t⟩
  · have h2 := twin_ncon hE hy hx
    show S.n ≤ x.C.n; have h3 := (List.eraseIdx_sublist y.cs i).length_le; have h4 := hy.c.n; omega
theorem cer_ru (y : LangM) (S : Sl) (i : Nat) : cont ({ y with N := S, ru := y.ru.eraseIdx i }) = { cont y with ru := (cont y).ru.eraseIdx i } := by
  rfl
theorem less_ru {w X : World} {hi i : Nat} {x y : LangM} {S : Sl} (hx : LangIn w 0 hi x) (hy : LangIn X 0 X.heap.size y) (fx : Fit x) (hE : langEM x y = true) : Lesser x ({ y with N := S, ru := y.ru.eraseIdx i }) := by
  have h1 := (fit_iff x).1 fx
  rw [cont_same hE] at h1
  refine ⟨fun h => ?_, ?_, ?_⟩
  · rw [cer_ru]
    rw [cont_same hE] at h
    exact h.eraseN i
  · rw [cer_ru]
    exact ⟨h1.q, h1.e, h1.t⟩
  · have h2 := twin_ncon hE hy hx
    show y.C.n ≤ x.C.n; omega
theorem cer_eq (y : LangM) (S : Sl) (i : Nat) : cont ({ y with Q := S, qs := y.qs.eraseIdx i }) = { cont y with qs := (cont y).qs.eraseIdx i } := by
  simp only [cont, map_erase]
theorem less_eq {w X : World} {hi i : Nat} {x y : LangM} {S : Sl} (hx : LangIn w 0 hi x) (hy : LangIn X 0 X.heap.size y) (fx : Fit x) (hE : langEM x y = true) : Lesser x ({ y with Q := S, qs := y.qs.eraseIdx i }) := by
  have h1 := (fit_iff x).1 fx
  rw [cont_same hE] at h1
  refine ⟨fun h => ?_, ?_, ?_⟩
  · rw [cer_eq]
    rw [cont_same hE] at h
    exact h.eraseQ i
  · rw [cer_eq]
    exact ⟨fun g hg => h1.q g ((List.eraseIdx_sublist _ _).subset hg), h1.e, h1.t⟩
  · have h2 := twin_ncon hE hy hx
    show y.C.n ≤ x.C.n; omega
theorem cer_ed (y : LangM) (S : Sl) (i : Nat) : cont ({ y with E := S, es := y.es.eraseIdx i }) = { cont y with es := (cont y).es.eraseIdx i } := by
  simp only [cont, map_erase]
theorem less_ed {w X : World} {hi i : Nat} {x y : LangM} {S : Sl} (hx : LangIn w 0 hi x) (hy : LangIn X 0 X.heap.size y) (fx : Fit x) (hE : langEM x y = true) : Lesser x ({ y with E := S, es := y.es.eraseIdx i }) := by
  have h1 := (fit_iff x).1 fx
  rw [cont_same hE] at h1
  refine ⟨fun h => ?_, ?_, ?_⟩
  · rw [cer_ed]
    rw [cont_same hE] at h
    exact h.eraseE i
  · rw [cer_ed]
    exact ⟨h1.q, fun g hg => h1.e g ((List.eraseIdx_sublist _ _).subset hg), h1.t⟩
  · have h2 := twin_ncon hE hy hx
    show y.C.n ≤ x.C.n; omega
theorem cer_te (y : LangM) (S : Sl) (i : Nat) : cont ({ y with T := S, ts := y.ts.eraseIdx i }) = { cont y with ts := (cont y).ts.eraseIdx i } := by
  simp only [cont, map_erase]
theorem less_te {w X : World} {hi i : Nat} {x y : LangM} {S : Sl} (hx : LangIn w 0 hi x) (hy : LangIn X 0 X.heap.size y) (fx : Fit x) (hE : langEM x y = true) : Lesser x ({ y with T := S, ts := y.ts.eraseIdx i }) := by
  have h1 := (fit_iff x).1 fx
  rw [cont_same hE] at h1
  refine ⟨fun h => ?_, ?_, ?_⟩
  · rw [cer_te]
    rw [cont_same hE] at h
    exact h.eraseT i
  · rw [cer_te]
    exact ⟨h1.q, h1.e, fun g hg => h1.t g ((List.eraseIdx_sublist _ _).subset hg)⟩
  · have h2 := twin_ncon hE hy hx
    show y.C.n ≤ x.C.n; omega
theorem infoLangS : (Tryz.prog.info? 29).map (·.size) = some 8 := by kernel_rfl
theorem lang_oneA {nm : ByteArray} {vr : Int} {A0 A1 A2 A3 A4 A5 : Option Addr} {n0 c0 n1 c1 n2 c2 n3 c3 n4 c4 n5 c5 : Nat} : (#[.string nm, .int .i64 vr, .slice A0 n0 c0, .slice A1 n1 c1, .slice A2 n2 c2, .slice A3 n3 c3, .slice A4 n4 c4, .slice A5 n5 c5] : Array Value).all (·.oneCell') = true := by simp [Value.oneCell']
theorem load_langS {w : World} {g : Nat} {nm : ByteArray} {vr : Int} {A0 A1 A2 A3 A4 A5 : Option Addr} {n0 c0 n1 c1 n2 c2 n3 c3 n4 c4 n5 c5 : Nat} (h : Blk w g 29 #[.string nm, .int .i64 vr, .slice A0 n0 c0, .slice A1 n1 c1, .slice A2 n2 c2, .slice A3 n3 c3, .slice A4 n4 c4, .slice A5 n5 c5]) : (loadVar 29 ⟨g, 0, none⟩).run Tryz.prog w = .ok (.agg #[.string nm, .int .i64 vr, .slice A0 n0 c0, .slice A1 n1 c1, .slice A2 n2 c2, .slice A3 n3 c3, .slice A4 n4 c4, .slice A5 n5 c5]) w :=
  run_loadVar_row w g _ _ _ (0, 0) _ h Tryz.underlying29 rfl infoLangS
theorem results_rowL {fn : Func} {p u : Tmp} {ty : TypeId} (h : fn.results = #[.cell p ty, .tmp u]) (tmps : Array Value) (w : World) (g : Nat) (cs : Array Value)
    (hp : tmps.getD p undef = .pointer (some ⟨g, 0, none⟩)) (hl : (loadVar ty ⟨g, 0, none⟩).run Tryz.prog w = .ok (.agg cs) w) :
    (results fn tmps).run Tryz.prog w = .ok (.tuple #[.agg cs, tmps.getD u undef]) w := by
  have hp' : tmps[p]?.getD undef = .pointer (some ⟨g, 0, none⟩) := by simpa using hp
  simp [results, h, hp', asAddr, hl]
/-- what less tells: a definition that stands well and has no more concepts, and may be if the first may -/
def LessPost (w : World) (x : LangM) (e : Ending) (w' : World) : Prop := Below w.heap.size w w' ∧ ∃ (y : LangM) (ok : Bool), e = .returned (.tuple #[.agg #[.string y.name, .int .i64 y.ver, .slice y.U.A y.U.n y.U.c, .slice y.C.A y.C.n y.C.c, .slice y.N.A y.N.n y.N.c, .slice y.Q.A y.Q.n y.Q.c, .slice y.E.A y.E.n y.E.c, .slice y.T.A y.T.n y.T.c], .bool ok]) ∧ LangIn w' 0 w'.heap.size y ∧ Lesser x y
theorem less_none {w Y : World} {hi : Nat} {x : LangM} (hx : LangIn w 0 hi x) (hh : hi ≤ w.heap.size) (fx : Fit x) (hb : Below w.heap.size w Y) : LessPost w x (.returned (.tuple #[.agg #[.string x.name, .int .i64 x.ver, .slice x.U.A x.U.n x.U.c, .slice x.C.A x.C.n x.C.c, .slice x.N.A x.N.n x.N.c, .slice x.Q.A x.Q.n x.Q.c, .slice x.E.A x.E.n x.E.c, .slice x.T.A x.T.n x.T.c], .bool false])) Y :=
  ⟨hb, x, false, rfl, langK.mono (langK.below hx (hb.mono hh)) (Nat.le_refl _) (Nat.le_trans hh hb.size), id, (fit_iff x).1 fx, Nat.le_refl _⟩
theorem less_some {w Y : World} {x y : LangM} {ds cs : Array Value} {gx : Nat} (h : LEnd w x ds y gx Y) (hL : Lesser x y) : LessPost w x (.returned (.tuple #[.agg #[.string y.name, .int .i64 y.ver, .slice y.U.A y.U.n y.U.c, .slice y.C.A y.C.n y.C.c, .slice y.N.A y.N.n y.N.c, .slice y.Q.A y.Q.n y.Q.c, .slice y.E.A y.E.n y.E.c, .slice y.T.A y.T.n y.T.c], .bool true])) (Y.setRow (w.heap.size + 1) cs) :=
  ⟨below_setRow h.q.bel (by omega) _, y, true, rfl, langK.mono (langIn_same h.l (SameB.of_row (by omega))) (Nat.zero_le _) (by simp [World.setRow]), hL⟩
/-- nothing is taken away -/
theorem LSt.whole {w : World} {x y : LangM} {ds : Array Value} {gx : Nat} {Y : World} (h : LSt w x ds y gx Y) : LEnd w x ds y gx Y :=
  ⟨h.q, h.bx, h.l.un, own_row h.o.u, GL.toG h.o.c h.l.c.n (fun _ hg => hg.in_), h.l.nn, own_row h.o.n, GL.toG h.o.q h.l.q.n (fun _ hg => hg.in_), GL.toG h.o.e h.l.e.n (fun _ hg => hg.in_), GL.toG h.o.t h.l.t.n (fun _ hg => hg.in_)⟩
theorem less_same {w X : World} {hi : Nat} {x y : LangM} (hx : LangIn w 0 hi x) (hy : LangIn X 0 X.heap.size y) (fx : Fit x) (hE : langEM x y = true) : Lesser x y := by
  have h1 := (fit_iff x).1 fx
  rw [cont_same hE] at h1
  refine ⟨fun h => ?_, h1, ?_⟩
  · rw [cont_same hE] at h
    exact h
  · have h2 := twin_ncon hE hy hx
    omega
theorem ecells_le {x y : LangM} (fg : FitG x) (hE : langEM x y = true) {q : RowD × Sl} (hq : q ∈ y.es) : q.1.cells.length ≤ 20000 := by
  have h : q.1 ∈ (cont y).es := List.mem_map.2 ⟨q, hq, rfl⟩
  rw [← cont_same hE] at h
  obtain ⟨p, hp, e⟩ := List.mem_map.1 h
  rw [← e]; exact fg.es p hp
theorem tcells_le {x y : LangM} (fg : FitG x) (hE : langEM x y = true) {q : RowD × Sl} (hq : q ∈ y.ts) : q.1.cells.length ≤ 20000 := by
  have h : q.1 ∈ (cont y).ts := List.mem_map.2 ⟨q, hq, rfl⟩
  rw [← cont_same hE] at h
  obtain ⟨p, hp, e⟩ := List.mem_map.1 h
  rw [← e]; exact fg.ts p hp
end Go.Proofs.YtilemieknfdjnaaGreat
namespace Go.Proofs.YtilemieknfdjnaaGreat
open Go Go.RowKit Go.Sort
set_option linter.unusedVariables false
theorem own_grown {w w' : World} {B size n : Nat} {e : TypeId} {v : Value} {xs : List Value} {row : Option Nat} (h : w.ownsRow B e size v n xs) (hne : v.ownBlock = none ∨ v.ownBlock ≠ row) (hg : w.grownBy w' row) : w'.ownsRow B e size v n xs := by
  refine ⟨h.1, ?_⟩
  rcases h.2 with hn | ⟨g, cap, cur, rfl, hbg, hgg, rest⟩
  · exact .inl hn
  · refine .inr ⟨g, cap, cur, rfl, hbg, ?_, rest⟩
    rw [hg.block g (Array.getElem?_eq_some_iff.1 hgg).1 ?_]
    · exact hgg
    · rcases hne with h0 | h0
      · simp [Value.ownBlock] at h0
      · simpa [Value.ownBlock] using h0
/-- two parts' lists are not one -/
theorem ap_ne {γ : Type} {C : γ → List Value} {O : World → Nat → γ → Prop} {B : Nat} {l : List γ} {X : World} (h : Ap C O B l X) {i j : Nat} {a b : γ} (ha : l[i]? = some a) (hb : l[j]? = some b) (hne : j ≠ i) {va vb : Value} (hva : va ∈ C a) (hvb : vb ∈ C b)
    (hla : ∀ k, O X k a → ∀ g, va.ownBlock = some g → k ≤ g) (hlb : ∀ k, O X k b → ∀ g, vb.ownBlock = some g → k ≤ g) : vb.ownBlock = none ∨ vb.ownBlock ≠ va.ownBlock := by
  obtain ⟨hi, rfl⟩ := List.getElem?_eq_some_iff.1 ha
  obtain ⟨hj, rfl⟩ := List.getElem?_eq_some_iff.1 hb
  unfold Ap at h
  rw [List.pairwise_iff_getElem] at h
  cases hg : vb.ownBlock with
  | none => exact .inl rfl
  | some g =>
    right
    intro e
    rcases Nat.lt_or_gt_of_ne hne with hlt | hlt
    · obtain ⟨k, _, h1, h2⟩ := h j i hj hi hlt
      have h3 := h1 vb hvb g hg
      have h4 := hla k h2 g e.symm
      omega
    · obtain ⟨k, _, h1, h2⟩ := h i j hi hj hlt
      have h3 := h1 va hva g e.symm
      have h4 := hlb k h2 g hg
      omega
theorem row_apart {X : World} {B : Nat} {T' : TypeId} {l : List (RowD × Sl)} (h : Ap rowC (RowOwn T') B l X) {i j : Nat} {a b : RowD × Sl} (ha : l[i]? = some a) (hb : l[j]? = some b) (hne : j ≠ i) : Value.ownBlock (.slice b.2.A b.2.n b.2.c) = none ∨ Value.ownBlock (.slice b.2.A b.2.n b.2.c) ≠ Value.ownBlock (.slice a.2.A a.2.n a.2.c) :=
  ap_ne h ha hb hne (by simp [rowC]) (by simp [rowC]) (fun k ho g hg => (World.ownsRow.lt ho.q g hg).1) (fun k ho g hg => (World.ownsRow.lt ho.q g hg).1)
end Go.Proofs.YtilemieknfdjnaaGreat

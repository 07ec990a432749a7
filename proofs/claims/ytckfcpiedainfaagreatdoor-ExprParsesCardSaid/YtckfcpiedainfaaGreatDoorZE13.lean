/-
  THE LIBRARY's AND PACKAGE lex's VARIABLES as the rows list them: what that gives the walks; a start in which they lie so.
  WALKS over package lex: which tokens may be; a token's form.
  WALKS over package lex: a token's form; which token of a list may not be.
  TOKENS AS AN ARGUMENT: what the reading of them tells of the cells, and how long their texts are.
  EXPRESSIONS IN PLAIN MATHEMATICS: nodes, the forest that a list of nodes is, which lists are expressions.
-/
import Derived.Test.YtckfcpiedainfaaGreatDoorZE12
import Derived.Test.YtckfcpiedainfaaGreatDoorCards
import Derived.Test.YtckfcpiedainfaaGreatDoorTie
import Derived.ProofKit
import Derived.OpenShut
import Derived.Deep.DeepHandedRow
import Derived.Deep.DeepWitnessRowRef
import Derived.Stop.LaidErr
import Derived.SizedLaws
import Derived.Deep.Slices
import Derived.Deep.SlicePairs
import Derived.Deep.Fields
import Derived.ChangeSame
import Derived.ChangeSlices
namespace Go.Proofs.YtckfcpiedainfaaGreatDoor
open Go Go.ChangeShapes Go.WideShapes Go.ChangeAt Go.RowKit
set_option linter.unusedVariables false
theorem own : ownKnob Tryz.prog.godebug = none := by kernel_rfl
theorem gSynType : (Tryz.prog.globals[3]?).map (·.type) = some 121 := by kernel_rfl
theorem gRngType : (Tryz.prog.globals[4]?).map (·.type) = some 121 := by kernel_rfl
theorem gTabType : (Tryz.prog.globals[5]?).map (·.type) = some 168 := by kernel_rfl
theorem gWords : Tryz.prog.globalNamed "topiary/lex.words" = some 2 := by kernel_rfl
theorem gMarks : Tryz.prog.globalNamed "topiary/lex.marks" = some 1 := by kernel_rfl
theorem gWordsType : (Tryz.prog.globals[2]?).map (·.type) = some 138 := by kernel_rfl
theorem gMarksType : (Tryz.prog.globals[1]?).map (·.type) = some 127 := by kernel_rfl
theorem cellsES : Tryz.prog.cellsOf 166 = 1 := by kernel_rfl
theorem cellsStr : Tryz.prog.cellsOf 9 = 1 := by kernel_rfl
theorem starName : "*" ++ "errors.errorString" = "*errors.errorString" := by decide
theorem rowES (u : TypeId) (h : Tryz.prog.typeName? 3 u = some "*errors.errorString") : u = 164 :=
  typeName_ptr_named (nm := "errors.errorString") (by rw [starName]; kernel_rfl) (by kernel_rfl) (by decide) u (by rw [starName]; exact h)
theorem cellsU64 : Tryz.prog.cellsOf 37 = 1 := by kernel_rfl
theorem cellsTab : Tryz.prog.cellsOf 168 = 20 := by kernel_rfl
theorem cellsWords : Tryz.prog.cellsOf 138 = 22 := by kernel_rfl
theorem cellsMarks : Tryz.prog.cellsOf 127 = 16 := by kernel_rfl
/-- an array of strings as a row lists it -/
def strData {H : Type} (l : List (List UInt8)) : DataW H := .agg (l.map fun m => .lit (.string m))
theorem cells_of_strs {H : Type} {enc : TypeId × Value → H} {P : Program} {w : World} {base : Nat} {sp : Nat → Bool} {held : Bool} {fuel : Nat} {t e : TypeId} {n : Nat} {cs : List Value} {l : List (List UInt8)} {p : List MemPlace}
    (ht : P.underlying t = some (.array n e)) (he : P.underlying e = some .string) (hce : P.cellsOf e = 1) (hct : P.cellsOf t = n)
    (h : DataW.trod enc P w base sp held fuel t cs = some (strData l, p)) : cs = l.map fun m => Value.string (ba m) := by
  cases fuel with
  | zero => simp [DataW.trod] at h
  | succ fuel =>
    simp only [DataW.trod, ht, hce, hct, Nat.mul_one] at h
    split at h
    · rename_i hl
      obtain ⟨xs, hm, hx⟩ := Option.map_eq_some_iff.1 h
      have hxs : xs.map (·.1) = l.map fun m => (DataW.lit (.string m) : DataW H) := by
        have := congrArg Prod.fst hx
        simpa [strData] using this
      have hxl : xs.length = n := by simpa using Lib.mapM_length hm
      have hzl : l.length = n := by
        have := congrArg List.length hxs
        simp at this
        omega
      apply List.ext_getElem?
      intro i
      by_cases hi : i < n
      · obtain ⟨b, hb, hf⟩ := Lib.mapM_at hm i i (by simp [hi])
        obtain ⟨z, hc, rfl, _⟩ := DataW.trod_string he hf
        have h1 : cs[i]? = some (.string z) := by
          have := congrArg (·[0]?) hc
          simpa [List.getElem?_take, List.getElem?_drop] using this
        have h2 : (xs.map (·.1))[i]? = some (DataW.lit (.string z.data.toList) : DataW H) := by simp [hb]
        rw [hxs] at h2
        simp only [List.getElem?_map, Option.map_eq_some_iff, DataW.lit.injEq, Lit.string.injEq] at h2
        obtain ⟨z', hz', rfl⟩ := h2
        simp [h1, hz', ba_list']
      · rw [List.getElem?_eq_none (by omega), List.getElem?_eq_none (by simp; omega)]
    · cases h
theorem strs_of_head {W : World} {name : String} {l : List (List UInt8)} {rest : List (String × DataW Unit)} {g : Nat} {t e : TypeId} {n : Nat}
    (hg : Tryz.prog.globalNamed name = some g) (hty : (Tryz.prog.globals[g]?).map (·.type) = some t) (ht : Tryz.prog.underlying t = some (.array n e)) (he : Tryz.prog.underlying e = some .string) (hce : Tryz.prog.cellsOf e = 1) (hct : Tryz.prog.cellsOf t = n)
    (h : laidMet Tryz.prog ((name, strData l) :: rest) W) : ∃ t fr, W.heap[g]? = some (.cells (strsV l) t fr) := by
  obtain ⟨ps, ⟨g', t', cs, fuel, p, q, hg', ht', hvar, hd, _, _⟩, _⟩ := h
  obtain rfl := Option.some.inj (hg.symm.trans hg')
  obtain rfl := Option.some.inj (hty.symm.trans ht')
  have hcs := cells_of_strs ht he hce hct hd
  unfold World.var? at hvar
  simp only [hg, Option.bind_some] at hvar
  split at hvar
  · rename_i cs' t2 fr hh
    refine ⟨t2, fr, ?_⟩
    rw [hh]
    have : cs' = strsV l := by
      obtain rfl := Option.some.inj hvar
      unfold strsV
      rw [← hcs]
    rw [this]
  · cases hvar
/-- so many blocks has the settled world -/
noncomputable def low : Nat := (World.holding Tryz.prog default ⟨#[], #[], []⟩).heap.size
def textRange : ByteArray := ⟨#[118, 97, 108, 117, 101, 32, 111, 117, 116, 32, 111, 102, 32, 114, 97, 110, 103, 101]⟩
def textSyntax : ByteArray := ⟨#[105, 110, 118, 97, 108, 105, 100, 32, 115, 121, 110, 116, 97, 120]⟩
def put (cs : Array Value) : Obj → Obj
  | .cells _ t frozen => .cells cs t frozen
  | o => o
/-- a start: the settled world, the listed variables as their initialisers lay them -/
noncomputable def laidWorld (os : Os) : World :=
  let w0 := World.holding Tryz.prog os ⟨#[.cells #[.string textRange] 166, .cells #[.string textSyntax] 166], #[], []⟩
  { w0 with heap := (((((((w0.heap.modify 4 (put #[.iface 164 (.pointer (some ⟨low, 0, none⟩))])).modify 3 (put #[.iface 164 (.pointer (some ⟨low + 1, 0, none⟩))])).modify 5 (put (Lib.pow10Tab.map (Value.int .u64)).toArray)).modify 6 (put (([0, 1, 28, 2, 29, 14, 24, 3, 30, 22, 20, 15, 25, 17, 4, 8, 31, 27, 13, 23, 21, 19, 16, 7, 26, 12, 18, 6, 11, 5, 10, 9] : List Int).map (Value.int .u8)).toArray)).modify 7 (put (([0, 1, 56, 2, 57, 49, 28, 3, 61, 58, 42, 50, 38, 29, 17, 4, 62, 47, 59, 36, 45, 43, 51, 22, 53, 39, 33, 30, 24, 18, 12, 5, 63, 55, 48, 27, 60, 41, 37, 16, 46, 35, 44, 21, 52, 32, 23, 11, 54, 26, 40, 15, 34, 20, 31, 10, 25, 14, 19, 9, 13, 8, 7, 6] : List Int).map (Value.int .u8)).toArray)).modify 2 (put (strsV wordsL))).modify 1 (put (strsV marksL))) }
/-- the form's reach: a text's length -/
theorem reach_of {H : Type} {ts : List TypeId} {ds : List (DataW H)} (h : (DataW.weightsEach Tryz.prog ts ds).all (· ≤ reachBytes) = true) {j : Nat} {t : TypeId} {s : ByteArray} (ht : ts[j]? = some t) (hd : ds[j]? = some (.lit (.string s.data.toList))) : s.size ≤ 140737488351232 := by
  have := sized_string h ht hd
  rw [toList_eq] at this
  exact this
end Go.Proofs.YtckfcpiedainfaaGreatDoor
namespace Go.Proofs.YtckfcpiedainfaaGreatDoor
open Go Go.RowKit
set_option linter.unusedVariables false
theorem tells1 {w w' : World} {a b : Bool} (h : a = b) (hb : Below w.heap.size w w') : Tells1 w b (.returned (.bool a)) w' := ⟨by rw [h], hb⟩
end Go.Proofs.YtckfcpiedainfaaGreatDoor
namespace Go.Proofs.YtckfcpiedainfaaGreatDoor
open Go Go.RowKit
set_option linter.unusedVariables false
/-- the slice value '.slice A n c' holds these tokens, in a block below hi -/
def TokIn (w : World) (hi : Nat) (A : Option Addr) (n c : Nat) (l : List Tok) : Prop := Row w 0 hi 4 A n c (toksCells l)
structure CellsAt (w : World) (b o : Nat) (k : Tok) : Prop where
  c0 : w.cell? ⟨b, o, none⟩ = some (.int .i64 k.kind)
  c1 : w.cell? ⟨b, o + 1, none⟩ = some (.string k.text)
  c2 : w.cell? ⟨b, o + 2, none⟩ = some (.int .i64 k.int)
  c3 : w.cell? ⟨b, o + 3, none⟩ = some (.int .i64 k.place)
section
variable {w w' : World} {hi n c : Nat} {A : Option Addr} {l : List Tok}
theorem TokIn.len (h : TokIn w hi A n c l) : l.length = n := by have := h.1; rw [toksCells_len] at this; omega
theorem TokIn.below (h : TokIn w hi A n c l) (hb : Below hi w w') : TokIn w' hi A n c l := Row.below h hb
theorem TokIn.max (h : TokIn w hi A n c l) : n ≤ maxLen := Nat.le_trans h.2.1 h.2.2.1
theorem TokIn.at_ (h : TokIn w hi A n c l) {i : Nat} (hi' : i < n) : ∃ b o k, A = some ⟨b, o, none⟩ ∧ b < hi ∧ l[i]? = some k ∧ CellsAt w b (o + i * 4) k := by
  have hl := h.len
  obtain ⟨b, o, e, _, hlt, hc⟩ := Row.at_ h (by omega)
  have hk : l[i]? = some (l[i]'(by omega)) := List.getElem?_eq_getElem _
  have key : ∀ j u, j < 4 → (tokCells (l[i]'(by omega)))[j]? = some u → w.cell? ⟨b, o + i * 4 + j, none⟩ = some u := by
    intro j u hj hu
    have := hc (i * 4 + j) u (by unfold toksCells; rw [flatN_get tokCells_len l i _ hk j hj]; exact hu)
    rwa [← Nat.add_assoc] at this
  exact ⟨b, o, _, e, hlt, hk, key 0 _ (by omega) rfl, key 1 _ (by omega) rfl, key 2 _ (by omega) rfl, key 3 _ (by omega) rfl⟩
end
theorem CellsAt.below {w w' : World} {b o hi : Nat} {k : Tok} (h : CellsAt w b o k) (hb : Below hi w w') (hlt : b < hi) : CellsAt w' b o k :=
  ⟨(hb.cell (p := ⟨b, _, none⟩) hlt).trans h.c0, (hb.cell (p := ⟨b, _, none⟩) hlt).trans h.c1, (hb.cell (p := ⟨b, _, none⟩) hlt).trans h.c2, (hb.cell (p := ⟨b, _, none⟩) hlt).trans h.c3⟩
/-- a token's number fits, and its text is no longer than any memory -/
structure TokOk (k : Tok) : Prop where
  i0 : -9223372036854775808 ≤ k.int
  i1 : k.int ≤ 9223372036854775807
  t : k.text.size ≤ 140737488355328
structure NoneBad (l : List Tok) (k : Nat) : Prop where
  out : (l.take k).all may = true
theorem NoneBad.next {l : List Tok} {k : Nat} {t : Tok} (h : NoneBad l k) (ht : l[k]? = some t) (hm : may t = true) : NoneBad l (k + 1) := by
  refine ⟨?_⟩
  rw [List.take_add_one, ht]
  simp [List.all_append, h.out, hm]
theorem NoneBad.bad {l : List Tok} {k : Nat} {t : Tok} (ht : l[k]? = some t) (hm : may t = false) : l.all may = false := by
  rw [Bool.eq_false_iff]
  intro h
  rw [List.all_eq_true] at h
  have := h t (List.mem_of_getElem? ht)
  rw [hm] at this; cases this
theorem NoneBad.fin {l : List Tok} {k : Nat} (h : NoneBad l k) (hk : l.length ≤ k) : l.all may = true := by
  have := h.out
  rwa [List.take_of_length_le hk] at this
end Go.Proofs.YtckfcpiedainfaaGreatDoor
namespace Go.Proofs.YtckfcpiedainfaaGreatDoor
open Go Go.RowKit Go.ChangeShapes Go.WideShapes Go.Deep
set_option linter.unusedVariables false
section
variable {w : World}
end
instance tokInhabited : Inhabited Tok := ⟨⟨0, ByteArray.empty, 0, 0⟩⟩
section
variable {H : Type} {enc : TypeId × Value → H} {w : World} {base : Nat} {spare : Nat → Bool} {held : Bool}
/-- a struct of one-cell fields: each field's cell, with its reading -/
theorem fields_of {P : Program} {e : TypeId} {fs : Array Field} {fuel : Nat} {cs : List Value} {x : DataW H × List MemPlace} (he : P.underlying e = some (.struct fs)) (hone : oneCellFields P fs = true) (hlen : cs.length = fs.size)
    (h : DataW.trod enc P w base spare held fuel e cs = some x) :
    ∃ (ys : List (DataW H × List MemPlace)) (n : Nat), x.1 = .agg (ys.map (·.1)) ∧ ∀ (j : Nat) (f : Field), fs[j]? = some f → ∃ (v : Value) (y : DataW H × List MemPlace), cs[j]? = some v ∧ ys[j]? = some y ∧ DataW.trod enc P w base spare held n f.type [v] = some y := by
  obtain ⟨ys, n, _, rfl, hl, hys, hf⟩ := DataW.trod_struct he h
  refine ⟨ys, n, rfl, fun j f hj => ?_⟩
  have hjs : j < fs.size := (Array.getElem?_eq_some_iff.1 hj).1
  have hjl : j < cs.length := by omega
  have hjy : j < ys.length := by omega
  obtain ⟨o1, o2⟩ := hone_of hone j f hj
  have h1 := hf j f hj
  rw [o1, o2, List.drop_eq_getElem_cons hjl, List.take_succ_cons, List.take_zero, List.getElem?_eq_getElem hjy] at h1
  exact ⟨cs[j], ys[j], List.getElem?_eq_getElem hjl, List.getElem?_eq_getElem hjy, h1⟩
end
end Go.Proofs.YtckfcpiedainfaaGreatDoor
namespace Go.Proofs.YtckfcpiedainfaaGreatDoor
open Go
set_option linter.unusedVariables false
structure EN where
  kind : Int
  text : ByteArray
  int : Int
  kids : List Int
def nameB (s : List UInt8) : Bool := right s && !wordB s
/-- how many kids a Kind has -/
def kidsV (k : Int) : Int := if k < 1 ∨ 34 < k then -1 else if k ≤ 7 then 0 else if k ≤ 19 ∨ k = 29 then 1 else if k = 30 then 3 else 2
def namedB (k : Int) : Bool := (decide (7 ≤ k) && decide (k ≤ 13) && !(k == 11)) || decide (31 ≤ k)
def leastB (n : Int) : Bool := n == -9223372036854775808
/-- may a node be, whatever stands around it? -/
def soundV (kind : Int) (text : List UInt8) (zero least : Bool) (kids : Nat) (nm : Bool) : Bool :=
  if kidsV kind ≠ kids then false else if (kind ≠ 1 ∧ zero = false) ∨ least = true then false else if namedB kind then nm else (decide (kind = 2) && decide (text.length ≤ 4096)) || decide (text = [])
def soundB (n : EN) : Bool := soundV n.kind n.text.data.toList (n.int == 0) (leastB n.int) n.kids.length (nameB n.text.data.toList)
/-- trees in a row -/
inductive Fo where
  | nil : Fo
  | cons (k : Int) (s : ByteArray) (i : Int) (kids rest : Fo) : Fo
namespace Fo
def size : Fo → Nat
  | nil => 0
  | cons _ _ _ a r => 1 + a.size + r.size
def depth : Fo → Nat
  | nil => 0
  | cons _ _ _ a r => max (1 + a.depth) r.depth
/-- where the trees of a row begin -/
def offs : Nat → Fo → List Int
  | _, nil => []
  | p, cons _ _ _ a r => (p : Int) :: offs (p + 1 + a.size) r
def count : Fo → Nat
  | nil => 0
  | cons _ _ _ _ r => 1 + r.count
end Fo
theorem offs_len : ∀ (f : Fo) (p : Nat), (f.offs p).length = f.count
  | .nil, _ => rfl
  | .cons _ _ _ a r, p => by simp only [Fo.offs, Fo.count, List.length_cons, offs_len r]; omega
theorem Fo.count_le : ∀ f : Fo, f.count ≤ f.size
  | .nil => Nat.le_refl _
  | .cons _ _ _ a r => by have := Fo.count_le r; simp only [Fo.count, Fo.size]; omega
/-- the row of trees lies in the list from a place on -/
def At (l : List EN) : Nat → Fo → Prop
  | _, .nil => True
  | p, .cons k s i a r => l[p]? = some ⟨k, s, i, a.offs (p + 1)⟩ ∧ At l (p + 1) a ∧ At l (p + 1 + a.size) r
theorem At.le {l : List EN} : ∀ (f : Fo) (p : Nat), p ≤ l.length → At l p f → p + f.size ≤ l.length
  | .nil, p, h, _ => h
  | .cons k s i a r, p, h, ⟨h1, h2, h3⟩ => by
    have hp := (List.getElem?_eq_some_iff.1 h1).1
    have e1 := At.le a (p + 1) (by omega) h2
    have e2 := At.le r (p + 1 + a.size) e1 h3
    simp only [Fo.size]; omega
/-- the trees that begin at these places, the first one at a place -/
def takeN (l : List EN) : Nat → Nat → List Int → Option Fo
  | _, _, [] => some .nil
  | 0, _, _ :: _ => none
  | N + 1, p, k :: ks =>
    if k = p then
      match l[p]? with
      | none => none
      | some n =>
        match takeN l N (p + 1) n.kids with
        | none => none
        | some a =>
          match takeN l N (p + 1 + a.size) ks with
          | none => none
          | some r => some (.cons n.kind n.text n.int a r)
    else none
theorem takeN_fuel (l : List EN) : ∀ (N M p : Nat) (ks : List Int), l.length ≤ N + p → l.length ≤ M + p → takeN l N p ks = takeN l M p ks
  | 0, 0, _, [], _, _ => rfl
  | 0, M + 1, _, [], _, _ => rfl
  | N + 1, 0, _, [], _, _ => rfl
  | N + 1, M + 1, _, [], _, _ => rfl
  | 0, 0, p, k :: ks, _, _ => rfl
  | 0, M + 1, p, k :: ks, h, _ => by
    have e : l[p]? = none := List.getElem?_eq_none (by omega)
    simp only [takeN, e]
    split <;> rfl
  | N + 1, 0, p, k :: ks, _, h => by
    have e : l[p]? = none := List.getElem?_eq_none (by omega)
    simp only [takeN, e]
    split <;> rfl
  | N + 1, M + 1, p, k :: ks, h1, h2 => by
    simp only [takeN]
    by_cases hk : k = p
    · rw [if_pos hk, if_pos hk]
      cases l[p]? with
      | none => rfl
      | some n =>
        simp only
        rw [takeN_fuel l N M (p + 1) n.kids (by omega) (by omega)]
        cases takeN l M (p + 1) n.kids with
        | none => rfl
        | some a =>
          simp only
          rw [takeN_fuel l N M (p + 1 + a.size) ks (by omega) (by omega)]
    · rw [if_neg hk, if_neg hk]
def takeV (l : List EN) (p : Nat) (ks : List Int) : Option Fo := takeN l l.length p ks
theorem takeV_nil (l : List EN) (p : Nat) : takeV l p [] = some .nil := by unfold takeV; cases l.length <;> rfl
theorem takeV_cons (l : List EN) (p : Nat) (k : Int) (ks : List Int) : takeV l p (k :: ks) =
    if k = p then
      match l[p]? with
      | none => none
      | some n =>
        match takeV l (p + 1) n.kids with
        | none => none
        | some a =>
          match takeV l (p + 1 + a.size) ks with
          | none => none
          | some r => some (.cons n.kind n.text n.int a r)
    else none := by
  unfold takeV
  rw [takeN_fuel l l.length (l.length + 1) p (k :: ks) (by omega) (by omega)]
  rfl
theorem takeV_hit {l : List EN} {p : Nat} {n : EN} (h : l[p]? = some n) (ks : List Int) : takeV l p ((p : Int) :: ks) =
        match takeV l (p + 1) n.kids with
        | none => none
        | some a =>
          match takeV l (p + 1 + a.size) ks with
          | none => none
          | some r => some (.cons n.kind n.text n.int a r) := by
  rw [takeV_cons, if_pos rfl, h]
theorem at_of_take (l : List EN) : ∀ (N p : Nat) (ks : List Int) (f : Fo), takeN l N p ks = some f → At l p f ∧ ks = f.offs p
  | 0, p, [], f, h => by simp only [takeN, Option.some.injEq] at h; subst h; exact ⟨trivial, rfl⟩
  | N + 1, p, [], f, h => by simp only [takeN, Option.some.injEq] at h; subst h; exact ⟨trivial, rfl⟩
  | 0, p, k :: ks, f, h => by simp only [takeN] at h; cases h
  | N + 1, p, k :: ks, f, h => by
    simp only [takeN] at h
    by_cases hk : k = p
    · rw [if_pos hk] at h
      cases hn : l[p]? with
      | none => rw [hn] at h; cases h
      | some n =>
        rw [hn] at h
        simp only at h
        cases ha : takeN l N (p + 1) n.kids with
        | none => rw [ha] at h; cases h
        | some a =>
          rw [ha] at h
          simp only at h
          cases hr : takeN l N (p + 1 + a.size) ks with
          | none => rw [hr] at h; cases h
          | some r =>
            rw [hr] at h
            simp only [Option.some.injEq] at h
            subst h
            obtain ⟨a1, a2⟩ := at_of_take l N (p + 1) n.kids a ha
            obtain ⟨r1, r2⟩ := at_of_take l N (p + 1 + a.size) ks r hr
            refine ⟨⟨?_, a1, r1⟩, ?_⟩
            · rw [hn, ← a2]
            · rw [hk, r2]; rfl
    · rw [if_neg hk] at h; cases h
theorem takeV_at {l : List EN} {p : Nat} {ks : List Int} {f : Fo} (h : takeV l p ks = some f) : At l p f ∧ ks = f.offs p := at_of_take l _ p ks f h
theorem at_takeV (l : List EN) : ∀ (f : Fo) (p : Nat), At l p f → takeV l p (f.offs p) = some f
  | .nil, p, _ => takeV_nil l p
  | .cons k s i a r, p, ⟨h1, h2, h3⟩ => by
    show takeV l p ((p : Int) :: r.offs (p + 1 + a.size)) = _
    rw [takeV_hit h1]
    simp only
    rw [at_takeV l a (p + 1) h2]
    simp only
    rw [at_takeV l r (p + 1 + a.size) h3]
/-- the whole as one tree -/
def wholeV (l : List EN) : Option Fo := takeV l 0 [0]
/-- the error of a list of nodes -/
def rightV (l : List EN) : Int :=
  if 256 < l.length then 4 else if l.all soundB = false then 80 else
    match wholeV l with
    | none => 80
    | some f => if f.size = l.length then (if 32 < f.depth then 4 else 0) else 80
theorem rightV_some {l : List EN} {f : Fo} (h : ¬ 256 < l.length) (h1 : l.all soundB = true) (h2 : wholeV l = some f) : rightV l = if f.size = l.length then (if 32 < f.depth then 4 else 0) else 80 := by
  unfold rightV
  rw [if_neg h, if_neg (by rw [h1]; simp), h2]
/-- what a right list is -/
structure Tree (l : List EN) (f : Fo) : Prop where
  len : l.length ≤ 256
  sound : ∀ n ∈ l, soundB n = true
  at_ : At l 0 f
  one : f.offs 0 = [0]
  size : f.size = l.length
  depth : f.depth ≤ 32
end Go.Proofs.YtckfcpiedainfaaGreatDoor

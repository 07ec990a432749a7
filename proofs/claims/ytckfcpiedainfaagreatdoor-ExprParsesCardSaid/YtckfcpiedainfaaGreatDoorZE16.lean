/-
  THE LIBRARY's VARIABLES AND PACKAGES lex's, expr's AND kinds' as the row of KindsOf lists them: what that gives the walks; a start in which they lie so.
  AN EXPRESSION AS AN ARGUMENT: what the reading of it tells of the cells, and how great its lists may be.
  PLAIN: the grammar of expressions (chapter 9) as a reader over tokens. No program stands in it.
  PLAIN: what the reader of expressions leaves: fewer tokens. No program stands in it.
-/
import Derived.Test.YtckfcpiedainfaaGreatDoorZE15
namespace Go.Proofs.YtckfcpiedainfaaGreatDoor
open Go Go.RowKit Go.ChangeShapes Go.WideShapes Go.ChangeAt Go.Deep Go.Sort
set_option linter.unusedVariables false
theorem gSigns : Tryz.prog.globalNamed "topiary/expr.signs" = some 0 := by kernel_rfl
theorem gSignsType : (Tryz.prog.globals[0]?).map (·.type) = some 94 := by kernel_rfl
theorem cellsSign : Tryz.prog.cellsOf 93 = 5 := by kernel_rfl
theorem chunks {α : Type} {C : α → List Value} {s : Nat} : ∀ (l : List α) (cs : List Value), cs.length = l.length * s → (∀ (i : Nat) (a : α), l[i]? = some a → (cs.drop (i * s)).take s = C a) → cs = l.flatMap C
  | [], cs, hl, _ => by
    simp only [List.length_nil, Nat.zero_mul] at hl
    rw [List.length_eq_zero_iff.1 hl]; rfl
  | a :: l, cs, hl, h => by
    have h0 := h 0 a rfl
    simp only [Nat.zero_mul, List.drop_zero] at h0
    have h1 := chunks l (cs.drop s) (by rw [List.length_drop, hl, List.length_cons, Nat.succ_mul]; exact Nat.add_sub_cancel ..) (fun i b hb => by
      rw [List.drop_drop, show s + i * s = (i + 1) * s from by rw [Nat.succ_mul]; omega]
      exact h (i + 1) b (by simpa using hb))
    rw [List.flatMap_cons, ← h0, ← h1, List.take_append_drop]
/-- an array whose elements' data tell their cells -/
theorem arr_cells {H α : Type} {enc : TypeId × Value → H} {P : Program} {w : World} {base : Nat} {sp : Nat → Bool} {held : Bool} {fuel : Nat} {t e : TypeId} {n s : Nat} {cs : List Value} {D : α → DataW H} {C : α → List Value} {l : List α} {p : List MemPlace}
    (ht : P.underlying t = some (.array n e)) (hs : P.cellsOf e = s) (hct : P.cellsOf t = n * s)
    (elem : ∀ (fu : Nat) (cs : List Value) (a : α) (q : List MemPlace), a ∈ l → DataW.trod enc P w base sp held fu e cs = some (D a, q) → cs = C a)
    (h : DataW.trod enc P w base sp held fuel t cs = some (.agg (l.map D), p)) : cs = l.flatMap C := by
  obtain ⟨xs, m, _, ex, hlen, hl, hel⟩ := DataW.trod_array ht h
  have hx : l.map D = xs.map (·.1) := by
    have := congrArg Prod.fst ex
    simpa using this
  have hll : l.length = n := by
    have := congrArg List.length hx
    simp only [List.length_map] at this
    omega
  refine chunks (s := s) l cs (by rw [hlen, hct, hll]) fun i a ha => ?_
  have hi : i < n := by rw [← hll]; exact (List.getElem?_eq_some_iff.1 ha).1
  have h1 := hel i hi
  rw [hs] at h1
  obtain ⟨y, hy⟩ : ∃ y, xs[i]? = some y := ⟨xs[i]'(by omega), List.getElem?_eq_getElem _⟩
  have h2 := congrArg (fun z => z[i]?) hx
  simp only [List.getElem?_map, ha, hy, Option.map_some, Option.some.injEq] at h2
  rw [hy, show y = (D a, y.2) from by rw [h2]] at h1
  exact elem _ _ a _ (List.mem_of_getElem? ha) h1
theorem laid_head {W : World} {name : String} {d : DataW Unit} {rest : List (String × DataW Unit)} {g : Nat} {t : TypeId}
    (hg : Tryz.prog.globalNamed name = some g) (hty : (Tryz.prog.globals[g]?).map (·.type) = some t) (h : laidMet Tryz.prog ((name, d) :: rest) W) :
    ∃ (cs : Array Value) (t2 : TypeId) (fr : Nat × Nat) (enc : TypeId × Value → Unit) (base : Nat) (sp : Nat → Bool) (held : Bool) (fuel : Nat) (p : List MemPlace), W.heap[g]? = some (.cells cs t2 fr) ∧ DataW.trod enc Tryz.prog W base sp held fuel t cs.toList = some (d, p) := by
  obtain ⟨ps, ⟨g', t', cs, fuel, p, q, hg', ht', hvar, hd, _, _⟩, _⟩ := h
  obtain rfl := Option.some.inj (hg.symm.trans hg')
  obtain rfl := Option.some.inj (hty.symm.trans ht')
  unfold World.var? at hvar
  simp only [hg, Option.bind_some] at hvar
  split at hvar
  · rename_i cs' t2 fr hh
    obtain rfl := Option.some.inj hvar
    exact ⟨_, t2, fr, _, _, _, _, _, _, hh, hd⟩
  · cases hvar
/-- a sign as the row lists it -/
def signD {H : Type} (s : SignD) : DataW H := .agg [.lit (.string s.text), .lit (.int .i64 s.shape), .lit (.int .i64 s.level), .lit (.int .i64 s.kids), .lit (.bool s.named)]
section
variable {H : Type} {enc : TypeId × Value → H} {w : World} {base : Nat} {spare : Nat → Bool} {held : Bool}
set_option maxRecDepth 20000 in
theorem sign_elem (fu : Nat) (cs : List Value) (a : SignD) (q : List MemPlace) (h : DataW.trod enc Tryz.prog w base spare held fu 93 cs = some (signD a, q)) : cs = signC a := by
  have hlen : cs.length = 5 := by
    obtain ⟨_, _, _, _, h1, _⟩ := DataW.trod_struct Tryz.underlying93 h
    rw [h1]; exact cellsSign
  obtain ⟨ys, n, hx, hf⟩ := fields_of Tryz.underlying93 (by kernel_rfl) (by rw [hlen]; rfl) h
  have hy : ys.map (·.1) = [.lit (.string a.text), .lit (.int .i64 a.shape), .lit (.int .i64 a.level), .lit (.int .i64 a.kids), .lit (.bool a.named)] := by
    have := hx
    unfold signD at this
    injection this with this
    exact this.symm
  have hat : ∀ (j : Nat) (y : DataW H × List MemPlace), ys[j]? = some y → [DataW.lit (.string a.text), .lit (.int .i64 a.shape), .lit (.int .i64 a.level), .lit (.int .i64 a.kids), .lit (.bool a.named)][j]? = some y.1 := fun j y hj => by
    rw [← hy, List.getElem?_map, hj]; rfl
  match cs, hlen with
  | [k0, k1, k2, k3, k4], _ =>
    obtain ⟨v0, y0, c0, g0, t0⟩ := hf 0 _ rfl
    obtain ⟨v1, y1, c1, g1, t1⟩ := hf 1 _ rfl
    obtain ⟨v2, y2, c2, g2, t2⟩ := hf 2 _ rfl
    obtain ⟨v3, y3, c3, g3, t3⟩ := hf 3 _ rfl
    obtain ⟨v4, y4, c4, g4, t4⟩ := hf 4 _ rfl
    obtain ⟨i0, e0, x0, _⟩ := DataW.trod_string (by kernel_rfl) t0
    obtain ⟨i1, e1, x1, _⟩ := DataW.trod_int Tryz.underlying3 t1
    obtain ⟨i2, e2, x2, _⟩ := DataW.trod_int Tryz.underlying3 t2
    obtain ⟨i3, e3, x3, _⟩ := DataW.trod_int Tryz.underlying3 t3
    obtain ⟨i4, e4, x4⟩ := DataW.trod_bool (by kernel_rfl) t4
    have d0 := hat 0 _ g0
    have d1 := hat 1 _ g1
    have d2 := hat 2 _ g2
    have d3 := hat 3 _ g3
    have d4 := hat 4 _ g4
    rw [x0] at d0
    rw [x1] at d1
    rw [x2] at d2
    rw [x3] at d3
    rw [x4] at d4
    simp at c0 c1 c2 c3 c4 e0 e1 e2 e3 e4 d0 d1 d2 d3 d4
    subst c0
    subst c1
    subst c2
    subst c3
    subst c4
    subst e0
    subst e1
    subst e2
    subst e3
    subst e4
    unfold signC
    rw [d0, d1, d2, d3, d4]
    simp [ba_list']
end
section
variable {H : Type} {enc : TypeId × Value → H} {w : World} {base : Nat} {spare : Nat → Bool} {held : Bool} {RW : Nat}
instance inhEN : Inhabited (EN × Sl) := ⟨(⟨0, ByteArray.empty, 0, []⟩, ⟨none, 0, 0⟩)⟩
end
end Go.Proofs.YtckfcpiedainfaaGreatDoor
namespace Go.Proofs.YtckfcpiedainfaaGreatDoor
open Go
set_option linter.unusedVariables false
/-- a tree: its root, and its kids in a row -/
structure Tr where
  k : Int
  s : ByteArray
  i : Int
  a : Fo
def Tr.leaf (k : Int) (s : ByteArray) (i : Int) : Tr := ⟨k, s, i, .nil⟩
def row1 (t : Tr) : Fo := .cons t.k t.s t.i t.a .nil
def row2 (t u : Tr) : Fo := .cons t.k t.s t.i t.a (row1 u)
def row3 (t u v : Tr) : Fo := .cons t.k t.s t.i t.a (row2 u v)
/-- is the next token that mark or word? -/
def isM (l : List Tok) (s : List UInt8) : Bool := match l with
  | t :: _ => decide (4 ≤ t.kind) && (t.text.data.toList == s)
  | [] => false
/-- the Kind of the sign of that level; 0: none -/
def signV (n : Nat) (l : List Tok) : Int :=
  if n = 1 then (if isM l [111, 114] then 28 else 0)
  else if n = 2 then (if isM l [97, 110, 100] then 27 else 0)
  else if n = 4 then (if isM l [61, 61] then 23 else if isM l [33, 61] then 24 else if isM l [60] then 25 else if isM l [60, 61] then 26 else 0)
  else if n = 5 then (if isM l [43] then 20 else if isM l [45] then 21 else 0)
  else if n = 6 then (if isM l [42] then 22 else 0)
  else 0
/-- .. of what stands behind a prim -/
def stepV (l : List Tok) : Int := if isM l [46] then 8 else if isM l [35] then 9 else if isM l [45, 62] then 10 else if isM l [94] then 11 else if isM l [63] then 12 else if isM l [33, 33] then 13 else 0
/-- a word with brackets; a loop -/
def callV (l : List Tok) : Int := if isM l [115, 105, 122, 101] then 14 else if isM l [102, 105, 114, 115, 116] then 15 else if isM l [116, 101, 120, 116] then 16 else if isM l [99, 111, 110, 99, 101, 112, 116] then 17 else if isM l [105, 100] then 18 else if isM l [105, 110, 116] then 19 else 0
def loopV (l : List Tok) : Int := if isM l [97, 110, 121] then 31 else if isM l [101, 118, 101, 114, 121] then 32 else if isM l [111, 110, 108, 121] then 33 else if isM l [115, 117, 109] then 34 else 0
def atomV (l : List Tok) : Int := if isM l [116, 114, 117, 101] then 3 else if isM l [102, 97, 108, 115, 101] then 4 else if isM l [115, 101, 108, 102] then 5 else if isM l [110, 111, 110, 101] then 6 else 0
/-- what is read: a tree and the tokens behind it, or the tokens with which no expression goes on -/
abbrev Rd := Except (List Tok) (Tr × List Tok)
/-- where the reader is: at a level (1 or, 2 and, 3 not, 4 cmp, 5 sum, 6 prod, 7 post, 8 prim), behind a tree in a row of that level, behind a tree to which steps belong -/
inductive Md where
  | lv (n : Nat)
  | row (n : Nat) (t : Tr)
  | step (t : Tr)
def mustV (l : List Tok) (s : List UInt8) : Except (List Tok) (List Tok) := if isM l s then .ok (l.drop 1) else .error l
def nameV (l : List Tok) : Except (List Tok) (ByteArray × List Tok) := match l with
  | t :: r => if t.kind = 3 then .ok (t.text, r) else .error l
  | [] => .error l
def bindR {α β : Type} (x : Except (List Tok) α) (f : α → Except (List Tok) β) : Except (List Tok) β := match x with
  | .ok a => f a
  | .error e => .error e
/-- an expression, and the mark or the word behind it -/
def untilV (rd : Md → List Tok → Rd) (l : List Tok) (s : List UInt8) : Rd := bindR (rd (.lv 1) l) fun p => bindR (mustV p.2 s) fun r => .ok (p.1, r)
def primV (rd : Md → List Tok → Rd) (l : List Tok) : Rd := match l with
  | [] => .error []
  | t :: r =>
    if t.kind = 1 then .ok (.leaf 1 ByteArray.empty t.int, r)
    else if t.kind = 2 then .ok (.leaf 2 t.text 0, r)
    else if t.kind = 3 then .ok (.leaf 7 t.text 0, r)
    else if isM l [45] then (match r with
      | u :: r2 => if u.kind = 1 then .ok (.leaf 1 ByteArray.empty (-u.int), r2) else .error r
      | [] => .error r)
    else if isM l [40] then untilV rd r [41]
    else if atomV l ≠ 0 then .ok (.leaf (atomV l) ByteArray.empty 0, r)
    else if isM l [105, 102] then bindR (untilV rd r [116, 104, 101, 110]) fun a => bindR (untilV rd a.2 [101, 108, 115, 101]) fun b => bindR (untilV rd b.2 [101, 110, 100]) fun c => .ok (⟨30, ByteArray.empty, 0, row3 a.1 b.1 c.1⟩, c.2)
    else if callV l ≠ 0 then bindR (mustV r [40]) fun r2 => bindR (untilV rd r2 [41]) fun a => .ok (⟨callV l, ByteArray.empty, 0, row1 a.1⟩, a.2)
    else if loopV l ≠ 0 then bindR (nameV r) fun x => bindR (mustV x.2 [105, 110]) fun r2 => bindR (untilV rd r2 [58]) fun a => bindR (untilV rd a.2 [101, 110, 100]) fun b => .ok (⟨loopV l, x.1, 0, row2 a.1 b.1⟩, b.2)
    else .error l
/-- one level, in the levels below it -/
def lvV (rd : Md → List Tok → Rd) (n : Nat) (l : List Tok) : Rd :=
  if n = 3 then (if isM l [110, 111, 116] then bindR (rd (.lv 3) (l.drop 1)) fun a => .ok (⟨29, ByteArray.empty, 0, row1 a.1⟩, a.2) else rd (.lv 4) l)
  else if n = 4 then bindR (rd (.lv 5) l) fun a => if signV 4 a.2 = 0 then .ok a else bindR (rd (.lv 5) (a.2.drop 1)) fun b => .ok (⟨signV 4 a.2, ByteArray.empty, 0, row2 a.1 b.1⟩, b.2)
  else if n = 7 then bindR (rd (.lv 8) l) fun a => rd (.step a.1) a.2
  else if n = 8 then primV rd l
  else bindR (rd (.lv (n + 1)) l) fun a => rd (.row n a.1) a.2
def rowV (rd : Md → List Tok → Rd) (n : Nat) (t : Tr) (l : List Tok) : Rd :=
  if signV n l = 0 then .ok (t, l) else bindR (rd (.lv (n + 1)) (l.drop 1)) fun b => rd (.row n ⟨signV n l, ByteArray.empty, 0, row2 t b.1⟩) b.2
def stepsV (rd : Md → List Tok → Rd) (t : Tr) (l : List Tok) : Rd :=
  if stepV l = 0 then .ok (t, l) else if stepV l = 11 then rd (.step ⟨11, ByteArray.empty, 0, row1 t⟩) (l.drop 1) else bindR (nameV (l.drop 1)) fun x => rd (.step ⟨stepV l, x.1, 0, row1 t⟩) x.2
/-- the reader, with so much fuel -/
def rdV : Nat → Md → List Tok → Rd
  | 0, _, l => .error l
  | f + 1, .lv n, l => lvV (rdV f) n l
  | f + 1, .row n t, l => rowV (rdV f) n t l
  | f + 1, .step t, l => stepsV (rdV f) t l
/-- enough fuel -/
def need (m : Md) (l : List Tok) : Nat := 10 * l.length + (match m with
  | .lv n => 10 - n
  | _ => 1)
/-- levels as they are -/
def Md.okM : Md → Prop
  | .lv n => 1 ≤ n ∧ n ≤ 8
  | .row n _ => n = 1 ∨ n = 2 ∨ n = 5 ∨ n = 6
  | .step _ => True
/-- what a reader answers: fewer tokens are left (behind a tree: not more) -/
def Less (m : Md) (l : List Tok) (r : Rd) : Prop := match r with
  | .ok p => p.2.length ≤ l.length ∧ (∀ n, m = .lv n → p.2.length < l.length)
  | .error e => e.length ≤ l.length
/-- the text of a mark or a word is not empty -/
def TxtOk (l : List Tok) : Prop := ∀ t ∈ l, 4 ≤ t.kind → t.text.data.toList ≠ []
theorem isM_len {l : List Tok} {s : List UInt8} (h : isM l s = true) : ∃ t r, l = t :: r := by
  cases l with
  | nil => cases h
  | cons t r => exact ⟨t, r, rfl⟩
end Go.Proofs.YtckfcpiedainfaaGreatDoor
namespace Go.Proofs.YtckfcpiedainfaaGreatDoor
open Go
set_option linter.unusedVariables false
theorem bindR_ok {α β : Type} {x : Except (List Tok) α} {f : α → Except (List Tok) β} {b : β} (h : bindR x f = .ok b) : ∃ a, x = .ok a ∧ f a = .ok b := by
  cases x with
  | ok a => exact ⟨a, rfl, h⟩
  | error e => cases h
theorem isM_drop {l : List Tok} {s : List UInt8} (h : isM l s = true) : (l.drop 1).length < l.length := by
  obtain ⟨t, r, rfl⟩ := isM_len h
  exact Nat.lt_succ_self _
/-- no mark, no sign -/
theorem isM_nil (s : List UInt8) : isM [] s = false := rfl
theorem signV_drop {n : Nat} {l : List Tok} (h : signV n l ≠ 0) : (l.drop 1).length < l.length := by
  cases l with
  | nil => exact absurd (by simp [signV, isM_nil]) h
  | cons t r => exact Nat.lt_succ_self _
theorem stepV_drop {l : List Tok} (h : stepV l ≠ 0) : (l.drop 1).length < l.length := by
  cases l with
  | nil => exact absurd (by simp [stepV, isM_nil]) h
  | cons t r => exact Nat.lt_succ_self _
theorem mustV_ok {l r : List Tok} {s : List UInt8} (h : mustV l s = .ok r) : isM l s = true ∧ r = l.drop 1 := by
  unfold mustV at h; split at h
  · next hm => exact ⟨hm, by cases h; rfl⟩
  · cases h
theorem mustV_err {l r : List Tok} {s : List UInt8} (h : mustV l s = .error r) : isM l s = false ∧ r = l := by
  unfold mustV at h; split at h
  · cases h
  · next hm => exact ⟨by simpa using hm, by cases h; rfl⟩
theorem nameV_ok {l : List Tok} {p : ByteArray × List Tok} (h : nameV l = .ok p) : ∃ t r, l = t :: r ∧ t.kind = 3 ∧ p = (t.text, r) := by
  unfold nameV at h; split at h
  · next t r =>
    split at h
    · next hk => exact ⟨t, r, rfl, hk, by cases h; rfl⟩
    · cases h
  · cases h
theorem nameV_err {l e : List Tok} (h : nameV l = .error e) : e = l := by
  unfold nameV at h; split at h
  · split at h
    · cases h
    · cases h; rfl
  · cases h; rfl
/-- what a reader answers leaves fewer tokens -/
abbrev LessAll (rd : Md → List Tok → Rd) : Prop := ∀ m l, Less m l (rd m l)
abbrev Lt (l : List Tok) (r : Rd) : Prop := match r with
  | .ok p => p.2.length < l.length
  | .error e => e.length ≤ l.length
abbrev Le (l : List Tok) (r : Rd) : Prop := match r with
  | .ok p => p.2.length ≤ l.length
  | .error e => e.length ≤ l.length
theorem LessAll.lv {rd : Md → List Tok → Rd} (h : LessAll rd) (n : Nat) (l : List Tok) : Lt l (rd (.lv n) l) := by
  have := h (.lv n) l
  generalize rd (.lv n) l = r at this
  cases r with
  | ok p => exact this.2 n rfl
  | error e => exact this
theorem LessAll.le {rd : Md → List Tok → Rd} (h : LessAll rd) (m : Md) (l : List Tok) : Le l (rd m l) := by
  have := h m l
  generalize rd m l = r at this
  cases r with
  | ok p => exact this.1
  | error e => exact this
theorem Lt.mono {l l' : List Tok} {r : Rd} (h : Lt l r) (hl : l.length ≤ l'.length) : Lt l' r := by
  cases r with
  | ok p => exact Nat.lt_of_lt_of_le h hl
  | error e => exact Nat.le_trans h hl
theorem Le.mono {l l' : List Tok} {r : Rd} (h : Le l r) (hl : l.length ≤ l'.length) : Le l' r := by
  cases r with
  | ok p => exact Nat.le_trans h hl
  | error e => exact Nat.le_trans h hl
theorem Le.lt {l l' : List Tok} {r : Rd} (h : Le l r) (hl : l.length < l'.length) : Lt l' r := by
  cases r with
  | ok p => exact Nat.lt_of_le_of_lt h hl
  | error e => exact Nat.le_trans h (Nat.le_of_lt hl)
theorem bind_lt {α : Type} {l : List Tok} {x : Except (List Tok) α} {f : α → Rd} (h1 : ∀ e, x = .error e → e.length ≤ l.length) (h2 : ∀ a, x = .ok a → Lt l (f a)) : Lt l (bindR x f) := by
  cases x with
  | ok a => exact h2 a rfl
  | error e => exact h1 e rfl
theorem bind_le {α : Type} {l : List Tok} {x : Except (List Tok) α} {f : α → Rd} (h1 : ∀ e, x = .error e → e.length ≤ l.length) (h2 : ∀ a, x = .ok a → Le l (f a)) : Le l (bindR x f) := by
  cases x with
  | ok a => exact h2 a rfl
  | error e => exact h1 e rfl
theorem Lt.err {l e : List Tok} {r : Rd} (h : Lt l r) (he : r = .error e) : e.length ≤ l.length := by subst he; exact h
theorem Lt.ok {l : List Tok} {r : Rd} {p : Tr × List Tok} (h : Lt l r) (he : r = .ok p) : p.2.length < l.length := by subst he; exact h
theorem Le.err {l e : List Tok} {r : Rd} (h : Le l r) (he : r = .error e) : e.length ≤ l.length := by subst he; exact h
theorem Le.ok {l : List Tok} {r : Rd} {p : Tr × List Tok} (h : Le l r) (he : r = .ok p) : p.2.length ≤ l.length := by subst he; exact h
theorem must_lt {l l' : List Tok} {s : List UInt8} {f : List Tok → Rd} (hl : l'.length ≤ l.length) (h2 : (l'.drop 1).length < l'.length → Lt l (f (l'.drop 1))) : Lt l (bindR (mustV l' s) f) :=
  bind_lt (fun e he => by rw [(mustV_err he).2]; exact hl) fun a ha => by
    obtain ⟨hm, rfl⟩ := mustV_ok ha
    exact h2 (isM_drop hm)
theorem until_lt {rd : Md → List Tok → Rd} (h : LessAll rd) (l : List Tok) (s : List UInt8) : Lt l (untilV rd l s) :=
  bind_lt (fun e he => (h.lv 1 l).err he) fun a ha => must_lt (Nat.le_of_lt ((h.lv 1 l).ok ha)) fun hd =>
    (Nat.lt_trans hd ((h.lv 1 l).ok ha) : _)
theorem prim_lt {rd : Md → List Tok → Rd} (h : LessAll rd) (l : List Tok) : Lt l (primV rd l) := by
  unfold primV
  split
  · exact Nat.le_refl _
  · next t r =>
    have hr : r.length < (t :: r).length := Nat.lt_succ_self _
    have hrl := Nat.le_of_lt hr
    split
    · exact hr
    split
    · exact hr
    split
    · exact hr
    split
    · split
      · split
        · exact Nat.lt_succ_of_lt (Nat.lt_succ_self _)
        · exact hrl
      · exact hrl
    split
    · exact (until_lt h r _).mono hrl
    split
    · exact hr
    split
    · refine bind_lt (fun e he => Nat.le_trans ((until_lt h r _).err he) hrl) fun a ha => ?_
      have h1 := (until_lt h r _).ok ha
      refine bind_lt (fun e he => by have := (until_lt h a.2 _).err he; omega) fun b hb => ?_
      have h2 := (until_lt h a.2 _).ok hb
      refine bind_lt (fun e he => by have := (until_lt h b.2 _).err he; omega) fun c hc => ?_
      have h3 := (until_lt h b.2 _).ok hc
      show c.2.length < _
      omega
    split
    · refine must_lt hrl fun hd => ?_
      refine bind_lt (fun e he => by have := (until_lt h _ _).err he; omega) fun a ha => ?_
      have h1 := (until_lt h _ _).ok ha
      show a.2.length < _
      omega
    split
    · refine bind_lt (fun e he => by rw [nameV_err he]; exact hrl) fun x hx => ?_
      obtain ⟨u, q, rfl, _, rfl⟩ := nameV_ok hx
      have hq : q.length < (u :: q).length := Nat.lt_succ_self _
      refine must_lt (by show q.length ≤ _; omega) fun hd => ?_
      dsimp only at hd ⊢
      generalize hz : (t :: u :: q).length = z at *
      refine bind_lt (fun e he => by have := (until_lt h _ _).err he; omega) fun a ha => ?_
      have h1 := (until_lt h _ _).ok ha
      refine bind_lt (fun e he => by have := (until_lt h _ _).err he; omega) fun b hb => ?_
      have h2 := (until_lt h _ _).ok hb
      show b.2.length < _
      omega
    · exact Nat.le_refl _
theorem lv_lt {rd : Md → List Tok → Rd} (h : LessAll rd) (n : Nat) (l : List Tok) : Lt l (lvV rd n l) := by
  unfold lvV
  split
  · split
    · next hm =>
      have hd := isM_drop hm
      refine bind_lt (fun e he => by have := (h.lv 3 _).err he; omega) fun a ha => ?_
      have := (h.lv 3 _).ok ha
      show a.2.length < _; omega
    · exact h.lv 4 l
  split
  · refine bind_lt (fun e he => (h.lv 5 l).err he) fun a ha => ?_
    have h1 := (h.lv 5 l).ok ha
    split
    · exact h1
    · next hs =>
      have hd := signV_drop hs
      refine bind_lt (fun e he => by have := (h.lv 5 _).err he; omega) fun b hb => ?_
      have := (h.lv 5 _).ok hb
      show b.2.length < _; omega
  split
  · refine bind_lt (fun e he => (h.lv 8 l).err he) fun a ha => ?_
    exact (h.le (.step a.1) a.2).lt ((h.lv 8 l).ok ha)
  split
  · exact prim_lt h l
  · refine bind_lt (fun e he => (h.lv (n + 1) l).err he) fun a ha => ?_
    exact (h.le (.row n a.1) a.2).lt ((h.lv (n + 1) l).ok ha)
theorem row_le {rd : Md → List Tok → Rd} (h : LessAll rd) (n : Nat) (t : Tr) (l : List Tok) : Le l (rowV rd n t l) := by
  unfold rowV
  split
  · exact Nat.le_refl _
  · next hs =>
    have hd := signV_drop hs
    refine bind_le (fun e he => by have := (h.lv _ _).err he; omega) fun b hb => ?_
    have := (h.lv _ _).ok hb
    exact (h.le _ b.2).mono (by omega)
theorem steps_le {rd : Md → List Tok → Rd} (h : LessAll rd) (t : Tr) (l : List Tok) : Le l (stepsV rd t l) := by
  unfold stepsV
  split
  · exact Nat.le_refl _
  next hs =>
  have hd := stepV_drop hs
  split
  · exact (h.le _ _).mono (Nat.le_of_lt hd)
  · refine bind_le (fun e he => by rw [nameV_err he]; omega) fun x hx => ?_
    obtain ⟨u, q, e, _, rfl⟩ := nameV_ok hx
    refine (h.le _ q).mono ?_
    have : q.length < (l.drop 1).length := by rw [e]; exact Nat.lt_succ_self _
    omega
theorem rd_less : ∀ f, LessAll (rdV f)
  | 0, m, l => by show l.length ≤ l.length; omega
  | f + 1, .lv n, l => by
    have := lv_lt (rd_less f) n l
    show Less (.lv n) l (lvV (rdV f) n l)
    generalize lvV (rdV f) n l = r at this
    cases r with
    | ok p => exact ⟨Nat.le_of_lt this, fun _ _ => this⟩
    | error e => exact this
  | f + 1, .row n t, l => by
    have := row_le (rd_less f) n t l
    show Less (.row n t) l (rowV (rdV f) n t l)
    generalize rowV (rdV f) n t l = r at this
    cases r with
    | ok p => exact ⟨this, fun _ h => nomatch h⟩
    | error e => exact this
  | f + 1, .step t, l => by
    have := steps_le (rd_less f) t l
    show Less (.step t) l (stepsV (rdV f) t l)
    generalize stepsV (rdV f) t l = r at this
    cases r with
    | ok p => exact ⟨this, fun _ h => nomatch h⟩
    | error e => exact this
end Go.Proofs.YtckfcpiedainfaaGreatDoor

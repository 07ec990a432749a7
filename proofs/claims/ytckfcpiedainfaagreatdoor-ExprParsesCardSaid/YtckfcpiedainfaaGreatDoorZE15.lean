/-
  NODES OF EXPRESSIONS IN MEMORY; the tables of packages expr.
  WALKS over the statements' own functions: awake, alike, same.
  WALKS over package expr: isName, sound.
  A REGION THAT DRAWS ITS ORDER, AND ENDS IN OPERATIONS WHOSE ORDER IS FORCED: what comes ahead of them is walked under a condition on the world, what they do is walked behind it. No program stands in it.
  WALKS over package expr: depth, Right.
  WALKS over the document's answers for layer 8: Right.
  KINDS IN PLAIN MATHEMATICS: the way from a node up to the whole; what is bound on it.
  WALKS over the document's answers for layer 9: up, Bound.
  WALKS over the document's answers for layer 9: Kind.
  WALKS over the document's answers for layer 9: Ints, Each, Of.
-/
import Derived.Test.YtckfcpiedainfaaGreatDoorZE14
import Derived.KernelRfl
import Derived.BigQuiet
import Derived.WalkKit
import Derived.StillTail
import Derived.Deep.RegionHeld3
import Derived.Deep.CutBlock
import Derived.Deep.OwnRows
import Derived.Test.YtckfcpiedainfaaGreatDoorShelf
namespace Go.Proofs.YtckfcpiedainfaaGreatDoor
open Go Go.RowKit Go.Sort
set_option linter.unusedVariables false
def enC (x : EN × Sl) : List Value := [.int .i64 x.1.kind, .string x.1.text, .int .i64 x.1.int, .slice x.2.A x.2.n x.2.c]
structure EnIn (w : World) (lo hi : Nat) (x : EN × Sl) : Prop where
  kn : x.2.n = x.1.kids.length
  k : Row w lo hi 1 x.2.A x.2.n x.2.c (intCells x.1.kids)
theorem enK : Keep EnIn := ⟨fun h hb => ⟨h.kn, Row.below h.k hb⟩, fun h hl hh => ⟨h.kn, Row.mono h.k hl hh⟩⟩
/-- a node's text is no longer than any memory; its number fits -/
structure EnOk (n : EN) : Prop where
  t : n.text.size ≤ 140737488355328
  i0 : -9223372036854775808 ≤ n.int
  i1 : n.int ≤ 9223372036854775807
def nodesOf (l : List (EN × Sl)) : List EN := l.map (·.1)
theorem nodesOf_at {l : List (EN × Sl)} {i : Nat} {x : EN × Sl} (h : l[i]? = some x) : (nodesOf l)[i]? = some x.1 := by unfold nodesOf; rw [List.getElem?_map, h]; rfl
theorem nodesOf_len (l : List (EN × Sl)) : (nodesOf l).length = l.length := List.length_map _
theorem nodesOf_of {l : List (EN × Sl)} {i : Nat} {n : EN} (h : (nodesOf l)[i]? = some n) : ∃ x, l[i]? = some x ∧ x.1 = n := by
  unfold nodesOf at h
  rw [List.getElem?_map] at h
  obtain ⟨x, h1, h2⟩ := Option.map_eq_some_iff.1 h
  exact ⟨x, h1, h2⟩
/-- nodes in memory below hi -/
structure ExIn (w : World) (hi : Nat) (S : Sl) (l : List (EN × Sl)) : Prop where
  g : GRow enC EnIn 4 w 0 hi S l
  ok : ∀ x ∈ l, EnOk x.1
theorem ExIn.below {w w' : World} {hi : Nat} {S : Sl} {l : List (EN × Sl)} (h : ExIn w hi S l) (hb : Below hi w w') : ExIn w' hi S l := ⟨h.g.below enK hb, h.ok⟩
theorem ExIn.mono {w : World} {hi hi' : Nat} {S : Sl} {l : List (EN × Sl)} (h : ExIn w hi S l) (hh : hi ≤ hi') : ExIn w hi' S l := ⟨h.g.mono enK (Nat.le_refl _) hh, h.ok⟩
/-- the cells of a node -/
structure NodeC (w : World) (b o : Nat) (x : EN × Sl) : Prop where
  c0 : w.cell? ⟨b, o, none⟩ = some (.int .i64 x.1.kind)
  c1 : w.cell? ⟨b, o + 1, none⟩ = some (.string x.1.text)
  c2 : w.cell? ⟨b, o + 2, none⟩ = some (.int .i64 x.1.int)
  c3 : w.cell? ⟨b, o + 3, none⟩ = some (.slice x.2.A x.2.n x.2.c)
theorem NodeC.below {w w' : World} {b o hi : Nat} {x : EN × Sl} (h : NodeC w b o x) (hb : Below hi w w') (hlt : b < hi) : NodeC w' b o x :=
  ⟨(hb.cell (p := ⟨b, _, none⟩) hlt).trans h.c0, (hb.cell (p := ⟨b, _, none⟩) hlt).trans h.c1, (hb.cell (p := ⟨b, _, none⟩) hlt).trans h.c2, (hb.cell (p := ⟨b, _, none⟩) hlt).trans h.c3⟩
theorem ExIn.at_ {w : World} {hi : Nat} {S : Sl} {l : List (EN × Sl)} (h : ExIn w hi S l) {i : Nat} (hi' : i < S.n) : ∃ b o x, S.A = some ⟨b, o, none⟩ ∧ b < hi ∧ l[i]? = some x ∧ NodeC w b (o + i * 4) x ∧ EnIn w 0 hi x ∧ EnOk x.1 := by
  obtain ⟨b, o, hA, _, hb, V⟩ := h.g.at_ (fun _ => rfl) (by omega)
  have hl : i < l.length := by have := h.g.n; omega
  obtain ⟨h1, h2⟩ := V i l[i] (List.getElem?_eq_getElem hl)
  exact ⟨b, o, l[i], hA, hb, List.getElem?_eq_getElem hl, ⟨h2 0 _ (by omega) rfl, h2 1 _ (by omega) rfl, h2 2 _ (by omega) rfl, h2 3 _ (by omega) rfl⟩, h1, h.ok _ (List.getElem_mem hl)⟩
theorem ExIn.max {w : World} {hi : Nat} {S : Sl} {l : List (EN × Sl)} (h : ExIn w hi S l) : S.n ≤ maxLen := Nat.le_trans h.g.row.2.1 h.g.row.2.2.1
theorem EnIn.max {w : World} {lo hi : Nat} {x : EN × Sl} (h : EnIn w lo hi x) : x.2.n ≤ maxLen := Nat.le_trans h.k.2.1 h.k.2.2.1
/-- a kid's cell -/
theorem EnIn.at_ {w : World} {lo hi : Nat} {x : EN × Sl} (h : EnIn w lo hi x) {j : Nat} (hj : j < x.2.n) : ∃ b o k, x.2.A = some ⟨b, o, none⟩ ∧ b < hi ∧ x.1.kids[j]? = some k ∧ w.cell? ⟨b, o + j, none⟩ = some (.int .i64 k) := by
  obtain ⟨b, o, hA, _, hb, hc⟩ := h.k.at_ (by omega)
  have hl : j < x.1.kids.length := by have := h.kn; omega
  exact ⟨b, o, x.1.kids[j], hA, hb, List.getElem?_eq_getElem hl, hc j _ (intCells_get (List.getElem?_eq_getElem hl))⟩
structure SignD where
  text : List UInt8
  shape : Int
  level : Int
  kids : Int
  named : Bool
def signsL : List SignD := [⟨[], 0, 0, 0, false⟩, ⟨[], 0, 8, 0, false⟩, ⟨[], 0, 8, 0, false⟩, ⟨[116, 114, 117, 101], 1, 8, 0, false⟩, ⟨[102, 97, 108, 115, 101], 1, 8, 0, false⟩, ⟨[115, 101, 108, 102], 1, 8, 0, false⟩, ⟨[110, 111, 110, 101], 1, 8, 0, false⟩, ⟨[], 0, 8, 0, true⟩,
  ⟨[46], 5, 7, 1, true⟩, ⟨[35], 5, 7, 1, true⟩, ⟨[45, 62], 5, 7, 1, true⟩, ⟨[94], 5, 7, 1, false⟩, ⟨[63], 5, 7, 1, true⟩, ⟨[33, 33], 5, 7, 1, true⟩,
  ⟨[115, 105, 122, 101], 2, 8, 1, false⟩, ⟨[102, 105, 114, 115, 116], 2, 8, 1, false⟩, ⟨[116, 101, 120, 116], 2, 8, 1, false⟩, ⟨[99, 111, 110, 99, 101, 112, 116], 2, 8, 1, false⟩, ⟨[105, 100], 2, 8, 1, false⟩, ⟨[105, 110, 116], 2, 8, 1, false⟩, ⟨[43], 8, 5, 2, false⟩, ⟨[45], 8, 5, 2, false⟩, ⟨[42], 8, 6, 2, false⟩, ⟨[61, 61], 7, 4, 2, false⟩, ⟨[33, 61], 7, 4, 2, false⟩, ⟨[60], 7, 4, 2, false⟩, ⟨[60, 61], 7, 4, 2, false⟩, ⟨[97, 110, 100], 8, 2, 2, false⟩, ⟨[111, 114], 8, 1, 2, false⟩, ⟨[110, 111, 116], 6, 3, 1, false⟩, ⟨[105, 102], 3, 8, 3, false⟩, ⟨[97, 110, 121], 4, 8, 2, true⟩, ⟨[101, 118, 101, 114, 121], 4, 8, 2, true⟩, ⟨[111, 110, 108, 121], 4, 8, 2, true⟩, ⟨[115, 117, 109], 4, 8, 2, true⟩]
def signC (s : SignD) : List Value := [.string (ba s.text), .int .i64 s.shape, .int .i64 s.level, .int .i64 s.kids, .bool s.named]
def signsV : Array Value := (signsL.flatMap signC).toArray
/-- what package expr's variable holds, beside package lex's -/
structure ExprEnv (w : World) : Prop where
  lex : LexEnv w
  signs : ∃ t fr, w.heap[0]? = some (.cells signsV t fr)
theorem ExprEnv.below {w w' : World} (h : ExprEnv w) (hb : Below w.heap.size w w') : ExprEnv w' := by
  obtain ⟨h1, ⟨t, fr, h2⟩⟩ := h
  exact ⟨h1.below hb, t, fr, (hb.block _ (heap_lt h2)).trans h2⟩
theorem signs_len : signsL.length = 35 := by decide
theorem sign_cell {w : World} (h : ExprEnv w) {k : Nat} {s : SignD} (hk : signsL[k]? = some s) {j : Nat} {u : Value} (hj : j < 5) (hu : (signC s)[j]? = some u) : w.cell? ⟨0, k * 5 + j, none⟩ = some u := by
  obtain ⟨t, fr, hg⟩ := h.signs
  rw [cell_of_row w _ _ _ t fr hg]
  unfold signsV
  rw [List.getElem?_toArray, flatN_get (f := signC) (s := 5) (fun _ => rfl) signsL k s hk j hj]
  exact hu
theorem sign_kids : ∀ k : Nat, k < 35 → 0 < k → (signsL[k]?.map (·.kids)) = some (kidsV k) ∧ (signsL[k]?.map (·.named)) = some (namedB k) := by decide +kernel
theorem sign_at {k : Int} (h1 : 1 ≤ k) (h2 : k ≤ 34) : ∃ s, signsL[k.toNat]? = some s ∧ s.kids = kidsV k ∧ s.named = namedB k := by
  obtain ⟨n, rfl⟩ : ∃ n : Nat, k = n := ⟨k.toNat, by omega⟩
  have h := sign_kids n (by omega) (by omega)
  rw [Int.toNat_natCast]
  cases hs : signsL[n]? with
  | none => rw [hs] at h; simp at h
  | some s =>
    rw [hs] at h
    simp only [Option.map_some, Option.some.injEq] at h
    exact ⟨s, rfl, h.1, h.2⟩
end Go.Proofs.YtckfcpiedainfaaGreatDoor
namespace Go.Proofs.YtckfcpiedainfaaGreatDoor
open Go Go.RowKit
set_option linter.unusedVariables false
structure After (w w' : World) : Prop where
  below : Below w.heap.size w w'
theorem After.refl (w : World) : After w w := ⟨Below.refl _ _⟩
theorem After.next {w w1 w2 : World} (h : After w w1) (hb : Below w1.heap.size w1 w2) : After w w2 := ⟨h.below.trans (hb.mono h.below.size)⟩
end Go.Proofs.YtckfcpiedainfaaGreatDoor
namespace Go.Proofs.YtckfcpiedainfaaGreatDoor
open Go Go.RowKit Go.Sort
set_option linter.unusedVariables false
theorem sign_facts {w : World} (h : ExprEnv w) {k : Int} (h1 : 1 ≤ k) (h2 : k ≤ 34) : w.cell? ⟨0, k.toNat * 5 + 3, none⟩ = some (.int .i64 (kidsV k)) ∧ w.cell? ⟨0, k.toNat * 5 + 4, none⟩ = some (.bool (namedB k)) := by
  obtain ⟨s, hs, e1, e2⟩ := sign_at h1 h2
  exact ⟨sign_cell h hs (by decide) (by rw [← e1]; rfl), sign_cell h hs (by decide) (by rw [← e2]; rfl)⟩
end Go.Proofs.YtckfcpiedainfaaGreatDoor
namespace Go.Proofs.YtckfcpiedainfaaGreatDoor
open Go Go.RowKit
set_option linter.unusedVariables false
/-- Q, but K where the region goes on -/
def tailQ (Q : Exit → Act → World → Prop) (K : Act → World → Prop) : Exit → Act → World → Prop
  | .normal, a, w => K a w
  | e, a, w => Q e a w
section
variable {P : Program} {Q : Exit → Act → World → Prop} {K : Act → World → Prop} {md : Region.Mode} {S : World → Prop}
theorem lets_tail (h : LetsOut (tailQ Q K)) : LetsOut Q := h
theorem oper_tail {o : Oper} {a : Act} {w : World} {next : Act → World → Prop} (h : Oper.wp P o a w next (tailQ Q K)) : Oper.wp P o a w next Q := by
  unfold Oper.wp at *
  generalize (execOp a.eval o).run P w = r at *
  cases r with
  | ok n w' =>
    cases n <;> simp only [Oper.upon] at h ⊢ <;>
      first
        | exact h
        | exact Calls.mono h (fun e w'' he => by cases e <;> exact he)
  | halt x w' => cases x <;> simp only [Oper.upon] at h ⊢ <;> exact h
/-- each operation ahead of number n is asked for whatever comes, and waits for earlier ones alone -/
def aheadB (md : Region.Mode) (ops : Array Oper) (n : Nat) : Bool :=
  (List.range n).all fun j => match ops[j]? with
    | some o => o.guard.isNone && o.after.all fun e => !Region.binds md e || decide (e.on < j)
    | none => false
theorem aheadB_spec {ops : Array Oper} {n : Nat} (h : aheadB md ops n = true) {j : Nat} (hj : j < n) : ∃ o, ops[j]? = some o ∧ o.guard = none ∧ ∀ e ∈ o.after, Region.binds md e = true → e.on < j := by
  have h1 := List.all_eq_true.1 h j (List.mem_range.2 hj)
  cases ho : ops[j]? with
  | none => simp [ho] at h1
  | some o =>
    rw [ho] at h1
    simp only [Bool.and_eq_true, Option.isNone_iff_eq_none] at h1
    refine ⟨o, rfl, h1.1, fun e he hb => ?_⟩
    have := Array.all_eq_true_iff_forall_mem.1 h1.2 e he
    rw [hb] at this
    simpa using this
theorem wpAny_more {ops : Array Oper} {listed : Array Bool} : ∀ (f : Nat) (listed : Array Bool) (a : Act) (w : World), wpAny P md ops Q f listed a w → wpAny P md ops Q (f + 1) listed a w
  | 0, _, _, _, h => ⟨fun _ => h.2, fun i hi => by rw [h.1] at hi; cases hi⟩
  | f + 1, _, _, _, h => ⟨h.1, fun i hi => wpOp_mono (fun a' w' h' => wpAny_more (listed := listed) f _ a' w' h') (h.2 i hi)⟩
theorem wpAny_more' {ops : Array Oper} {listed : Array Bool} {a : Act} {w : World} {g : Nat} (h : wpAny P md ops Q g listed a w) : ∀ f, wpAny P md ops Q (f + g) listed a w
  | 0 => by rw [Nat.zero_add]; exact h
  | f + 1 => by rw [show f + 1 + g = (f + g) + 1 from by omega]; exact wpAny_more (listed := listed) _ _ _ _ (wpAny_more' h f)
variable {hops : Array Oper} {ops : Array Oper} {n g : Nat}
theorem getD_app {L R : Array Bool} {j : Nat} {d : Bool} (hj : j < L.size) : (L ++ R).getD j d = L.getD j d := by
  simp [Array.getD_eq_getD_getElem?, Array.getElem?_append_left hj]
theorem ready_head (hs : hops.size = n) (hh : ∀ j, j < n → hops[j]? = ops[j]?) (hB : aheadB md ops n = true) {L R : Array Bool} (hL : L.size = n) {j : Nat} (hj : j < n) :
    j ∈ Region.ready md ops (L ++ R) ↔ j ∈ Region.ready md hops L := by
  rw [mem_ready, mem_ready, hh j hj, getD_app (by omega)]
  obtain ⟨o, ho, _, hd⟩ := aheadB_spec hB hj
  refine and_congr_right fun _ => ?_
  refine exists_congr fun o' => and_congr_right fun ho' => forall_congr' fun e => forall_congr' fun he => forall_congr' fun hb => ?_
  have : o' = o := Option.some.inj (ho'.symm.trans ho)
  subst this
  rw [getD_app (by have := hd e he hb; omega)]
theorem some_ready (hs : hops.size = n) (hh : ∀ j, j < n → hops[j]? = ops[j]?) (hB : aheadB md ops n = true) {L : Array Bool} (hL : L.size = n) : ∀ (j : Nat), j < n → L.getD j true = false → ∃ i, i < n ∧ i ∈ Region.ready md hops L := by
  intro j
  induction j using Nat.strongRecOn with
  | _ j ih =>
    intro hj hun
    obtain ⟨o, ho, _, hd⟩ := aheadB_spec hB hj
    by_cases h : ∃ e ∈ o.after, Region.binds md e = true ∧ L.getD e.on false = false
    · obtain ⟨e, he, hb, hl⟩ := h
      have hlt := hd e he hb
      exact ih e.on hlt (by omega) (getD_in (by omega) hl)
    · refine ⟨j, hj, mem_ready.2 ⟨hun, o, by rw [hh j hj]; exact ho, fun e he hb => ?_⟩⟩
      cases hl : L.getD e.on false with
      | true => rfl
      | false => exact absurd ⟨e, he, hb, hl⟩ h
theorem op_head (hh : ∀ j, j < n → hops[j]? = ops[j]?) (hB : aheadB md ops n = true) {i : Nat} (hi : i < n) {K1 K2 : Act → World → Prop} {a : Act} {w : World} (hK : ∀ a w, K1 a w → K2 a w)
    (h : wpOp P hops (tailQ Q K) i K1 a w) : wpOp P ops Q i K2 a w := by
  obtain ⟨o, ho, hg, _⟩ := aheadB_spec hB hi
  unfold wpOp at *
  rw [hh i hi] at h
  simp only [ho] at h ⊢
  have hw : ∀ y, Region.wanted o y = true := fun y => by simp [Region.wanted, hg]
  rw [hw, if_pos rfl] at h ⊢
  exact h.imp (fun h => oper_tail (Oper.wp_mono hK h)) (fun h => ⟨h.1, lets_tail h.2⟩)
theorem head_tail {l : List Oper} (hs : hops.size = n) (hh : ∀ j, j < n → hops[j]? = ops[j]?) (hB : aheadB md ops n = true) (hsk : Region.sinkB md ops n = true) (hch : Region.chainB md ops n = true) (hn : n < ops.size)
    (hl : ∀ j, l[j]? = ops[n + j]?) (hseq : Region.seqB md ops l.length n (Array.replicate n true ++ Array.replicate l.length false) = true) (hsize : ops.size = n + l.length) :
    ∀ (fuel : Nat) (L : Array Bool) (a : Act) (w : World), L.size = n → HeadInv md ops n (L ++ Array.replicate l.length false) →
      wpAnyH P md hops (tailQ Q (wpList P ops Q l)) S fuel L a w → wpAny P md ops Q (fuel + l.length) (L ++ Array.replicate l.length false) a w := by
  intro fuel
  induction fuel with
  | zero =>
    intro L a w hL inv h
    have hall : ∀ j, j < n → L.getD j true = true := fun j hj => by
      cases hx : L.getD j true with
      | true => rfl
      | false =>
        obtain ⟨i, _, hi⟩ := some_ready hs hh hB hL j hj hx
        rw [h.1] at hi; cases hi
    have hLe : L = Array.replicate n true := by
      refine Array.ext (by simp [hL]) fun j h1 h2 => ?_
      have := hall j (by omega)
      rw [Array.getElem_replicate]
      simpa [h1] using this
    rw [Nat.zero_add, hLe]
    exact wpAny_of_seq l n _ a w hl hseq h.2
  | succ fuel ih =>
    intro L a w hL inv h
    by_cases hun : ∃ j, j < n ∧ L.getD j true = false
    · obtain ⟨j, hj, hx⟩ := hun
      obtain ⟨i, hin, hi⟩ := some_ready hs hh hB hL j hj hx
      have hif := (ready_head (R := Array.replicate l.length false) hs hh hB hL hin).2 hi
      rw [show fuel + 1 + l.length = (fuel + l.length) + 1 from by omega]
      refine ⟨fun h0 => (by rw [h0] at hif; cases hif), fun k hk => ?_⟩
      have hkn : k < n := by
        rcases Nat.lt_or_ge k n with h | h
        · exact h
        · exact absurd hk (tail_waits hsk hch hn inv _ j rfl hj (by rw [getD_app (by omega)]; exact hx) k h)
      have hkh := (ready_head hs hh hB hL hkn).1 hk
      refine op_head hh hB hkn (fun a' w' h' => ?_) (h.2 k hkh)
      have e : (L ++ Array.replicate l.length false).setIfInBounds k true = L.setIfInBounds k true ++ Array.replicate l.length false := by
        rw [Array.setIfInBounds_append_left (by omega)]
      rw [e]
      exact ih _ a' w' (by simpa using hL) (by rw [← e]; exact inv.set hk hkn) h'.2
    · have hall : ∀ j, j < n → L.getD j true = true := fun j hj => by
        cases hx : L.getD j true with
        | true => rfl
        | false => exact absurd ⟨j, hj, hx⟩ hun
      have hLe : L = Array.replicate n true := by
        refine Array.ext (by simp [hL]) fun j h1 h2 => ?_
        have := hall j (by omega)
        rw [Array.getElem_replicate]
        simpa [h1] using this
      have hr0 : Region.ready md hops L = [] := by
        rcases hx : Region.ready md hops L with _ | ⟨i, rs⟩
        · rfl
        · have hi : i ∈ Region.ready md hops L := by rw [hx]; exact List.mem_cons_self
          obtain ⟨h1, o, ho, _⟩ := mem_ready.1 hi
          have hin : i < n := by rw [← hs]; exact (Array.getElem?_eq_some_iff.1 ho).1
          rw [hall i hin] at h1; cases h1
      refine wpAny_more' ?_ (fuel + 1)
      rw [hLe]
      exact wpAny_of_seq l n _ a w hl hseq (h.1 hr0)
/-- what the kernel looks at -/
def tailB (ops : Array Oper) (n : Nat) : Bool :=
  aheadB .any ops n && Region.sinkB .any ops n && Region.chainB .any ops n && decide (n < ops.size) && Region.seqB .any ops (ops.size - n) n (Array.replicate n true ++ Array.replicate (ops.size - n) false)
/-- **the beginning**: n operations in whatever order, under S; then the others as they stand -/
theorem wp_region_held_tail {id : Nat} {a : Act} {w : World} {l : List Oper} (n : Nat) (S : World → Prop) (hm : P.follows .mixedOrders = true) (hB : tailB l.toArray n = true) (hS : S w.drew)
    (h : S w.drew → wpAnyH P .any (l.take n).toArray (tailQ Q (wpList P l.toArray Q (l.drop n))) S n (Array.replicate n false) a w.drew) : (Code.region id l.toArray true).wp P Q a w := by
  simp only [tailB, Bool.and_eq_true, decide_eq_true_eq] at hB
  obtain ⟨⟨⟨⟨h1, h2⟩, h3⟩, h4⟩, h5⟩ := hB
  have hn : n < l.length := by simpa using h4
  have hdl : l.toArray.size - n = (l.drop n).length := by simp
  have hsz : l.toArray.size = n + (l.drop n).length := by simp; omega
  refine wp_region_any hm ?_
  have := head_tail (P := P) (Q := Q) (S := S) (hops := (l.take n).toArray) (ops := l.toArray) (n := n) (md := .any) (l := l.drop n) (by simp; omega) (fun j hj => by simp [hj]) h1 h2 h3 h4 (fun j => by simp [List.getElem?_drop]) (by rw [← hdl]; exact h5) hsz
    n (Array.replicate n false) a w.drew (by simp) ?_ (h hS)
  · rw [← hsz] at this
    have e : Array.replicate n false ++ Array.replicate (l.drop n).length false = Array.replicate l.toArray.size false := by
      rw [Array.replicate_append_replicate, ← hsz]
    rw [e] at this
    exact this
  · refine ⟨by simp; omega, fun j oj _ hl => ?_, fun t ht ht' => ?_⟩
    · rw [Array.replicate_append_replicate, getD_replicate_false] at hl; cases hl
    · rw [Array.replicate_append_replicate]
      exact getD_in (by rw [← hsz]; simpa using ht') (getD_replicate_false _ _)
end
end Go.Proofs.YtckfcpiedainfaaGreatDoor
namespace Go.Proofs.YtckfcpiedainfaaGreatDoor
open Go Go.RowKit Go.Sort
set_option linter.unusedVariables false
theorem run_store_funcH {P : Program} {w : World} {a : Addr} (f : Fn) (r : _) (caps : Array Value) (m : _) : (store a (.func f r caps) m).run P w = stored P w a (.func f r caps) m := run_store P w a _ m rfl
attribute [local go_sem] run_store_funcH
end Go.Proofs.YtckfcpiedainfaaGreatDoor
namespace Go.Proofs.YtckfcpiedainfaaGreatDoor
open Go Go.RowKit Go.Sort
set_option linter.unusedVariables false
theorem intInfo : (Tryz.prog.info? 3).map (fun i => (i.zero, i.size, i.bytes)) = some (some (.int .i64 0), 1, 8) := by kernel_rfl
/-- the boxes of Right: the expression, the sizes, the depths -/
structure RBx (w : World) (A : Option Addr) (n c : Nat) (sz dp : List Int) (W : World) : Prop where
  bel : Below w.heap.size w W
  x : Blk W w.heap.size 24 #[.slice A n c]
  s : IBlk W (w.heap.size + 1) sz
  d : IBlk W (w.heap.size + 1 + 1) dp
section
variable {w : World} {A : Option Addr} {n c : Nat} {sz dp : List Int} {W W' : World}
theorem RBx.after (h : RBx w A n c sz dp W) (hb : Below W.heap.size W W') : RBx w A n c sz dp W' := ⟨h.bel.trans (hb.mono h.bel.size), h.x.after hb, h.s.after hb, h.d.after hb⟩
end
/-- the node that is looked at, in its box -/
def nodeCs (x : EN × Sl) : Array Value := #[.int .i64 x.1.kind, .string x.1.text, .int .i64 x.1.int, .slice x.2.A x.2.n x.2.c]
theorem Kidded.le {l : List EN} {i k next deep : Nat} {ks : List Int} (h : Kidded l i ks k next deep) (hi : i < l.length) : i + 1 ≤ next ∧ next ≤ l.length := by
  obtain ⟨a, h1, rfl, rfl⟩ := h.out
  exact ⟨by omega, (takeV_at h1).1.le _ _ (by omega)⟩
end Go.Proofs.YtckfcpiedainfaaGreatDoor
namespace Go.Proofs.YtckfcpiedainfaaGreatDoor
open Go
set_option linter.unusedVariables false
/-- the way from a node up to the whole, with what is bound at the node -/
inductive EnvAt (l : List EN) : Nat → Bnd → Prop where
  | root : EnvAt l 0 []
  | kid {i q k : Nat} {n : EN} {e : Bnd} : EnvAt l i e → l[i]? = some n → n.kids[k]? = some (q : Int) → i < q → EnvAt l q (inner n.kind n.text e k)
/-- each node but the whole is the kid of just one -/
structure OneUp (l : List EN) : Prop where
  one : ∀ {i k i' k' : Nat} {n n' : EN} {q : Int}, l[i]? = some n → n.kids[k]? = some q → l[i']? = some n' → n'.kids[k']? = some q → i = i' ∧ k = k'
  pos : ∀ {i k : Nat} {n : EN} {q : Int}, l[i]? = some n → n.kids[k]? = some q → (i : Int) < q ∧ q < l.length
/-- whose kid a node is, and which one -/
def UpIs (l : List EN) (q : Int) (i k : Int) : Prop := (i = -1 ∧ ∀ n ∈ l, q ∉ n.kids) ∨ ∃ (i' k' : Nat) (n : EN), i = i' ∧ k = k' ∧ l[i']? = some n ∧ n.kids[k']? = some q
theorem EnvAt.up {l : List EN} (ho : OneUp l) {q : Nat} {e : Bnd} (h : EnvAt l q e) {i k : Int} (hu : UpIs l q i k) : (i = -1 ∧ q = 0 ∧ e = []) ∨ ∃ (i' k' : Nat) (n : EN) (e' : Bnd), i = i' ∧ k = k' ∧ i' < q ∧ l[i']? = some n ∧ EnvAt l i' e' ∧ e = inner n.kind n.text e' k' := by
  rcases hu with ⟨h1, h2⟩ | ⟨i', k', n, h1, h2, h3, h4⟩
  · cases h with
    | root => exact .inl ⟨h1, rfl, rfl⟩
    | kid a b c d => exact absurd (List.mem_of_getElem? c) (h2 _ (List.mem_of_getElem? b))
  · cases h with
    | root => have := (ho.pos h3 h4).1; omega
    | kid a b c d =>
      obtain ⟨rfl, rfl⟩ := ho.one b c h3 h4
      rw [b] at h3
      obtain rfl := Option.some.inj h3
      exact .inr ⟨_, _, _, _, h1, h2, d, b, a, rfl⟩
end Go.Proofs.YtckfcpiedainfaaGreatDoor
namespace Go.Proofs.YtckfcpiedainfaaGreatDoor
open Go Go.RowKit Go.Sort
set_option linter.unusedVariables false
/-- is a variable bound at a node? -/
def TellsB (w : World) (b : Bool) (e : Ending) (w' : World) : Prop := e = .returned (.bool b) ∧ Below w.heap.size w w'
theorem tellsB {w w' : World} {b b' : Bool} (h : b = b') (hb : Below w.heap.size w w') : TellsB w b' (.returned (.bool b)) w' := ⟨by rw [h], hb⟩
end Go.Proofs.YtckfcpiedainfaaGreatDoor
namespace Go.Proofs.YtckfcpiedainfaaGreatDoor
open Go Go.RowKit Go.Sort
set_option linter.unusedVariables false
theorem OwnI.after {w w' : World} {B : Nat} {v : Value} {l : List Int} (h : OwnI w B v l) (hb : Below w.heap.size w w') : OwnI w' B v l := own_after h hb
theorem OwnI.alloc {w : World} {B : Nat} {v : Value} {l : List Int} (h : OwnI w B v l) (o : Obj) : OwnI (w.alloc o) B v l := World.ownsRow.alloc h o
/-- the boxes of a walk over a node: the expression, the node -/
structure NB (w : World) (A : Option Addr) (n c : Nat) (x : EN × Sl) (W : World) : Prop where
  bel : Below w.heap.size w W
  e : Blk W w.heap.size 24 #[.slice A n c]
  n : Blk W (w.heap.size + 1) 52 (nodeCs x)
theorem NB.after {w : World} {A : Option Addr} {n c : Nat} {x : EN × Sl} {W W' : World} (h : NB w A n c x W) (hb : Below W.heap.size W W') : NB w A n c x W' := ⟨h.bel.trans (hb.mono h.bel.size), h.e.after hb, h.n.after hb⟩
theorem NB.low {w : World} {A : Option Addr} {n c : Nat} {x : EN × Sl} {W W' : World} (h : NB w A n c x W) (hb : Below (w.heap.size + 2) W W') : NB w A n c x W' := ⟨h.bel.trans (hb.mono (by omega)), h.e.below hb (by omega), h.n.below hb (by omega)⟩
theorem NB.two {w : World} {A : Option Addr} {n c : Nat} {x : EN × Sl} {W : World} (h : NB w A n c x W) : w.heap.size + 2 ≤ W.heap.size := h.n.lt
end Go.Proofs.YtckfcpiedainfaaGreatDoor
namespace Go.Proofs.YtckfcpiedainfaaGreatDoor
open Go Go.RowKit Go.Sort
set_option linter.unusedVariables false
theorem Tree.pos {l : List EN} {f : Fo} (h : Tree l f) : 0 < l.length := by
  have h1 := h.one
  have h2 := h.size
  cases f with
  | nil => simp [Fo.offs] at h1
  | cons k s i a r => simp only [Fo.size] at h2; omega
end Go.Proofs.YtckfcpiedainfaaGreatDoor

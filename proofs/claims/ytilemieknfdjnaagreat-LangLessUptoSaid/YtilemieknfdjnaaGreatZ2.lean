/-
  A REGION THAT DRAWS ITS ORDER, AND ENDS IN OPERATIONS WHOSE ORDER IS FORCED: what comes ahead of them is walked under a condition on the world, what they do is walked behind it. No program stands in it.
  WALKS: a model lent, with marks in the room behind its lists.
  WALKS: is a lent model as it was, with its marks?
  WALKS: great, check, New; and laws for a call and an alloc as steps of a region that draws its order.
  MODELS OF THE CALL's OWN: nodes and their lists in memory that the call made; a cell of a node turned; copy of a whole row.
  WALKS: the program's own: lists, nodes, models in memory of their own.
  WALKS: the document's: nodes and models in memory of their own.
  WALKS: the document: a concept in memory of its own.
  WALKS: boxes that are laid (plain).
  WALKS: the document: sides in memory of their own.
  WALKS: own lists of parts that grow (plain).
-/
import Derived.Test.YtilemieknfdjnaaGreatZ1
import Derived.WalkKit
import Derived.StillTail
import Derived.Deep.RegionHeld3
import Derived.Deep.RegionLaw
import Derived.Deep.DeepCutAuto
import Derived.Deep.DrawnRows
import Derived.Deep.DeepMust
import Derived.Laws.OwnMore
import Derived.Laws.CopyRow
import Derived.Laws.IdiomCopy
import Derived.Laws.CopyOwn
import Derived.OwnWalk
namespace Go.Proofs.YtilemieknfdjnaaGreat
open Go Go.RowKit
set_option linter.unusedVariables false
/-- Q, but K where the region goes on -/
def tailQ (Q : Exit → Act → World → Prop) (K : Act → World → Prop) : Exit → Act → World → Prop
  | .normal, a, w => K a w
  | e, a, w => Q e a w
section
variable {P : Program} {Q : Exit → Act → World → Prop} {K : Act → World → Prop} {md : Region.Mode} {S : World → Prop}
theorem lets_tail (h : LetsOut (tailQ Q K)) : LetsOut Q := h
theorem oper_tail {o : Oper} {a : Act} {w : World} {next : Act → World → Prop} (h : Oper.wp P o a w next (tailQ Q K)) : Oper.wp P o a w next Q := by
  unfold Oper.wp at *
  generalize (execOp a.eval o).run P w = r at *
  cases r with
  | ok n w' =>
    cases n <;> simp only [Oper.upon] at h ⊢ <;>
      first
        | exact h
        | exact Calls.mono h (fun e w'' he => by cases e <;> exact he)
  | halt x w' => cases x <;> simp only [Oper.upon] at h ⊢ <;> exact h
/-- each operation ahead of number n is asked for whatever comes, and waits for earlier ones alone -/
def aheadB (md : Region.Mode) (ops : Array Oper) (n : Nat) : Bool :=
  (List.range n).all fun j => match ops[j]? with
    | some o => o.guard.isNone && o.after.all fun e => !Region.binds md e || decide (e.on < j)
    | none => false
theorem aheadB_spec {ops : Array Oper} {n : Nat} (h : aheadB md ops n = true) {j : Nat} (hj : j < n) : ∃ o, ops[j]? = some o ∧ o.guard = none ∧ ∀ e ∈ o.after, Region.binds md e = true → e.on < j := by
  have h1 := List.all_eq_true.1 h j (List.mem_range.2 hj)
  cases ho : ops[j]? with
  | none => simp [ho] at h1
  | some o =>
    rw [ho] at h1
    simp only [Bool.and_eq_true, Option.isNone_iff_eq_none] at h1
    refine ⟨o, rfl, h1.1, fun e he hb => ?_⟩
    have := Array.all_eq_true_iff_forall_mem.1 h1.2 e he
    rw [hb] at this
    simpa using this
theorem wpAny_more {ops : Array Oper} {listed : Array Bool} : ∀ (f : Nat) (listed : Array Bool) (a : Act) (w : World), wpAny P md ops Q f listed a w → wpAny P md ops Q (f + 1) listed a w
  | 0, _, _, _, h => ⟨fun _ => h.2, fun i hi => by rw [h.1] at hi; cases hi⟩
  | f + 1, _, _, _, h => ⟨h.1, fun i hi => wpOp_mono (fun a' w' h' => wpAny_more (listed := listed) f _ a' w' h') (h.2 i hi)⟩
theorem wpAny_more' {ops : Array Oper} {listed : Array Bool} {a : Act} {w : World} {g : Nat} (h : wpAny P md ops Q g listed a w) : ∀ f, wpAny P md ops Q (f + g) listed a w
  | 0 => by rw [Nat.zero_add]; exact h
  | f + 1 => by rw [show f + 1 + g = (f + g) + 1 from by omega]; exact wpAny_more (listed := listed) _ _ _ _ (wpAny_more' h f)
variable {hops : Array Oper} {ops : Array Oper} {n g : Nat}
theorem getD_app {L R : Array Bool} {j : Nat} {d : Bool} (hj : j < L.size) : (L ++ R).getD j d = L.getD j d := by
  simp [Array.getD_eq_getD_getElem?, Array.getElem?_append_left hj]
theorem ready_head (hs : hops.size = n) (hh : ∀ j, j < n → hops[j]? = ops[j]?) (hB : aheadB md ops n = true) {L R : Array Bool} (hL : L.size = n) {j : Nat} (hj : j < n) :
    j ∈ Region.ready md ops (L ++ R) ↔ j ∈ Region.ready md hops L := by
  rw [mem_ready, mem_ready, hh j hj, getD_app (by omega)]
  obtain ⟨o, ho, _, hd⟩ := aheadB_spec hB hj
  refine and_congr_right fun _ => ?_
  refine exists_congr fun o' => and_congr_right fun ho' => forall_congr' fun e => forall_congr' fun he => forall_congr' fun hb => ?_
  have : o' = o := Option.some.inj (ho'.symm.trans ho)
  subst this
  rw [getD_app (by have := hd e he hb; omega)]
theorem some_ready (hs : hops.size = n) (hh : ∀ j, j < n → hops[j]? = ops[j]?) (hB : aheadB md ops n = true) {L : Array Bool} (hL : L.size = n) : ∀ (j : Nat), j < n → L.getD j true = false → ∃ i, i < n ∧ i ∈ Region.ready md hops L := by
  intro j
  induction j using Nat.strongRecOn with
  | _ j ih =>
    intro hj hun
    obtain ⟨o, ho, _, hd⟩ := aheadB_spec hB hj
    by_cases h : ∃ e ∈ o.after, Region.binds md e = true ∧ L.getD e.on false = false
    · obtain ⟨e, he, hb, hl⟩ := h
      have hlt := hd e he hb
      exact ih e.on hlt (by omega) (getD_in (by omega) hl)
    · refine ⟨j, hj, mem_ready.2 ⟨hun, o, by rw [hh j hj]; exact ho, fun e he hb => ?_⟩⟩
      cases hl : L.getD e.on false with
      | true => rfl
      | false => exact absurd ⟨e, he, hb, hl⟩ h
theorem op_head (hh : ∀ j, j < n → hops[j]? = ops[j]?) (hB : aheadB md ops n = true) {i : Nat} (hi : i < n) {K1 K2 : Act → World → Prop} {a : Act} {w : World} (hK : ∀ a w, K1 a w → K2 a w)
    (h : wpOp P hops (tailQ Q K) i K1 a w) : wpOp P ops Q i K2 a w := by
  obtain ⟨o, ho, hg, _⟩ := aheadB_spec hB hi
  unfold wpOp at *
  rw [hh i hi] at h
  simp only [ho] at h ⊢
  have hw : ∀ y, Region.wanted o y = true := fun y => by simp [Region.wanted, hg]
  rw [hw, if_pos rfl] at h ⊢
  exact h.imp (fun h => oper_tail (Oper.wp_mono hK h)) (fun h => ⟨h.1, lets_tail h.2⟩)
theorem head_tail {l : List Oper} (hs : hops.size = n) (hh : ∀ j, j < n → hops[j]? = ops[j]?) (hB : aheadB md ops n = true) (hsk : Region.sinkB md ops n = true) (hch : Region.chainB md ops n = true) (hn : n < ops.size)
    (hl : ∀ j, l[j]? = ops[n + j]?) (hseq : Region.seqB md ops l.length n (Array.replicate n true ++ Array.replicate l.length false) = true) (hsize : ops.size = n + l.length) :
    ∀ (fuel : Nat) (L : Array Bool) (a : Act) (w : World), L.size = n → HeadInv md ops n (L ++ Array.replicate l.length false) →
      wpAnyH P md hops (tailQ Q (wpList P ops Q l)) S fuel L a w → wpAny P md ops Q (fuel + l.length) (L ++ Array.replicate l.length false) a w := by
  intro fuel
  induction fuel with
  | zero =>
    intro L a w hL inv h
    have hall : ∀ j, j < n → L.getD j true = true := fun j hj => by
      cases hx : L.getD j true with
      | true => rfl
      | false =>
        obtain ⟨i, _, hi⟩ := some_ready hs hh hB hL j hj hx
        rw [h.1] at hi; cases hi
    have hLe : L = Array.replicate n true := by
      refine Array.ext (by simp [hL]) fun j h1 h2 => ?_
      have := hall j (by omega)
      rw [Array.getElem_replicate]
      simpa [h1] using this
    rw [Nat.zero_add, hLe]
    exact wpAny_of_seq l n _ a w hl hseq h.2
  | succ fuel ih =>
    intro L a w hL inv h
    by_cases hun : ∃ j, j < n ∧ L.getD j true = false
    · obtain ⟨j, hj, hx⟩ := hun
      obtain ⟨i, hin, hi⟩ := some_ready hs hh hB hL j hj hx
      have hif := (ready_head (R := Array.replicate l.length false) hs hh hB hL hin).2 hi
      rw [show fuel + 1 + l.length = (fuel + l.length) + 1 from by omega]
      refine ⟨fun h0 => (by rw [h0] at hif; cases hif), fun k hk => ?_⟩
      have hkn : k < n := by
        rcases Nat.lt_or_ge k n with h | h
        · exact h
        · exact absurd hk (tail_waits hsk hch hn inv _ j rfl hj (by rw [getD_app (by omega)]; exact hx) k h)
      have hkh := (ready_head hs hh hB hL hkn).1 hk
      refine op_head hh hB hkn (fun a' w' h' => ?_) (h.2 k hkh)
      have e : (L ++ Array.replicate l.length false).setIfInBounds k true = L.setIfInBounds k true ++ Array.replicate l.length false := by
        rw [Array.setIfInBounds_append_left (by omega)]
      rw [e]
      exact ih _ a' w' (by simpa using hL) (by rw [← e]; exact inv.set hk hkn) h'.2
    · have hall : ∀ j, j < n → L.getD j true = true := fun j hj => by
        cases hx : L.getD j true with
        | true => rfl
        | false => exact absurd ⟨j, hj, hx⟩ hun
      have hLe : L = Array.replicate n true := by
        refine Array.ext (by simp [hL]) fun j h1 h2 => ?_
        have := hall j (by omega)
        rw [Array.getElem_replicate]
        simpa [h1] using this
      have hr0 : Region.ready md hops L = [] := by
        rcases hx : Region.ready md hops L with _ | ⟨i, rs⟩
        · rfl
        · have hi : i ∈ Region.ready md hops L := by rw [hx]; exact List.mem_cons_self
          obtain ⟨h1, o, ho, _⟩ := mem_ready.1 hi
          have hin : i < n := by rw [← hs]; exact (Array.getElem?_eq_some_iff.1 ho).1
          rw [hall i hin] at h1; cases h1
      refine wpAny_more' ?_ (fuel + 1)
      rw [hLe]
      exact wpAny_of_seq l n _ a w hl hseq (h.1 hr0)
/-- what the kernel looks at -/
def tailB (ops : Array Oper) (n : Nat) : Bool :=
  aheadB .any ops n && Region.sinkB .any ops n && Region.chainB .any ops n && decide (n < ops.size) && Region.seqB .any ops (ops.size - n) n (Array.replicate n true ++ Array.replicate (ops.size - n) false)
/-- **the beginning**: n operations in whatever order, under S; then the others as they stand -/
theorem wp_region_held_tail {id : Nat} {a : Act} {w : World} {l : List Oper} (n : Nat) (S : World → Prop) (hm : P.follows .mixedOrders = true) (hB : tailB l.toArray n = true) (hS : S w.drew)
    (h : S w.drew → wpAnyH P .any (l.take n).toArray (tailQ Q (wpList P l.toArray Q (l.drop n))) S n (Array.replicate n false) a w.drew) : (Code.region id l.toArray true).wp P Q a w := by
  simp only [tailB, Bool.and_eq_true, decide_eq_true_eq] at hB
  obtain ⟨⟨⟨⟨h1, h2⟩, h3⟩, h4⟩, h5⟩ := hB
  have hn : n < l.length := by simpa using h4
  have hdl : l.toArray.size - n = (l.drop n).length := by simp
  have hsz : l.toArray.size = n + (l.drop n).length := by simp; omega
  refine wp_region_any hm ?_
  have := head_tail (P := P) (Q := Q) (S := S) (hops := (l.take n).toArray) (ops := l.toArray) (n := n) (md := .any) (l := l.drop n) (by simp; omega) (fun j hj => by simp [hj]) h1 h2 h3 h4 (fun j => by simp [List.getElem?_drop]) (by rw [← hdl]; exact h5) hsz
    n (Array.replicate n false) a w.drew (by simp) ?_ (h hS)
  · rw [← hsz] at this
    have e : Array.replicate n false ++ Array.replicate (l.drop n).length false = Array.replicate l.toArray.size false := by
      rw [Array.replicate_append_replicate, ← hsz]
    rw [e] at this
    exact this
  · refine ⟨by simp; omega, fun j oj _ hl => ?_, fun t ht ht' => ?_⟩
    · rw [Array.replicate_append_replicate, getD_replicate_false] at hl; cases hl
    · rw [Array.replicate_append_replicate]
      exact getD_in (by rw [← hsz]; simpa using ht') (getD_replicate_false _ _)
end
end Go.Proofs.YtilemieknfdjnaaGreat
namespace Go.Proofs.YtilemieknfdjnaaGreat
open Go Go.RowKit Go.Sort
set_option linter.unusedVariables false
attribute [local go_sem ↓] Go.wp_at_zero Go.wp_at_succ
/-- the slice s of n elements holds xs, and behind its end, in its room, the mark -/
def MarkIn (w : World) (B : Nat) (e : TypeId) (size : Nat) (s : Sl) (n : Nat) (xs mark : List Value) : Prop :=
  s.n = n ∧ s.A ≠ none ∧ w.ownsRow B e size (.slice s.A (n + 1) s.c) (n + 1) (xs ++ mark)
theorem MarkIn.after {w w' : World} {B : Nat} {e : TypeId} {size n : Nat} {s : Sl} {xs mark : List Value} (h : MarkIn w B e size s n xs mark) (hb : Below w.heap.size w w') : MarkIn w' B e size s n xs mark := ⟨h.1, h.2.1, own_after h.2.2 hb⟩
theorem MarkIn.other {w : World} {B : Nat} {e : TypeId} {size n : Nat} {s : Sl} {xs mark : List Value} (h : MarkIn w B e size s n xs mark) {g : Nat} {t : TypeId} {cs : Array Value} (hg : Blk w g t cs) (hne : e ≠ t) (i : Nat) (u : Value) : MarkIn (w.setCell ⟨g, i, none⟩ u) B e size s n xs mark := ⟨h.1, h.2.1, own_other h.2.2 hg hne i u⟩
theorem MarkIn.kept {w w' : World} {B : Nat} {e : TypeId} {size n : Nat} {s : Sl} {xs mark : List Value} (h : MarkIn w B e size s n xs mark) {row : Option Nat} (hg : w.grownBy w' row) (hne : Value.ownBlock (.slice s.A (n + 1) s.c) ≠ row) : MarkIn w' B e size s n xs mark := ⟨h.1, h.2.1, World.ownsRow.kept h.2.2 hg (.inr hne)⟩
theorem MarkIn.len {w : World} {B : Nat} {e : TypeId} {size n n' : Nat} {s : Sl} {xs mark : List Value} (h : MarkIn w B e size s n xs mark) (hn : n = n') : MarkIn w B e size s n' xs mark := hn ▸ h
theorem MarkIn.mono {w : World} {B B' : Nat} {e : TypeId} {size n : Nat} {s : Sl} {xs mark : List Value} (h : MarkIn w B e size s n xs mark) (hB : B' ≤ B) : MarkIn w B' e size s n xs mark := ⟨h.1, h.2.1, own_mono h.2.2 hB⟩
theorem MarkIn.ne {w : World} {B : Nat} {e : TypeId} {size n : Nat} {s : Sl} {xs mark : List Value} (h : MarkIn w B e size s n xs mark) {B' : Nat} {e' : TypeId} {size' n' : Nat} {v' : Value} {xs' : List Value} (h' : w.ownsRow B' e' size' v' n' xs') (hne : e ≠ e') : Value.ownBlock (.slice s.A (n + 1) s.c) ≠ v'.ownBlock := by
  rcases own_own_ne h.2.2 h' hne with h0 | h0
  · rcases h.2.2.2 with ⟨_, h1⟩ | ⟨g, cap, cur, hv, _⟩
    · omega
    · rw [hv] at h0; simp [Value.ownBlock] at h0
  · exact h0
theorem Blk.drew {w : World} {g : Nat} {t : TypeId} {cs : Array Value} (h : Blk w g t cs) : Blk w.drew g t cs := h
theorem below_drew {B : Nat} {a w : World} (h : Below B a w) : Below B a w.drew := ⟨h.os, h.tape, h.output, h.size, h.block⟩
theorem below_more {W w' : World} (h : Below W.heap.size W w') (o : Obj) : Below W.heap.size W (w'.alloc o) := h.alloc h.size o
theorem below_grows {W w' w'' : World} (h : Below W.heap.size W w') {v : Value} (hg : w'.grownBy w'' v.ownBlock) {e : TypeId} {size n B : Nat} {xs : List Value} (hown : w'.ownsRow B e size v n xs) (hB : W.heap.size ≤ B) : Below W.heap.size W w'' :=
  h.grown hg h.size (fun k hk => Nat.le_trans hB (World.ownsRow.lt hown k hk).1)
section
variable {w : World} {next : Int} {A : Option Addr} {n c : Nat} {ov : Value} {l : List (Nd × Leaf)} {X X' : World}
end
end Go.Proofs.YtilemieknfdjnaaGreat
namespace Go.Proofs.YtilemieknfdjnaaGreat
open Go Go.RowKit Go.Sort
set_option linter.unusedVariables false
attribute [local go_sem ↓] Go.wp_at_zero Go.wp_at_succ
theorem MarkIn.row {w : World} {B : Nat} {e : TypeId} {size n : Nat} {s : Sl} {xs mark : List Value} (h : MarkIn w B e size s n xs mark) (hx : xs.length = n * size) : Row w B w.heap.size size s.A s.n s.c xs := by
  have h1 := own_row (own_take h.2.2 (Nat.le_succ n) h.2.1)
  rw [show (xs ++ mark).take (n * size) = xs from by rw [← hx]; simp] at h1
  rw [h.1]
  exact h1
/-- the mark behind the end: the room is there, and what lies in it -/
theorem MarkIn.mark {w : World} {B : Nat} {e : TypeId} {size n : Nat} {s : Sl} {xs : List Value} {m0 : Value} {ms : List Value} (h : MarkIn w B e size s n xs (m0 :: ms)) (hx : xs.length = n * size) :
    ∃ b o, s.A = some ⟨b, o, none⟩ ∧ b < w.heap.size ∧ s.n + 1 ≤ s.c ∧ s.c ≤ maxLen ∧ w.cell? ⟨b, o + s.n * size, none⟩ = some m0 := by
  have h1 := own_row h.2.2
  obtain ⟨b, o, hA, _, hb, hc⟩ := h1.2.2.2 (Nat.succ_pos _)
  refine ⟨b, o, hA, hb, ?_, h1.2.2.1, hc _ _ ?_⟩
  · rw [h.1]; exact h1.2.1
  · rw [h.1, ← hx]; simp
end Go.Proofs.YtilemieknfdjnaaGreat
namespace Go.Proofs.YtilemieknfdjnaaGreat
open Go Go.RowKit Go.Sort
set_option linter.unusedVariables false
attribute [local go_sem ↓] Go.wp_at_zero Go.wp_at_succ
theorem step_call {P : Program} (w : World) {ops : Array Oper} {o : Oper} {a : Act} {K : Act → World → Prop} {Q : Exit → Act → World → Prop} {E : Prop} (hgd : o.guard = none) (f : FuncId) (vs : Array Value)
    (hrun : (execOp a.eval o).run P w = .ok (.enter f vs) w) {R : Ending → World → Prop} (h : Calls P f vs w R)
    (hK : ∀ e w', R e w' → ∃ u, e = .returned u ∧ K (a.put o.dst u) w') : if Region.wanted o (yielded ops a.tmps) = true then Oper.wp P o a w K Q else E := by
  have hw : Region.wanted o (yielded ops a.tmps) = true := by simp [Region.wanted, hgd]
  rw [if_pos hw]
  unfold Oper.wp
  rw [hrun]
  refine h.mono ?_
  intro e w' hR
  obtain ⟨u, rfl, hk⟩ := hK e w' hR
  exact hk
end Go.Proofs.YtilemieknfdjnaaGreat
namespace Go.Proofs.YtilemieknfdjnaaGreat
open Go Go.RowKit Go.Sort
set_option linter.unusedVariables false
section
variable {w w' : World} {B : Nat} {nd : Nd} {L : Leaf}
theorem own_kept {e e' : TypeId} {size size' n n' B' : Nat} {v v' : Value} {xs xs' : List Value} (h : w.ownsRow B e size v n xs) (h' : w.ownsRow B' e' size' v' n' xs') (hne : e ≠ e') (hg : w.grownBy w' v'.ownBlock) : w'.ownsRow B e size v n xs :=
  World.ownsRow.kept h hg (own_own_ne h h' hne)
end
section
variable {w w' : World} {B : Nat} {v : Value} {l : List (Nd × Leaf)}
/-- the world, where a cell of the call's own memory has turned -/
theorem below_set {W X : World} {g i : Nat} {u : Value} (h : Below W.heap.size W X) (hg : W.heap.size ≤ g) : Below W.heap.size W (X.setCell ⟨g, i, none⟩ u) := h.setCell (p := ⟨g, i, none⟩) hg u
end
section
variable {P : Program} (w : World)
end
end Go.Proofs.YtilemieknfdjnaaGreat
namespace Go.Proofs.YtilemieknfdjnaaGreat
open Go Go.RowKit Go.Sort
set_option linter.unusedVariables false
attribute [local go_sem ↓] Go.wp_at_zero Go.wp_at_succ
/-- make of a row of elements, whatever their size: the cells are those of zero values, so many -/
theorem make_rows {P : Program} (t e : TypeId) (i : TypeInfo) (z : Value) (size bytes : Nat) (ht : P.underlying t = some (.slice e)) (hi : P.info? e = some i) (hz : i.zero = some z) (hs : i.size = size) (hb : i.bytes = bytes) (hzs : z.cells.size = size)
    (n : Nat) (hn : n * bytes ≤ 140737488355328) (hm : n ≤ 9223372036854775807) : ∃ cur : Array Value, cur.size = n * size ∧ ∀ w : World, (Instr.makeSlice t (.int .i64 (n : Int)) (.int .i64 (n : Int))).run P w = .ok (.slice (some ⟨w.heap.size, 0, none⟩) n n) (w.alloc (.cells cur e)) := by
  refine ⟨madeCells z.cells (n * i.size), ?_, fun w => ?_⟩
  · rw [hs]; simp [madeCells]
  · have h1 : (i.bytes : Int) * (n : Int) ≤ 281474976710656 := by
      have h2 : ((n * bytes : Nat) : Int) ≤ 281474976710656 := by omega
      rw [Int.natCast_mul] at h2
      rw [hb, Int.mul_comm]
      exact h2
    have hr := run_make (P := P) w t e i z ht hi hz .i64 .i64 n n (by omega) (by omega) h1 (by omega)
    simp only [Int.toNat_natCast] at hr
    exact hr
end Go.Proofs.YtilemieknfdjnaaGreat
namespace Go.Proofs.YtilemieknfdjnaaGreat
open Go Go.RowKit Go.Sort
set_option linter.unusedVariables false
attribute [local go_sem ↓] Go.wp_at_zero Go.wp_at_succ
theorem own_form {w : World} {B size n : Nat} {e : TypeId} {v : Value} {xs : List Value} (h : w.ownsRow B e size v n xs) : ∃ A c, v = .slice A n c := by
  rcases h.2 with ⟨rfl, rfl⟩ | ⟨g, cap, _, rfl, _⟩
  · exact ⟨none, 0, rfl⟩
  · exact ⟨_, _, rfl⟩
theorem own_emptyB {w : World} {B size g : Nat} {e : TypeId} (hg : Blk w g e #[]) (hB : B ≤ g) : w.ownsRow B e size (.slice (some ⟨g, 0, none⟩) 0 0) 0 [] := own_empty hg hB
section
variable {w X X' : World} {cs : Array Value}
end
end Go.Proofs.YtilemieknfdjnaaGreat
namespace Go.Proofs.YtilemieknfdjnaaGreat
open Go Go.RowKit Go.Sort
set_option linter.unusedVariables false
attribute [local go_sem ↓] Go.wp_at_zero Go.wp_at_succ
theorem info_pd : (Tryz.prog.info? 85).map (fun i => (i.zero, i.size, i.bytes)) = some (some (.agg #[.string ByteArray.empty, .int .i64 0]), 2, 24) := by kernel_rfl
theorem info_kd : (Tryz.prog.info? 62).map (fun i => (i.zero, i.size, i.bytes)) = some (some (.agg #[.string ByteArray.empty, .string ByteArray.empty, .int .i64 0, .int .i64 0]), 4, 48) := by kernel_rfl
theorem info_rd : (Tryz.prog.info? 87).map (fun i => (i.zero, i.size, i.bytes)) = some (some (.agg #[.string ByteArray.empty, .string ByteArray.empty, .bool false]), 3, 40) := by kernel_rfl
theorem info_ru : (Tryz.prog.info? 49).map (fun i => (i.zero, i.size, i.bytes)) = some (some (.agg #[.string ByteArray.empty, .string ByteArray.empty, .bool false, .string ByteArray.empty]), 4, 56) := by kernel_rfl
theorem info_ce : (Tryz.prog.info? 74).map (fun i => (i.zero, i.size, i.bytes)) = some (some (.agg #[.int .i64 0, .string ByteArray.empty, .string ByteArray.empty]), 3, 40) := by kernel_rfl
theorem info_pi : (Tryz.prog.info? 77).map (fun i => (i.zero, i.size, i.bytes)) = some (some (.agg #[.int .i64 0, .string ByteArray.empty, .string ByteArray.empty]), 3, 40) := by kernel_rfl
theorem info_side : (Tryz.prog.info? 141).map (fun i => (i.zero, i.size, i.bytes)) = some (some (.agg #[.int .i64 0, .string ByteArray.empty, .int .i64 0, .slice none 0 0]), 4, 56) := by kernel_rfl
theorem info_con : (Tryz.prog.info? 47).map (fun i => (i.zero, i.size, i.bytes)) = some (some (.agg #[.string ByteArray.empty, .string ByteArray.empty, .bool false, .slice none 0 0, .slice none 0 0, .slice none 0 0]), 6, 112) := by kernel_rfl
theorem info_eq : (Tryz.prog.info? 52).map (fun i => (i.zero, i.size, i.bytes)) = some (some (.agg #[.string ByteArray.empty, .slice none 0 0, .slice none 0 0]), 3, 64) := by kernel_rfl
theorem info_ed : (Tryz.prog.info? 55).map (fun i => (i.zero, i.size, i.bytes)) = some (some (.agg #[.string ByteArray.empty, .slice none 0 0]), 2, 40) := by kernel_rfl
theorem info_te : (Tryz.prog.info? 58).map (fun i => (i.zero, i.size, i.bytes)) = some (some (.agg #[.string ByteArray.empty, .slice none 0 0]), 2, 40) := by kernel_rfl
theorem info_str : (Tryz.prog.info? 9).map (fun i => (i.zero, i.size, i.bytes)) = some (some (.string ByteArray.empty), 1, 16) := by kernel_rfl
theorem info_int : (Tryz.prog.info? 3).map (fun i => (i.zero, i.size, i.bytes)) = some (some (.int .i64 0), 1, 8) := by kernel_rfl
theorem B2.kept {w X X' : World} {t : TypeId} {cs ds : Array Value} (h : B2 w t cs ds X) {e : TypeId} {size n : Nat} {v : Value} {xs : List Value} (hown : X.ownsRow w.heap.size e size v n xs) (hne : e ≠ t) (hg : X.grownBy X' v.ownBlock) : B2 w t cs ds X' :=
  ⟨h.a.grown hg (Ne.symm (own_blk_ne hown h.a hne)), h.b.grown hg (Ne.symm (own_blk_ne hown h.b hne)), below_grows h.bel hg hown (Nat.le_refl _)⟩
theorem B2.set {w X : World} {t : TypeId} {cs ds : Array Value} (h : B2 w t cs ds X) (i : Nat) (u : Value) : B2 w t (cs.setIfInBounds i u) ds (X.setCell ⟨w.heap.size, i, none⟩ u) :=
  ⟨h.a.set_ i u, h.b.far (p := ⟨w.heap.size, i, none⟩) (by simp) u, h.bel.setCell (p := ⟨w.heap.size, i, none⟩) (Nat.le_refl _) u⟩
/-- the lists of a concept, in own memory -/
structure ConOwn (w : World) (B : Nat) (x : ConD × Leaf) : Prop where
  pn : x.2.p.n = x.1.props.length
  kn : x.2.k.n = x.1.kids.length
  rn : x.2.r.n = x.1.refs.length
  p : w.ownsRow B 85 2 (.slice x.2.p.A x.2.p.n x.2.p.c) x.2.p.n (pdCells x.1.props)
  k : w.ownsRow B 62 4 (.slice x.2.k.A x.2.k.n x.2.k.c) x.2.k.n (kdCells x.1.kids)
  r : w.ownsRow B 87 3 (.slice x.2.r.A x.2.r.n x.2.r.c) x.2.r.n (rdCells x.1.refs)
/-- a concept in memory of its own -/
def TwinConPost (w : World) (x : ConD) (e : Ending) (w' : World) : Prop := ∃ M : Leaf, e = .returned (.agg #[.string x.name, .string x.super, .bool x.abs, .slice M.p.A M.p.n M.p.c, .slice M.k.A M.k.n M.k.c, .slice M.r.A M.r.n M.r.c]) ∧ ConOwn w' w.heap.size (x, M) ∧ Below w.heap.size w w'
set_option maxRecDepth 100000 in
set_option maxHeartbeats 3200000 in
theorem twinConcept_any (w : World) (hi : Nat) (x : ConD × Leaf) (h : ConIn w 0 hi x) (hh : hi ≤ w.heap.size) (g1 : x.1.props.length ≤ 20000) (g2 : x.1.kids.length ≤ 20000) (g3 : x.1.refs.length ≤ 20000) :
    Calls Tryz.prog 27 #[.agg #[.string x.1.name, .string x.1.super, .bool x.1.abs, .slice x.2.p.A x.2.p.n x.2.p.c, .slice x.2.k.A x.2.k.n x.2.k.c, .slice x.2.r.A x.2.r.n x.2.r.c]] w (TwinConPost w x.1) := by
  obtain ⟨x, ⟨⟨Ap, np, cp⟩, ⟨Ak, nk, ck⟩, ⟨Ar, nr, cr⟩⟩⟩ := x
  obtain ⟨f1, f2, f3, f4, f5, f6⟩ := h
  simp only at f1 f2 f3 f4 f5 f6 g1 g2 g3 ⊢
  have HQ0 : Hid (B2 w 47 #[.string x.name, .string x.super, .bool x.abs, .slice Ap np cp, .slice Ak nk ck, .slice Ar nr cr] #[.string ⟨#[]⟩, .string ⟨#[]⟩, .bool false, .slice none 0 0, .slice none 0 0, .slice none 0 0] ((w.alloc (.cells #[.string x.name, .string x.super, .bool x.abs, .slice Ap np cp, .slice Ak nk ck, .slice Ar nr cr] 47)).alloc (.cells #[.string ⟨#[]⟩, .string ⟨#[]⟩, .bool false, .slice none 0 0, .slice none 0 0, .slice none 0 0] 47))) := Lib.hid (B2.start _ _ _ _)
  have F4 := Lib.hid f4
  have F5 := Lib.hid f5
  have F6 := Lib.hid f6
  have HF1 := Lib.hid f1
  have HF2 := Lib.hid f2
  have HF3 := Lib.hid f3
  have b1 : np ≤ 20000 := by omega
  have b2 : nk ≤ 20000 := by omega
  have b3 : nr ≤ 20000 := by omega
  obtain ⟨i1, hi1, hz1, hs1, hb1⟩ := info_parts info_pd
  obtain ⟨i2, hi2, hz2, hs2, hb2⟩ := info_parts info_kd
  obtain ⟨i3, hi3, hz3, hs3, hb3⟩ := info_parts info_rd
  clear f1 f2 f3 f4 f5 f6 g1 g2 g3
  go_enter Tryz.func27, Tryz.ntmps27
  go_wp2_with (first | (at_builtin; with_reducible show wpList _ _ _ (⟨some 6, _, _, _, _, _⟩ :: _) _ _; go_must (refine wpList_app (o := ⟨some 6, _, _, _, _, _⟩) _ rfl (.tmp 3) (.tmp 5) _ rfl w.heap.size 85 i1 _ 2 24 Tryz.underlying43 hi1 hz1 hs1 hb1 rfl (by omega) _ 0 [] rfl (own_emptyB (size := 2) (e := 85) (B := w.heap.size) (Blk.new' (by simp)) (Nat.le_trans HQ0.out.bel.size (Nat.le_of_eq (by simp)))) 0 hi Ap np cp (pdCells x.props) rfl (Row.below F4.out ((HQ0.out.bel.trans ((below_more (Below.refl _ _) _).mono HQ0.out.bel.size)).mono hh)) (pdCells_one _) (by unfold maxLen; omega) (by omega) (Nat.le_trans HQ0.out.bel.size (by simp)) ?_); go_must (intro v1 w1 hown1 hgr1 _; rw [Nat.zero_add, List.nil_append] at hown1; obtain ⟨A1, c1, rfl⟩ := own_form hown1; have hR1 := (HQ0.out.after (below_more (Below.refl _ _) _)).kept (own_emptyB (size := 2) (e := 85) (B := w.heap.size) (Blk.new' (by simp)) (Nat.le_trans HQ0.out.bel.size (Nat.le_of_eq (by simp)))) (by decide) hgr1; have HO1_1 := Lib.hid (own_other hown1 hR1.a (by decide) 3 (.slice A1 np c1)); have x1 := hR1.a.cell 3; have y1 := hR1.a.frozen 3; simp at x1; have hq1 := hR1.set 3 (.slice A1 np c1); have p1 : ((w1.setCell ⟨w.heap.size, 3, none⟩ (.slice A1 np c1)).alloc (.cells #[] 62)).cell? ⟨w.heap.size, 4, none⟩ = some (.slice Ak nk ck) := ((hq1.after (below_more (Below.refl _ _) _)).a.cell 4).trans rfl; have HQ1 := Lib.hid hq1; clear hq1 hR1 hown1 hgr1)) | (at_builtin; with_reducible show wpList _ _ _ (⟨some 11, _, _, _, _, _⟩ :: _) _ _; go_must (refine wpList_app (o := ⟨some 11, _, _, _, _, _⟩) _ rfl (.tmp 8) (.tmp 10) _ rfl w.heap.size 62 i2 _ 4 48 Tryz.underlying44 hi2 hz2 hs2 hb2 rfl (by omega) _ 0 [] rfl (own_emptyB (size := 4) (e := 62) (B := w.heap.size) (Blk.new' (by simp)) (Nat.le_trans HQ1.out.bel.size (Nat.le_of_eq (by simp)))) 0 hi Ak nk ck (kdCells x.kids) rfl (Row.below F5.out ((HQ1.out.bel.trans ((below_more (Below.refl _ _) _).mono HQ1.out.bel.size)).mono hh)) (kdCells_one _) (by unfold maxLen; omega) (by omega) (Nat.le_trans HQ1.out.bel.size (by simp)) ?_); go_must (intro v2 w2 hown2 hgr2 _; rw [Nat.zero_add, List.nil_append] at hown2; obtain ⟨A2, c2, rfl⟩ := own_form hown2; have hR2 := (HQ1.out.after (below_more (Below.refl _ _) _)).kept (own_emptyB (size := 4) (e := 62) (B := w.heap.size) (Blk.new' (by simp)) (Nat.le_trans HQ1.out.bel.size (Nat.le_of_eq (by simp)))) (by decide) hgr2; have HO1_2 := Lib.hid (own_other (own_kept (own_after HO1_1.out (below_more (Below.refl _ _) _)) (own_emptyB (size := 4) (e := 62) (B := w.heap.size) (Blk.new' (by simp)) (Nat.le_trans HQ1.out.bel.size (Nat.le_of_eq (by simp)))) (by decide) hgr2) hR2.a (by decide) 4 (.slice A2 nk c2)); have HO2_2 := Lib.hid (own_other hown2 hR2.a (by decide) 4 (.slice A2 nk c2)); have x2 := hR2.a.cell 4; have y2 := hR2.a.frozen 4; simp at x2; have hq2 := hR2.set 4 (.slice A2 nk c2); have p2 : ((w2.setCell ⟨w.heap.size, 4, none⟩ (.slice A2 nk c2)).alloc (.cells #[] 87)).cell? ⟨w.heap.size, 5, none⟩ = some (.slice Ar nr cr) := ((hq2.after (below_more (Below.refl _ _) _)).a.cell 5).trans rfl; have HQ2 := Lib.hid hq2; clear hq2 hR2 hown2 hgr2)) | (at_builtin; with_reducible show wpList _ _ _ (⟨some 16, _, _, _, _, _⟩ :: _) _ _; go_must (refine wpList_app (o := ⟨some 16, _, _, _, _, _⟩) _ rfl (.tmp 13) (.tmp 15) _ rfl w.heap.size 87 i3 _ 3 40 Tryz.underlying45 hi3 hz3 hs3 hb3 rfl (by omega) _ 0 [] rfl (own_emptyB (size := 3) (e := 87) (B := w.heap.size) (Blk.new' (by simp)) (Nat.le_trans HQ2.out.bel.size (Nat.le_of_eq (by simp)))) 0 hi Ar nr cr (rdCells x.refs) rfl (Row.below F6.out ((HQ2.out.bel.trans ((below_more (Below.refl _ _) _).mono HQ2.out.bel.size)).mono hh)) (rdCells_one _) (by unfold maxLen; omega) (by omega) (Nat.le_trans HQ2.out.bel.size (by simp)) ?_); go_must (intro v3 w3 hown3 hgr3 _; rw [Nat.zero_add, List.nil_append] at hown3; obtain ⟨A3, c3, rfl⟩ := own_form hown3; have hR3 := (HQ2.out.after (below_more (Below.refl _ _) _)).kept (own_emptyB (size := 3) (e := 87) (B := w.heap.size) (Blk.new' (by simp)) (Nat.le_trans HQ2.out.bel.size (Nat.le_of_eq (by simp)))) (by decide) hgr3; have HO1_3 := Lib.hid (own_other (own_kept (own_after HO1_2.out (below_more (Below.refl _ _) _)) (own_emptyB (size := 3) (e := 87) (B := w.heap.size) (Blk.new' (by simp)) (Nat.le_trans HQ2.out.bel.size (Nat.le_of_eq (by simp)))) (by decide) hgr3) hR3.a (by decide) 5 (.slice A3 nr c3)); have HO2_3 := Lib.hid (own_other (own_kept (own_after HO2_2.out (below_more (Below.refl _ _) _)) (own_emptyB (size := 3) (e := 87) (B := w.heap.size) (Blk.new' (by simp)) (Nat.le_trans HQ2.out.bel.size (Nat.le_of_eq (by simp)))) (by decide) hgr3) hR3.a (by decide) 5 (.slice A3 nr c3)); have HO3_3 := Lib.hid (own_other hown3 hR3.a (by decide) 5 (.slice A3 nr c3)); have x3 := hR3.a.cell 5; have y3 := hR3.a.frozen 5; simp at x3; have hq3 := hR3.set 5 (.slice A3 nr c3); have k0 := hq3.a.cell 0; have k1 := hq3.a.cell 1; have k2 := hq3.a.cell 2; have k3 := hq3.a.cell 3; have k4 := hq3.a.cell 4; have k5 := hq3.a.cell 5; simp at k0 k1 k2 k3 k4 k5; have m0 := hq3.b.cell 0; have m1 := hq3.b.cell 1; have m2 := hq3.b.cell 2; have m3 := hq3.b.cell 3; have m4 := hq3.b.cell 4; have m5 := hq3.b.cell 5; simp at m0 m1 m2 m3 m4 m5; have l0 := hq3.b.frozen 0; have l1 := hq3.b.frozen 1; have l2 := hq3.b.frozen 2; have l3 := hq3.b.frozen 3; have l4 := hq3.b.frozen 4; have l5 := hq3.b.frozen 5; have HQ3 := Lib.hid hq3; clear hq3 hR3 hown3 hgr3)))
  (try rw [Exit.noGoto_ret])
  (try simp only [Exit.inBlock, Exit.then])
  have hres : Tryz.f27.results = #[.cell 2 47] := by kernel_rfl
  refine bodyPost_ret (v := .agg #[.string x.name, .string x.super, .bool x.abs, .slice A1 np c1, .slice A2 nk c2, .slice A3 nr c3]) ?hr rfl ?_
  case hr =>
    simp only [results, hres]
    go_simp
  have z0 := HQ3.out.b
  have y0 := HO1_3.out
  have y0' := HO2_3.out
  have y0'' := HO3_3.out
  have bb := HQ3.out.bel
  have q0 := own_other y0 z0 (by decide) 0 (.string x.name)
  have q0' := own_other y0' z0 (by decide) 0 (.string x.name)
  have q0'' := own_other y0'' z0 (by decide) 0 (.string x.name)
  have s0 := bb.setCell (p := ⟨w.heap.size + 1, 0, none⟩) (Nat.le_succ _) (.string x.name)
  have t0 := z0.set_ 0 (.string x.name)
  have q1 := own_other q0 t0 (by decide) 1 (.string x.super)
  have q1' := own_other q0' t0 (by decide) 1 (.string x.super)
  have q1'' := own_other q0'' t0 (by decide) 1 (.string x.super)
  have s1 := s0.setCell (p := ⟨w.heap.size + 1, 1, none⟩) (Nat.le_succ _) (.string x.super)
  have t1 := t0.set_ 1 (.string x.super)
  have q2 := own_other q1 t1 (by decide) 2 (.bool x.abs)
  have q2' := own_other q1' t1 (by decide) 2 (.bool x.abs)
  have q2'' := own_other q1'' t1 (by decide) 2 (.bool x.abs)
  have s2 := s1.setCell (p := ⟨w.heap.size + 1, 2, none⟩) (Nat.le_succ _) (.bool x.abs)
  have t2 := t1.set_ 2 (.bool x.abs)
  have q3 := own_other q2 t2 (by decide) 3 (.slice A1 np c1)
  have q3' := own_other q2' t2 (by decide) 3 (.slice A1 np c1)
  have q3'' := own_other q2'' t2 (by decide) 3 (.slice A1 np c1)
  have s3 := s2.setCell (p := ⟨w.heap.size + 1, 3, none⟩) (Nat.le_succ _) (.slice A1 np c1)
  have t3 := t2.set_ 3 (.slice A1 np c1)
  have q4 := own_other q3 t3 (by decide) 4 (.slice A2 nk c2)
  have q4' := own_other q3' t3 (by decide) 4 (.slice A2 nk c2)
  have q4'' := own_other q3'' t3 (by decide) 4 (.slice A2 nk c2)
  have s4 := s3.setCell (p := ⟨w.heap.size + 1, 4, none⟩) (Nat.le_succ _) (.slice A2 nk c2)
  have t4 := t3.set_ 4 (.slice A2 nk c2)
  have q5 := own_other q4 t4 (by decide) 5 (.slice A3 nr c3)
  have q5' := own_other q4' t4 (by decide) 5 (.slice A3 nr c3)
  have q5'' := own_other q4'' t4 (by decide) 5 (.slice A3 nr c3)
  have s5 := s4.setCell (p := ⟨w.heap.size + 1, 5, none⟩) (Nat.le_succ _) (.slice A3 nr c3)
  have t5 := t4.set_ 5 (.slice A3 nr c3)
  exact ⟨⟨⟨A1, np, c1⟩, ⟨A2, nk, c2⟩, ⟨A3, nr, c3⟩⟩, rfl, ⟨HF1.out, HF2.out, HF3.out, q5, q5', q5''⟩, s5⟩
end Go.Proofs.YtilemieknfdjnaaGreat
namespace Go.Proofs.YtilemieknfdjnaaGreat
open Go Go.RowKit Go.Sort
set_option linter.unusedVariables false
theorem drew1_below (w : World) : Below w.heap.size w w.drew := ⟨rfl, rfl, rfl, Nat.le_refl _, fun _ _ => rfl⟩
end Go.Proofs.YtilemieknfdjnaaGreat
namespace Go.Proofs.YtilemieknfdjnaaGreat
open Go Go.RowKit Go.Sort
set_option linter.unusedVariables false
attribute [local go_sem ↓] Go.wp_at_zero Go.wp_at_succ
/-- what holds while sides are made anew -/
structure TS (w : World) (ov : Value) (l : List (SideD × Sl)) (wr : World) : Prop where
  own : wr.ownsRow w.heap.size 141 4 ov l.length (l.flatMap sideC)
  leaf : ∀ p ∈ l, p.2.n = p.1.args.length ∧ wr.ownsRow w.heap.size 3 1 (.slice p.2.A p.2.n p.2.c) p.2.n (intCells p.1.args)
  bel : Below w.heap.size w wr
theorem TS.after {w X X' : World} {ov : Value} {l : List (SideD × Sl)} (h : TS w ov l X) (hb : Below X.heap.size X X') : TS w ov l X' := ⟨own_after h.own hb, fun p hp => ⟨(h.leaf p hp).1, own_after (h.leaf p hp).2 hb⟩, h.bel.trans (hb.mono h.bel.size)⟩
theorem TS.push {w X X' : World} {ov v' : Value} {l : List (SideD × Sl)} {p : SideD × Sl} (h : TS w ov l X) (hg : X.grownBy X' ov.ownBlock) (hown : X'.ownsRow w.heap.size 141 4 v' (l.length + 1) (l.flatMap sideC ++ sideC p))
    (hp : p.2.n = p.1.args.length ∧ X.ownsRow w.heap.size 3 1 (.slice p.2.A p.2.n p.2.c) p.2.n (intCells p.1.args)) : TS w v' (l ++ [p]) X' := by
  refine ⟨?_, fun q hq => ?_, below_grows h.bel hg h.own (Nat.le_refl _)⟩
  · rw [List.length_append, List.length_singleton, List.flatMap_append, List.flatMap_singleton]; exact hown
  · rcases List.mem_append.1 hq with hq | hq
    · exact ⟨(h.leaf q hq).1, own_kept (h.leaf q hq).2 h.own (by decide) hg⟩
    · obtain rfl : q = p := by simpa using hq
      exact ⟨hp.1, own_kept hp.2 h.own (by decide) hg⟩
theorem TS.start (w : World) : TS w (.slice none 0 0) [] w := ⟨⟨rfl, .inl ⟨rfl, rfl⟩⟩, by simp, Below.refl _ _⟩
theorem TS.grow {w X : World} {A : Option Addr} {n c : Nat} {l : List (SideD × Sl)} (h : TS w (.slice A n c) l X) (hn : n = l.length) : GRow sideC SideIn 4 X w.heap.size X.heap.size ⟨A, n, c⟩ l :=
  ⟨hn, by subst hn; exact own_row h.own, fun g hg => ⟨(h.leaf g hg).1, own_row (h.leaf g hg).2⟩⟩
/-- sides in memory of their own -/
def TwinSidePost (w : World) (l : List (SideD × Sl)) (e : Ending) (w' : World) : Prop := ∃ (A : Option Addr) (n c : Nat) (m : List (SideD × Sl)), e = .returned (.slice A n c) ∧ n = m.length ∧ TS w (.slice A n c) m w' ∧ eqL sideEM l m = true
theorem eqL_take_snoc {α : Type} {e : α → α → Bool} {l m : List α} {k : Nat} {x y : α} (h : eqL e (l.take k) m = true) (hx : l[k]? = some x) (hy : e x y = true) : eqL e (l.take (k + 1)) (m ++ [y]) = true := by
  obtain ⟨hl, ex⟩ := List.getElem?_eq_some_iff.1 hx
  rw [List.take_succ_eq_append_getElem hl, ex]
  exact eqL_snoc h hy
set_option maxRecDepth 100000 in
set_option maxHeartbeats 3200000 in
theorem twinSide_any (w : World) (hi : Nat) (S : Sl) (l : List (SideD × Sl)) (h : GRow sideC SideIn 4 w 0 hi S l) (hh : hi ≤ w.heap.size) (hn : l.length ≤ 20000) (ha : ∀ p ∈ l, p.1.args.length * 8 ≤ 140737488355328) :
    Calls Tryz.prog 28 #[.slice S.A S.n S.c] w (TwinSidePost w l) := by
  obtain ⟨A, n, c⟩ := S
  have hc := h.row.2.2.1
  have hnc := h.row.2.1
  have hL := h.n
  simp only at hc hnc hL ⊢
  have hn' : n ≤ 20000 := by omega
  have HL := Lib.hid hL
  have HH := Lib.hid h
  have HA := Lib.hid ha
  unfold maxLen at hc
  obtain ⟨i1, hi1, hz1, hs1, hb1⟩ := info_parts info_int
  obtain ⟨i2, hi2, hz2, hs2, hb2⟩ := info_parts info_side
  clear hL h ha hn
  go_enter Tryz.func28, Tryz.ntmps28
  go_wp2_with fail
  go_loopw [3, 4] (fun s3 i wr => ∃ (k : Nat) (m : List (SideD × Sl)) (ov : Value), k ≤ n ∧ i = .int .i64 k ∧ ov = s3 ∧ Hid (TS w ov m wr) ∧ Hid (eqL sideEM (l.take k) m = true)) (fun _ i _ => n - (intOf i).toNat)
  case atStart => exact ⟨0, [], _, Nat.zero_le _, rfl, rfl, Lib.hid (TS.start w), Lib.hid rfl⟩
  case round =>
    obtain ⟨k, m, ov, hk, rfl, rfl, HT, HE⟩ := hrel
    by_cases hlt : k < n
    · obtain ⟨b, o, hA, _, hb, V⟩ := HH.out.at_ (fun _ => rfl) (show 0 < n by omega)
      simp only at hA
      subst hA
      obtain ⟨x, hx⟩ : ∃ x, l[k]? = some x := ⟨l[k]'(by have := HL.out; omega), List.getElem?_eq_getElem _⟩
      obtain ⟨hlf, hat⟩ := V k x hx
      have hbel := HT.out.bel
      have q0 : wr.cell? ⟨b, o + k * 4, none⟩ = some (.int .i64 x.1.kind) := (hbel.cell (p := ⟨_, _, none⟩) (show b < w.heap.size by omega)).trans (hat 0 _ (by omega) rfl)
      have q1 : wr.cell? ⟨b, o + k * 4 + 1, none⟩ = some (.string x.1.name) := (hbel.cell (p := ⟨_, _, none⟩) (show b < w.heap.size by omega)).trans (hat 1 _ (by omega) rfl)
      have q2 : wr.cell? ⟨b, o + k * 4 + 2, none⟩ = some (.int .i64 x.1.num) := (hbel.cell (p := ⟨_, _, none⟩) (show b < w.heap.size by omega)).trans (hat 2 _ (by omega) rfl)
      have q3 : wr.cell? ⟨b, o + k * 4 + 3, none⟩ = some (.slice x.2.A x.2.n x.2.c) := (hbel.cell (p := ⟨_, _, none⟩) (show b < w.heap.size by omega)).trans (hat 3 _ (by omega) rfl)
      have hbytes := HA.out x (List.mem_of_getElem? hx)
      have HX := Lib.hid hx
      have hwz := hbel.size
      obtain ⟨x, ⟨Aa, na, ca⟩⟩ := x
      simp only at q0 q1 q2 q3 hbytes
      have HLF := Lib.hid hlf
      have hna : na * 8 ≤ 140737488355328 := by have := hlf.an; simp only at this; omega
      have hml : m.length = k := by have h1 := eqL_length HE.out; have h2 := HL.out; rw [List.length_take] at h1; omega
      have HML := Lib.hid hml
      have HB := Lib.hid hbel
      have HLy := Lib.hid (And.intro (below_box wr (.cells #[.int .i64 x.kind, .string x.name, .int .i64 x.num, .slice Aa na ca] 141)) (Blk.new wr 141 #[.int .i64 x.kind, .string x.name, .int .i64 x.num, .slice Aa na ca]))
      have hbw : b < wr.heap.size := by omega
      clear V hat hlf hbytes hx hml hbel
      go_upto_region 6 with (fail)
      generalize wr.alloc (.cells #[.int .i64 x.kind, .string x.name, .int .i64 x.num, .slice Aa na ca] 141) = X6 at HLy ⊢
      have B6 := HLy.out.1
      have hsz6 : wr.heap.size < X6.heap.size := HLy.out.2.lt
      have u0 := (HLy.out.2.cell 3).trans (show _ = some (.slice Aa na ca) from rfl)
      have HB6 := Lib.hid B6
      have HK6 := Lib.hid HLy.out.2
      clear B6 HLy q0 q1 q2 q3
      go_upto_region 7 with (at_builtin; with_reducible show wpList _ _ _ (⟨some 19, _, _, _, _, _⟩ :: _) _ _; go_must (refine wpList_app (o := ⟨some 19, _, _, _, _, _⟩) _ rfl (.tmp 16) (.tmp 18) _ rfl X6.heap.size 3 i1 _ 1 8 Tryz.underlying79 hi1 hz1 hs1 hb1 rfl (by omega) _ 0 [] rfl (own_emptyB (size := 1) (e := 3) (B := X6.heap.size) (Blk.new' (by simp)) (Nat.le_refl _)) 0 hi Aa na ca (intCells x.args) rfl (Row.below HLF.out.a ((((HB.out.trans (HB6.out.mono hwz))).trans ((below_more (Below.refl _ _) _).mono (Nat.le_trans hwz HB6.out.size))).mono hh)) (intCells_one _) (by unfold maxLen; omega) (by omega) (by simp) ?_); go_must (intro v1 w1 hown1 hgr1 _; rw [Nat.zero_add, List.nil_append] at hown1; obtain ⟨A1, c1, rfl⟩ := own_form hown1; have hb7 : Below X6.heap.size X6 w1 := below_grows (below_more (Below.refl _ _) _) hgr1 (own_emptyB (size := 1) (e := 3) (B := X6.heap.size) (Blk.new' (by simp)) (Nat.le_refl _)) (Nat.le_refl _); have hk7 := HK6.out.after hb7; have u1 := hk7.cell 3; have y1 := hk7.frozen 3; simp at u1; have hk8 := hk7.set_ 3 (.slice A1 na c1); have HK8 := Lib.hid hk8; have hb8 : Below wr.heap.size wr (w1.setCell ⟨wr.heap.size, 3, none⟩ (.slice A1 na c1)) := (HB6.out.trans (hb7.mono HB6.out.size)).setCell (p := ⟨wr.heap.size, 3, none⟩) (Nat.le_refl _) _; have HB8 := Lib.hid hb8; have HO8 := Lib.hid (own_other (own_mono hown1 (Nat.le_trans hwz HB6.out.size)) hk7 (by decide) 3 (.slice A1 na c1)); have z0 := (hk8.cell 0).trans (show _ = some (.int .i64 x.kind) from rfl); have z1 := (hk8.cell 1).trans (show _ = some (.string x.name) from rfl); have z2 := (hk8.cell 2).trans (show _ = some (.int .i64 x.num) from rfl); have z3 := (hk8.cell 3).trans (show _ = some (.slice A1 na c1) from rfl); clear hb7 hk7 hk8 hb8 hown1 hgr1))
      generalize w1.setCell ⟨wr.heap.size, 3, none⟩ (.slice A1 na c1) = X8 at HK8 HB8 HO8 z0 z1 z2 z3 ⊢
      have HT8 := Lib.hid (HT.out.after HB8.out)
      have hwz8 := HT8.out.bel.size
      have HT9 := Lib.hid (HT8.out.after (below_box X8 (.cells #[.int .i64 x.kind, .string x.name, .int .i64 x.num, .slice A1 na c1] 141)))
      have HO9 := Lib.hid (own_after HO8.out (below_box X8 (.cells #[.int .i64 x.kind, .string x.name, .int .i64 x.num, .slice A1 na c1] 141)))
      have H1 : Hid (∀ u ∈ [Value.int .i64 x.kind, .string x.name, .int .i64 x.num, .slice A1 na c1], u.oneCell' = true) := Lib.hid (by intro u hu; simp at hu; rcases hu with rfl | rfl | rfl | rfl <;> rfl)
      have HR9 : Hid (Row (X8.alloc (.cells #[.int .i64 x.kind, .string x.name, .int .i64 x.num, .slice A1 na c1] 141)) X8.heap.size (X8.heap.size + 1) 4 (some ⟨X8.heap.size, 0, none⟩) 1 1 [.int .i64 x.kind, .string x.name, .int .i64 x.num, .slice A1 na c1]) := Lib.hid (row_blk (heap_alloc_new X8 _) rfl (Nat.le_refl _) (by unfold maxLen; omega))
      go_wp2_with (at_builtin; with_reducible show wpList _ _ _ (⟨some 24, _, _, _, _, _⟩ :: _) _ _; go_must (refine wpList_app (o := ⟨some 24, _, _, _, _, _⟩) _ rfl (.tmp 21) (.tmp 23) _ rfl w.heap.size 141 i2 _ 4 56 Tryz.underlying50 hi2 hz2 hs2 hb2 rfl (by omega) ov m.length (m.flatMap sideC) rfl HT9.out.own X8.heap.size (X8.heap.size + 1) (some ⟨X8.heap.size, 0, none⟩) 1 1 _ rfl HR9.out H1.out (by have := HML.out; unfold maxLen; omega) (by have := HML.out; omega) HT9.out.bel.size ?_); go_must (intro v2 w2 hown2 hgr2 _; have HT2 := Lib.hid (TS.push (p := (x, ⟨A1, na, c1⟩)) HT9.out hgr2 hown2 ⟨HLF.out.an, HO9.out⟩); clear hown2 hgr2))
      go_roundw
      case rel => exact ⟨k + 1, m ++ [(x, ⟨A1, na, c1⟩)], _, by omega, by go_num, rfl, HT2, Lib.hid (eqL_take_snoc HE.out HX.out (by simp [sideEM, eqL_refl intE_refl]))⟩
      case measure => simp [intOf]; omega
    · go_wp2_with fail
      obtain ⟨A', c', rfl⟩ := own_form HT.out.own
      go_ret
      exact ⟨A', _, c', m, rfl, rfl, HT.out, by have h1 := HE.out; rw [List.take_of_length_le (by have := HL.out; omega)] at h1; exact h1⟩
end Go.Proofs.YtilemieknfdjnaaGreat
namespace Go.Proofs.YtilemieknfdjnaaGreat
open Go Go.RowKit Go.Sort
set_option linter.unusedVariables false
/-- the cells of the blocks from lo on and below hi are the same -/
def Same2 (lo hi : Nat) (w w' : World) : Prop := ∀ b o, lo ≤ b → b < hi → w'.cell? ⟨b, o, none⟩ = w.cell? ⟨b, o, none⟩
theorem Same2.of_below {lo hi : Nat} {w w' : World} (h : Below hi w w') : Same2 lo hi w w' := fun _ _ _ hb => h.cell (p := ⟨_, _, none⟩) hb
theorem Same2.of_set {lo hi N i : Nat} {w : World} {u : Value} (h : N < lo) : Same2 lo hi w (w.setCell ⟨N, i, none⟩ u) := fun b o hl _ => by
  have h1 := Below.heap_setCell w ⟨N, i, none⟩ u b (show b ≠ N by omega)
  unfold World.cell?
  simp only [h1]
theorem Same2.trans {lo hi : Nat} {w w' w'' : World} (h : Same2 lo hi w w') (h' : Same2 lo hi w' w'') : Same2 lo hi w w'' := fun b o h1 h2 => (h' b o h1 h2).trans (h b o h1 h2)
theorem Row.same2 {w w' : World} {lo hi size n c : Nat} {A : Option Addr} {xs : List Value} (h : Row w lo hi size A n c xs) (hk : Same2 lo hi w w') : Row w' lo hi size A n c xs :=
  ⟨h.1, h.2.1, h.2.2.1, fun hn => by
    obtain ⟨b, o, e, h1, h2, hc⟩ := h.2.2.2 hn
    exact ⟨b, o, e, h1, h2, fun j u hu => (hk b _ h1 h2).trans (hc j u hu)⟩⟩
theorem step_empty {P : Program} (w : World) {ops : Array Oper} {o : Oper} {a : Act} {K : Act → World → Prop} {Q : Exit → Act → World → Prop} {E : Prop} (hgd : o.guard = none) (T : TypeId)
    (hrun : (execOp a.eval o).run P w = .ok (.value (.slice (some ⟨w.heap.size, 0, none⟩) 0 0)) (w.alloc (.cells #[] T)))
    (hK : ∀ g w', Blk w' g T #[] → Below w.heap.size w w' → w.heap.size ≤ g → K (a.put o.dst (.slice (some ⟨g, 0, none⟩) 0 0)) w') : if Region.wanted o (yielded ops a.tmps) = true then Oper.wp P o a w K Q else E := by
  have hw : Region.wanted o (yielded ops a.tmps) = true := by simp [Region.wanted, hgd]
  rw [if_pos hw]
  unfold Oper.wp
  rw [hrun]
  exact hK _ _ (Blk.new w T #[]) (below_more (Below.refl _ _) _) (Nat.le_refl _)
theorem step_mk1 {P : Program} (w : World) {ops : Array Oper} {o : Oper} {a : Act} {K : Act → World → Prop} {Q : Exit → Act → World → Prop} {E : Prop} (hgd : o.guard = none) (T : TypeId) (cs : Array Value)
    (hrun : (execOp a.eval o).run P w = .ok (.value (.slice (some ⟨w.heap.size, 0, none⟩) 1 1)) (w.alloc (.cells cs T)))
    (hK : ∀ g w', Blk w' g T cs → Below w.heap.size w w' → w.heap.size ≤ g → K (a.put o.dst (.slice (some ⟨g, 0, none⟩) 1 1)) w') : if Region.wanted o (yielded ops a.tmps) = true then Oper.wp P o a w K Q else E := by
  have hw : Region.wanted o (yielded ops a.tmps) = true := by simp [Region.wanted, hgd]
  rw [if_pos hw]
  unfold Oper.wp
  rw [hrun]
  exact hK _ _ (Blk.new w T cs) (below_more (Below.refl _ _) _) (Nat.le_refl _)
theorem app_new {W X Y : World} {g size n : Nat} {e : TypeId} {v : Value} {xs : List Value} (hb : Below W.heap.size W X) (hg : Blk X g e #[]) (hle : W.heap.size ≤ g)
    (hown : Y.ownsRow W.heap.size e size v (0 + n) ([] ++ xs)) (hgr : X.grownBy Y (Value.ownBlock (.slice (some ⟨g, 0, none⟩) 0 0))) : ∃ A c, v = .slice A n c ∧ Y.ownsRow W.heap.size e size (.slice A n c) n xs ∧ Below W.heap.size W Y := by
  rw [Nat.zero_add, List.nil_append] at hown
  obtain ⟨A, c, rfl⟩ := own_form hown
  exact ⟨A, c, rfl, hown, below_grows hb hgr (own_emptyB (size := size) (B := W.heap.size) hg hle) (Nat.le_refl _)⟩
def Keep2 {γ : Type} (P : World → Nat → Nat → γ → Prop) : Prop := ∀ {w w' lo hi g}, P w lo hi g → Same2 lo hi w w' → P w' lo hi g
theorem GRow.same2 {γ : Type} {C : γ → List Value} {P : World → Nat → Nat → γ → Prop} {size : Nat} {w w' : World} {lo hi : Nat} {S : Sl} {l : List γ} (h : GRow C P size w lo hi S l) (hP : Keep2 P) (hk : Same2 lo hi w w') : GRow C P size w' lo hi S l :=
  ⟨h.n, Row.same2 h.row hk, fun g hg => hP (h.all g hg) hk⟩
theorem conK2 : Keep2 ConIn := fun h hk => ⟨h.pn, h.kn, h.rn, Row.same2 h.p hk, Row.same2 h.k hk, Row.same2 h.r hk⟩
theorem sideK2 : Keep2 SideIn := fun h hk => ⟨h.an, Row.same2 h.a hk⟩
theorem eqK2 : Keep2 EqIn := fun h hk => ⟨h.l.same2 sideK2 hk, h.r.same2 sideK2 hk⟩
theorem rowK2 : Keep2 RowIn := fun h hk => ⟨h.qn, Row.same2 h.q hk⟩
/-- what is kept while a list of such parts grows -/
structure OwnK {γ : Type} (O : World → Nat → γ → Prop) (T : TypeId) : Prop where
  after : ∀ {w w' B g}, O w B g → Below w.heap.size w w' → O w' B g
  kept : ∀ {w w' B B' g size n v xs}, O w B g → w.ownsRow B' T size v n xs → w.grownBy w' v.ownBlock → O w' B g
  mono : ∀ {w B B' g}, O w B g → B' ≤ B → O w B' g
/-- a part whose lists lie below k -/
def Below' {γ : Type} (C : γ → List Value) (k : Nat) (a : γ) : Prop := ∀ v ∈ C a, ∀ j, v.ownBlock = some j → j < k
/-- the parts' lists lie apart: those of a later part in blocks above those of the parts ahead of it -/
def Ap {γ : Type} (C : γ → List Value) (O : World → Nat → γ → Prop) (B : Nat) (l : List γ) (X : World) : Prop := l.Pairwise fun a b => ∃ k, B ≤ k ∧ Below' C k a ∧ O X k b
/-- a list of parts in own memory from B on -/
structure GL0 {γ : Type} (C : γ → List Value) (O : World → Nat → γ → Prop) (T : TypeId) (size B : Nat) (ov : Value) (l : List γ) (X : World) : Prop where
  own : X.ownsRow B T size ov l.length (l.flatMap C)
  leaf : ∀ g ∈ l, O X B g
/-- a list of parts that grows, in own memory from B on -/
structure GL {γ : Type} (C : γ → List Value) (O : World → Nat → γ → Prop) (T : TypeId) (size B : Nat) (ov : Value) (l : List γ) (X : World) : Prop extends GL0 C O T size B ov l X where
  ap : Ap C O B l X
section
variable {γ : Type} {C : γ → List Value} {O : World → Nat → γ → Prop} {T : TypeId} {size B : Nat} {ov v' : Value} {l : List γ} {X X' : World}
theorem Ap.after (h : Ap C O B l X) (hO : OwnK O T) (hb : Below X.heap.size X X') : Ap C O B l X' := List.Pairwise.imp (fun ⟨k, h0, h1, h2⟩ => ⟨k, h0, h1, hO.after h2 hb⟩) h
theorem Ap.monoB {B' : Nat} (h : Ap C O B l X) (hB : B' ≤ B) : Ap C O B' l X := List.Pairwise.imp (fun ⟨k, h0, h1, h2⟩ => ⟨k, Nat.le_trans hB h0, h1, h2⟩) h
theorem GL.start (C : γ → List Value) (O : World → Nat → γ → Prop) (T : TypeId) (size B : Nat) (X : World) : GL C O T size B (.slice none 0 0) [] X := ⟨⟨⟨by simp, .inl ⟨rfl, rfl⟩⟩, by simp⟩, List.Pairwise.nil⟩
theorem GL.after (h : GL C O T size B ov l X) (hO : OwnK O T) (hb : Below X.heap.size X X') : GL C O T size B ov l X' := ⟨⟨own_after h.own hb, fun g hg => hO.after (h.leaf g hg) hb⟩, h.ap.after hO hb⟩
theorem GL.push (h : GL C O T size B ov l X) (hO : OwnK O T) {p : γ} (hg : X.grownBy X' ov.ownBlock) (hown : X'.ownsRow B T size v' (l.length + 1) (l.flatMap C ++ C p)) (hp : O X B p) {k : Nat} (hBk : B ≤ k) (hk : ∀ a ∈ l, Below' C k a) (hpk : O X k p) : GL C O T size B v' (l ++ [p]) X' := by
  refine ⟨⟨?_, fun q hq => ?_⟩, ?_⟩
  · rw [List.length_append, List.length_singleton, List.flatMap_append, List.flatMap_singleton]; exact hown
  · rcases List.mem_append.1 hq with hq | hq
    · exact hO.kept (h.leaf q hq) h.own hg
    · obtain rfl : q = p := by simpa using hq
      exact hO.kept hp h.own hg
  · refine List.pairwise_append.2 ⟨List.Pairwise.imp (fun ⟨k, h0, h1, h2⟩ => ⟨k, h0, h1, hO.kept h2 h.own hg⟩) h.ap, List.pairwise_singleton _ _, fun a ha b hb => ?_⟩
    obtain rfl : b = p := by simpa using hb
    exact ⟨k, hBk, hk a ha, hO.kept hpk h.own hg⟩
theorem GL0.toG {A : Option Addr} {n c : Nat} {P : World → Nat → Nat → γ → Prop} (h : GL0 C O T size B (.slice A n c) l X) (hn : n = l.length) (hP : ∀ g, O X B g → P X B X.heap.size g) : GRow C P size X B X.heap.size ⟨A, n, c⟩ l :=
  ⟨hn, by subst hn; exact own_row h.own, fun g hg => hP g (h.leaf g hg)⟩
theorem GL.toG {A : Option Addr} {n c : Nat} {P : World → Nat → Nat → γ → Prop} (h : GL C O T size B (.slice A n c) l X) (hn : n = l.length) (hP : ∀ g, O X B g → P X B X.heap.size g) : GRow C P size X B X.heap.size ⟨A, n, c⟩ l := GL0.toG h.toGL0 hn hP
end
theorem own_lt' {X : World} {B e size n j : Nat} {v : Value} {xs : List Value} (h : X.ownsRow B e size v n xs) (hj : v.ownBlock = some j) : j < X.heap.size := (World.ownsRow.lt h j hj).2
theorem conLt {X : World} {B : Nat} {g : ConD × Leaf} (h : ConOwn X B g) : Below' conC X.heap.size g := by
  intro v hv j hj
  simp only [conC, List.mem_cons, List.not_mem_nil, or_false] at hv
  rcases hv with rfl | rfl | rfl | rfl | rfl | rfl
  · simp [Value.ownBlock] at hj
  · simp [Value.ownBlock] at hj
  · simp [Value.ownBlock] at hj
  · exact own_lt' h.p hj
  · exact own_lt' h.k hj
  · exact own_lt' h.r hj
theorem conOK : OwnK ConOwn 47 :=
  ⟨fun h hb => ⟨h.pn, h.kn, h.rn, own_after h.p hb, own_after h.k hb, own_after h.r hb⟩, fun h ho hg => ⟨h.pn, h.kn, h.rn, own_kept h.p ho (by decide) hg, own_kept h.k ho (by decide) hg, own_kept h.r ho (by decide) hg⟩,
   fun h hB => ⟨h.pn, h.kn, h.rn, own_mono h.p hB, own_mono h.k hB, own_mono h.r hB⟩⟩
theorem con_one (x : ConD) (M : Leaf) : ∀ u ∈ [Value.string x.name, .string x.super, .bool x.abs, .slice M.p.A M.p.n M.p.c, .slice M.k.A M.k.n M.k.c, .slice M.r.A M.r.n M.r.c], u.oneCell' = true := by
  intro u hu
  simp at hu
  rcases hu with rfl | rfl | rfl | rfl | rfl | rfl <;> rfl
theorem eq_one (s : ByteArray) (A B : Option Addr) (n c m d : Nat) : ∀ u ∈ [Value.string s, .slice A n c, .slice B m d], u.oneCell' = true := by
  intro u hu
  simp at hu
  rcases hu with rfl | rfl | rfl <;> rfl
theorem row_one (s : ByteArray) (A : Option Addr) (n c : Nat) : ∀ u ∈ [Value.string s, .slice A n c], u.oneCell' = true := by
  intro u hu
  simp at hu
  rcases hu with rfl | rfl <;> rfl
theorem ConOwn.mono_ {w : World} {B B' : Nat} {x : ConD × Leaf} (h : ConOwn w B x) (hB : B' ≤ B) : ConOwn w B' x := conOK.mono h hB
theorem ConOwn.in_ {w : World} {B : Nat} {x : ConD × Leaf} (h : ConOwn w B x) : ConIn w B w.heap.size x := ⟨h.pn, h.kn, h.rn, own_row h.p, own_row h.k, own_row h.r⟩
/-- sides in own memory -/
structure SO (w : World) (B : Nat) (S : Sl) (l : List (SideD × Sl)) : Prop where
  n : S.n = l.length
  own : w.ownsRow B 141 4 (.slice S.A S.n S.c) S.n (l.flatMap sideC)
  leaf : ∀ p ∈ l, p.2.n = p.1.args.length ∧ w.ownsRow B 3 1 (.slice p.2.A p.2.n p.2.c) p.2.n (intCells p.1.args)
theorem TS.so {w X : World} {A : Option Addr} {n c : Nat} {l : List (SideD × Sl)} (h : TS w (.slice A n c) l X) (hn : n = l.length) : SO X w.heap.size ⟨A, n, c⟩ l := ⟨hn, by subst hn; exact h.own, h.leaf⟩
theorem SO.after {w w' : World} {B : Nat} {S : Sl} {l : List (SideD × Sl)} (h : SO w B S l) (hb : Below w.heap.size w w') : SO w' B S l := ⟨h.n, own_after h.own hb, fun p hp => ⟨(h.leaf p hp).1, own_after (h.leaf p hp).2 hb⟩⟩
theorem SO.mono {w : World} {B B' : Nat} {S : Sl} {l : List (SideD × Sl)} (h : SO w B S l) (hB : B' ≤ B) : SO w B' S l := ⟨h.n, own_mono h.own hB, fun p hp => ⟨(h.leaf p hp).1, own_mono (h.leaf p hp).2 hB⟩⟩
theorem SO.kept {w w' : World} {B B' size n : Nat} {v : Value} {xs : List Value} {S : Sl} {l : List (SideD × Sl)} (h : SO w B S l) (ho : w.ownsRow B' 52 size v n xs) (hg : w.grownBy w' v.ownBlock) : SO w' B S l :=
  ⟨h.n, own_kept h.own ho (by decide) hg, fun p hp => ⟨(h.leaf p hp).1, own_kept (h.leaf p hp).2 ho (by decide) hg⟩⟩
theorem SO.in_ {w : World} {B : Nat} {S : Sl} {l : List (SideD × Sl)} (h : SO w B S l) : GRow sideC SideIn 4 w B w.heap.size S l := ⟨h.n, own_row h.own, fun p hp => ⟨(h.leaf p hp).1, own_row (h.leaf p hp).2⟩⟩
structure EqOwn (w : World) (B : Nat) (x : EqM) : Prop where
  l : SO w B x.L x.ls
  r : SO w B x.R x.rs
theorem eqOK : OwnK EqOwn 52 := ⟨fun h hb => ⟨h.l.after hb, h.r.after hb⟩, fun h ho hg => ⟨h.l.kept ho hg, h.r.kept ho hg⟩, fun h hB => ⟨h.l.mono hB, h.r.mono hB⟩⟩
theorem eqLt {X : World} {B : Nat} {g : EqM} (h : EqOwn X B g) : Below' eqC X.heap.size g := by
  intro v hv j hj
  simp only [eqC, List.mem_cons, List.not_mem_nil, or_false] at hv
  rcases hv with rfl | rfl | rfl
  · simp [Value.ownBlock] at hj
  · exact own_lt' h.l.own hj
  · exact own_lt' h.r.own hj
theorem EqOwn.in_ {w : World} {B : Nat} {x : EqM} (h : EqOwn w B x) : EqIn w B w.heap.size x := ⟨h.l.in_, h.r.in_⟩
/-- a row of cells in own memory: T is what they are -/
structure RowOwn (T : TypeId) (w : World) (B : Nat) (x : RowD × Sl) : Prop where
  qn : x.2.n = x.1.cells.length
  q : w.ownsRow B T 3 (.slice x.2.A x.2.n x.2.c) x.2.n (ceCells x.1.cells)
theorem edOK : OwnK (RowOwn 74) 55 := ⟨fun h hb => ⟨h.qn, own_after h.q hb⟩, fun h ho hg => ⟨h.qn, own_kept h.q ho (by decide) hg⟩, fun h hB => ⟨h.qn, own_mono h.q hB⟩⟩
theorem teOK : OwnK (RowOwn 77) 58 := ⟨fun h hb => ⟨h.qn, own_after h.q hb⟩, fun h ho hg => ⟨h.qn, own_kept h.q ho (by decide) hg⟩, fun h hB => ⟨h.qn, own_mono h.q hB⟩⟩
theorem RowOwn.in_ {T : TypeId} {w : World} {B : Nat} {x : RowD × Sl} (h : RowOwn T w B x) : RowIn w B w.heap.size x := ⟨h.qn, own_row h.q⟩
theorem rowLt {X : World} {B : Nat} {T' : TypeId} {g : RowD × Sl} (h : RowOwn T' X B g) : Below' rowC X.heap.size g := by
  intro v hv j hj
  simp only [rowC, List.mem_cons, List.not_mem_nil, or_false] at hv
  rcases hv with rfl | rfl
  · simp [Value.ownBlock] at hj
  · exact own_lt' h.q hj
end Go.Proofs.YtilemieknfdjnaaGreat

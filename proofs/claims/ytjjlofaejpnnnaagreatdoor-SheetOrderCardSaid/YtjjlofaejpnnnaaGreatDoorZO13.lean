/-
  A REGION THAT DRAWS ITS ORDER, AND ENDS IN OPERATIONS WHOSE ORDER IS FORCED: what comes ahead of them is walked under a condition on the world, what they do is walked behind it. No program stands in it.
  WALKS: a model lent, with marks in the room behind its lists.
-/
import Derived.Test.YtjjlofaejpnnnaaGreatDoorZO12
import Derived.WalkKit
import Derived.StillTail
import Derived.Deep.RegionHeld3
import Derived.Deep.RegionLaw
import Derived.Deep.DeepCutAuto
import Derived.Deep.DrawnRows
import Derived.Deep.DeepMust
namespace Go.Proofs.YtjjlofaejpnnnaaGreatDoor
open Go Go.RowKit
set_option linter.unusedVariables false
/-- Q, but K where the region goes on -/
def tailQ (Q : Exit → Act → World → Prop) (K : Act → World → Prop) : Exit → Act → World → Prop
  | .normal, a, w => K a w
  | e, a, w => Q e a w
section
variable {P : Program} {Q : Exit → Act → World → Prop} {K : Act → World → Prop} {md : Region.Mode} {S : World → Prop}
theorem lets_tail (h : LetsOut (tailQ Q K)) : LetsOut Q := h
theorem oper_tail {o : Oper} {a : Act} {w : World} {next : Act → World → Prop} (h : Oper.wp P o a w next (tailQ Q K)) : Oper.wp P o a w next Q := by
  unfold Oper.wp at *
  generalize (execOp a.eval o).run P w = r at *
  cases r with
  | ok n w' =>
    cases n <;> simp only [Oper.upon] at h ⊢ <;>
      first
        | exact h
        | exact Calls.mono h (fun e w'' he => by cases e <;> exact he)
  | halt x w' => cases x <;> simp only [Oper.upon] at h ⊢ <;> exact h
/-- each operation ahead of number n is asked for whatever comes, and waits for earlier ones alone -/
def aheadB (md : Region.Mode) (ops : Array Oper) (n : Nat) : Bool :=
  (List.range n).all fun j => match ops[j]? with
    | some o => o.guard.isNone && o.after.all fun e => !Region.binds md e || decide (e.on < j)
    | none => false
theorem aheadB_spec {ops : Array Oper} {n : Nat} (h : aheadB md ops n = true) {j : Nat} (hj : j < n) : ∃ o, ops[j]? = some o ∧ o.guard = none ∧ ∀ e ∈ o.after, Region.binds md e = true → e.on < j := by
  have h1 := List.all_eq_true.1 h j (List.mem_range.2 hj)
  cases ho : ops[j]? with
  | none => simp [ho] at h1
  | some o =>
    rw [ho] at h1
    simp only [Bool.and_eq_true, Option.isNone_iff_eq_none] at h1
    refine ⟨o, rfl, h1.1, fun e he hb => ?_⟩
    have := Array.all_eq_true_iff_forall_mem.1 h1.2 e he
    rw [hb] at this
    simpa using this
theorem wpAny_more {ops : Array Oper} {listed : Array Bool} : ∀ (f : Nat) (listed : Array Bool) (a : Act) (w : World), wpAny P md ops Q f listed a w → wpAny P md ops Q (f + 1) listed a w
  | 0, _, _, _, h => ⟨fun _ => h.2, fun i hi => by rw [h.1] at hi; cases hi⟩
  | f + 1, _, _, _, h => ⟨h.1, fun i hi => wpOp_mono (fun a' w' h' => wpAny_more (listed := listed) f _ a' w' h') (h.2 i hi)⟩
theorem wpAny_more' {ops : Array Oper} {listed : Array Bool} {a : Act} {w : World} {g : Nat} (h : wpAny P md ops Q g listed a w) : ∀ f, wpAny P md ops Q (f + g) listed a w
  | 0 => by rw [Nat.zero_add]; exact h
  | f + 1 => by rw [show f + 1 + g = (f + g) + 1 from by omega]; exact wpAny_more (listed := listed) _ _ _ _ (wpAny_more' h f)
variable {hops : Array Oper} {ops : Array Oper} {n g : Nat}
theorem getD_app {L R : Array Bool} {j : Nat} {d : Bool} (hj : j < L.size) : (L ++ R).getD j d = L.getD j d := by
  simp [Array.getD_eq_getD_getElem?, Array.getElem?_append_left hj]
theorem ready_head (hs : hops.size = n) (hh : ∀ j, j < n → hops[j]? = ops[j]?) (hB : aheadB md ops n = true) {L R : Array Bool} (hL : L.size = n) {j : Nat} (hj : j < n) :
    j ∈ Region.ready md ops (L ++ R) ↔ j ∈ Region.ready md hops L := by
  rw [mem_ready, mem_ready, hh j hj, getD_app (by omega)]
  obtain ⟨o, ho, _, hd⟩ := aheadB_spec hB hj
  refine and_congr_right fun _ => ?_
  refine exists_congr fun o' => and_congr_right fun ho' => forall_congr' fun e => forall_congr' fun he => forall_congr' fun hb => ?_
  have : o' = o := Option.some.inj (ho'.symm.trans ho)
  subst this
  rw [getD_app (by have := hd e he hb; omega)]
theorem some_ready (hs : hops.size = n) (hh : ∀ j, j < n → hops[j]? = ops[j]?) (hB : aheadB md ops n = true) {L : Array Bool} (hL : L.size = n) : ∀ (j : Nat), j < n → L.getD j true = false → ∃ i, i < n ∧ i ∈ Region.ready md hops L := by
  intro j
  induction j using Nat.strongRecOn with
  | _ j ih =>
    intro hj hun
    obtain ⟨o, ho, _, hd⟩ := aheadB_spec hB hj
    by_cases h : ∃ e ∈ o.after, Region.binds md e = true ∧ L.getD e.on false = false
    · obtain ⟨e, he, hb, hl⟩ := h
      have hlt := hd e he hb
      exact ih e.on hlt (by omega) (getD_in (by omega) hl)
    · refine ⟨j, hj, mem_ready.2 ⟨hun, o, by rw [hh j hj]; exact ho, fun e he hb => ?_⟩⟩
      cases hl : L.getD e.on false with
      | true => rfl
      | false => exact absurd ⟨e, he, hb, hl⟩ h
theorem op_head (hh : ∀ j, j < n → hops[j]? = ops[j]?) (hB : aheadB md ops n = true) {i : Nat} (hi : i < n) {K1 K2 : Act → World → Prop} {a : Act} {w : World} (hK : ∀ a w, K1 a w → K2 a w)
    (h : wpOp P hops (tailQ Q K) i K1 a w) : wpOp P ops Q i K2 a w := by
  obtain ⟨o, ho, hg, _⟩ := aheadB_spec hB hi
  unfold wpOp at *
  rw [hh i hi] at h
  simp only [ho] at h ⊢
  have hw : ∀ y, Region.wanted o y = true := fun y => by simp [Region.wanted, hg]
  rw [hw, if_pos rfl] at h ⊢
  exact h.imp (fun h => oper_tail (Oper.wp_mono hK h)) (fun h => ⟨h.1, lets_tail h.2⟩)
theorem head_tail {l : List Oper} (hs : hops.size = n) (hh : ∀ j, j < n → hops[j]? = ops[j]?) (hB : aheadB md ops n = true) (hsk : Region.sinkB md ops n = true) (hch : Region.chainB md ops n = true) (hn : n < ops.size)
    (hl : ∀ j, l[j]? = ops[n + j]?) (hseq : Region.seqB md ops l.length n (Array.replicate n true ++ Array.replicate l.length false) = true) (hsize : ops.size = n + l.length) :
    ∀ (fuel : Nat) (L : Array Bool) (a : Act) (w : World), L.size = n → HeadInv md ops n (L ++ Array.replicate l.length false) →
      wpAnyH P md hops (tailQ Q (wpList P ops Q l)) S fuel L a w → wpAny P md ops Q (fuel + l.length) (L ++ Array.replicate l.length false) a w := by
  intro fuel
  induction fuel with
  | zero =>
    intro L a w hL inv h
    have hall : ∀ j, j < n → L.getD j true = true := fun j hj => by
      cases hx : L.getD j true with
      | true => rfl
      | false =>
        obtain ⟨i, _, hi⟩ := some_ready hs hh hB hL j hj hx
        rw [h.1] at hi; cases hi
    have hLe : L = Array.replicate n true := by
      refine Array.ext (by simp [hL]) fun j h1 h2 => ?_
      have := hall j (by omega)
      rw [Array.getElem_replicate]
      simpa [h1] using this
    rw [Nat.zero_add, hLe]
    exact wpAny_of_seq l n _ a w hl hseq h.2
  | succ fuel ih =>
    intro L a w hL inv h
    by_cases hun : ∃ j, j < n ∧ L.getD j true = false
    · obtain ⟨j, hj, hx⟩ := hun
      obtain ⟨i, hin, hi⟩ := some_ready hs hh hB hL j hj hx
      have hif := (ready_head (R := Array.replicate l.length false) hs hh hB hL hin).2 hi
      rw [show fuel + 1 + l.length = (fuel + l.length) + 1 from by omega]
      refine ⟨fun h0 => (by rw [h0] at hif; cases hif), fun k hk => ?_⟩
      have hkn : k < n := by
        rcases Nat.lt_or_ge k n with h | h
        · exact h
        · exact absurd hk (tail_waits hsk hch hn inv _ j rfl hj (by rw [getD_app (by omega)]; exact hx) k h)
      have hkh := (ready_head hs hh hB hL hkn).1 hk
      refine op_head hh hB hkn (fun a' w' h' => ?_) (h.2 k hkh)
      have e : (L ++ Array.replicate l.length false).setIfInBounds k true = L.setIfInBounds k true ++ Array.replicate l.length false := by
        rw [Array.setIfInBounds_append_left (by omega)]
      rw [e]
      exact ih _ a' w' (by simpa using hL) (by rw [← e]; exact inv.set hk hkn) h'.2
    · have hall : ∀ j, j < n → L.getD j true = true := fun j hj => by
        cases hx : L.getD j true with
        | true => rfl
        | false => exact absurd ⟨j, hj, hx⟩ hun
      have hLe : L = Array.replicate n true := by
        refine Array.ext (by simp [hL]) fun j h1 h2 => ?_
        have := hall j (by omega)
        rw [Array.getElem_replicate]
        simpa [h1] using this
      have hr0 : Region.ready md hops L = [] := by
        rcases hx : Region.ready md hops L with _ | ⟨i, rs⟩
        · rfl
        · have hi : i ∈ Region.ready md hops L := by rw [hx]; exact List.mem_cons_self
          obtain ⟨h1, o, ho, _⟩ := mem_ready.1 hi
          have hin : i < n := by rw [← hs]; exact (Array.getElem?_eq_some_iff.1 ho).1
          rw [hall i hin] at h1; cases h1
      refine wpAny_more' ?_ (fuel + 1)
      rw [hLe]
      exact wpAny_of_seq l n _ a w hl hseq (h.1 hr0)
/-- what the kernel looks at -/
def tailB (ops : Array Oper) (n : Nat) : Bool :=
  aheadB .any ops n && Region.sinkB .any ops n && Region.chainB .any ops n && decide (n < ops.size) && Region.seqB .any ops (ops.size - n) n (Array.replicate n true ++ Array.replicate (ops.size - n) false)
/-- **the beginning**: n operations in whatever order, under S; then the others as they stand -/
theorem wp_region_held_tail {id : Nat} {a : Act} {w : World} {l : List Oper} (n : Nat) (S : World → Prop) (hm : P.follows .mixedOrders = true) (hB : tailB l.toArray n = true) (hS : S w.drew)
    (h : S w.drew → wpAnyH P .any (l.take n).toArray (tailQ Q (wpList P l.toArray Q (l.drop n))) S n (Array.replicate n false) a w.drew) : (Code.region id l.toArray true).wp P Q a w := by
  simp only [tailB, Bool.and_eq_true, decide_eq_true_eq] at hB
  obtain ⟨⟨⟨⟨h1, h2⟩, h3⟩, h4⟩, h5⟩ := hB
  have hn : n < l.length := by simpa using h4
  have hdl : l.toArray.size - n = (l.drop n).length := by simp
  have hsz : l.toArray.size = n + (l.drop n).length := by simp; omega
  refine wp_region_any hm ?_
  have := head_tail (P := P) (Q := Q) (S := S) (hops := (l.take n).toArray) (ops := l.toArray) (n := n) (md := .any) (l := l.drop n) (by simp; omega) (fun j hj => by simp [hj]) h1 h2 h3 h4 (fun j => by simp [List.getElem?_drop]) (by rw [← hdl]; exact h5) hsz
    n (Array.replicate n false) a w.drew (by simp) ?_ (h hS)
  · rw [← hsz] at this
    have e : Array.replicate n false ++ Array.replicate (l.drop n).length false = Array.replicate l.toArray.size false := by
      rw [Array.replicate_append_replicate, ← hsz]
    rw [e] at this
    exact this
  · refine ⟨by simp; omega, fun j oj _ hl => ?_, fun t ht ht' => ?_⟩
    · rw [Array.replicate_append_replicate, getD_replicate_false] at hl; cases hl
    · rw [Array.replicate_append_replicate]
      exact getD_in (by rw [← hsz]; simpa using ht') (getD_replicate_false _ _)
end
end Go.Proofs.YtjjlofaejpnnnaaGreatDoor
namespace Go.Proofs.YtjjlofaejpnnnaaGreatDoor
open Go Go.RowKit Go.Sort
set_option linter.unusedVariables false
attribute [local go_sem ↓] Go.wp_at_zero Go.wp_at_succ
theorem propInfo : (Tryz.prog.info? 60).map (fun i => (i.zero, i.size, i.bytes)) = some (some (.agg #[.string ByteArray.empty, .string ByteArray.empty]), 2, 32) := by kernel_rfl
theorem refInfo : (Tryz.prog.info? 62).map (fun i => (i.zero, i.size, i.bytes)) = some (some (.agg #[.string ByteArray.empty, .int .i64 0]), 2, 24) := by kernel_rfl
theorem nodeInfo : (Tryz.prog.info? 55).map (fun i => (i.zero, i.size, i.bytes)) = some (some (.agg #[.int .i64 0, .string ByteArray.empty, .int .i64 0, .string ByteArray.empty, .slice none 0 0, .slice none 0 0, .slice none 0 0]), 7, 120) := by kernel_rfl
def markS : ByteArray := ⟨#[109, 97, 114, 107]⟩
/-- the slice s of n elements holds xs, and behind its end, in its room, the mark -/
def MarkIn (w : World) (B : Nat) (e : TypeId) (size : Nat) (s : Sl) (n : Nat) (xs mark : List Value) : Prop :=
  s.n = n ∧ s.A ≠ none ∧ w.ownsRow B e size (.slice s.A (n + 1) s.c) (n + 1) (xs ++ mark)
theorem MarkIn.after {w w' : World} {B : Nat} {e : TypeId} {size n : Nat} {s : Sl} {xs mark : List Value} (h : MarkIn w B e size s n xs mark) (hb : Below w.heap.size w w') : MarkIn w' B e size s n xs mark := ⟨h.1, h.2.1, own_after h.2.2 hb⟩
theorem MarkIn.other {w : World} {B : Nat} {e : TypeId} {size n : Nat} {s : Sl} {xs mark : List Value} (h : MarkIn w B e size s n xs mark) {g : Nat} {t : TypeId} {cs : Array Value} (hg : Blk w g t cs) (hne : e ≠ t) (i : Nat) (u : Value) : MarkIn (w.setCell ⟨g, i, none⟩ u) B e size s n xs mark := ⟨h.1, h.2.1, own_other h.2.2 hg hne i u⟩
theorem MarkIn.kept {w w' : World} {B : Nat} {e : TypeId} {size n : Nat} {s : Sl} {xs mark : List Value} (h : MarkIn w B e size s n xs mark) {row : Option Nat} (hg : w.grownBy w' row) (hne : Value.ownBlock (.slice s.A (n + 1) s.c) ≠ row) : MarkIn w' B e size s n xs mark := ⟨h.1, h.2.1, World.ownsRow.kept h.2.2 hg (.inr hne)⟩
theorem MarkIn.len {w : World} {B : Nat} {e : TypeId} {size n n' : Nat} {s : Sl} {xs mark : List Value} (h : MarkIn w B e size s n xs mark) (hn : n = n') : MarkIn w B e size s n' xs mark := hn ▸ h
theorem MarkIn.mono {w : World} {B B' : Nat} {e : TypeId} {size n : Nat} {s : Sl} {xs mark : List Value} (h : MarkIn w B e size s n xs mark) (hB : B' ≤ B) : MarkIn w B' e size s n xs mark := ⟨h.1, h.2.1, own_mono h.2.2 hB⟩
theorem MarkIn.ne {w : World} {B : Nat} {e : TypeId} {size n : Nat} {s : Sl} {xs mark : List Value} (h : MarkIn w B e size s n xs mark) {B' : Nat} {e' : TypeId} {size' n' : Nat} {v' : Value} {xs' : List Value} (h' : w.ownsRow B' e' size' v' n' xs') (hne : e ≠ e') : Value.ownBlock (.slice s.A (n + 1) s.c) ≠ v'.ownBlock := by
  rcases own_own_ne h.2.2 h' hne with h0 | h0
  · rcases h.2.2.2 with ⟨_, h1⟩ | ⟨g, cap, cur, hv, _⟩
    · omega
    · rw [hv] at h0; simp [Value.ownBlock] at h0
  · exact h0
structure LentLeaf (w : World) (B : Nat) (nd : Nd) (L : Leaf) : Prop where
  p : MarkIn w B 60 2 L.p nd.props.length (propCells nd.props) [.string markS, .string ⟨#[]⟩]
  k : MarkIn w B 3 1 L.k nd.kids.length (intCells nd.kids) [.int .i64 (-7)]
  r : MarkIn w B 62 2 L.r nd.refs.length (refCells nd.refs) [.string markS, .int .i64 0]
  sz : SzN nd
theorem LentLeaf.after {w w' : World} {B : Nat} {nd : Nd} {L : Leaf} (h : LentLeaf w B nd L) (hb : Below w.heap.size w w') : LentLeaf w' B nd L := ⟨h.p.after hb, h.k.after hb, h.r.after hb, h.sz⟩
theorem LentLeaf.other {w : World} {B : Nat} {nd : Nd} {L : Leaf} (h : LentLeaf w B nd L) {g : Nat} {t : TypeId} {cs : Array Value} (hg : Blk w g t cs) (h1 : 60 ≠ t) (h2 : 3 ≠ t) (h3 : 62 ≠ t) (i : Nat) (u : Value) : LentLeaf (w.setCell ⟨g, i, none⟩ u) B nd L := ⟨h.p.other hg h1 i u, h.k.other hg h2 i u, h.r.other hg h3 i u, h.sz⟩
theorem LentLeaf.kept {w w' : World} {B : Nat} {nd : Nd} {L : Leaf} (h : LentLeaf w B nd L) {B' : Nat} {size' n' : Nat} {v' : Value} {xs' : List Value} (h' : w.ownsRow B' 55 size' v' n' xs') (hg : w.grownBy w' v'.ownBlock) : LentLeaf w' B nd L :=
  ⟨h.p.kept hg (h.p.ne h' (by decide)), h.k.kept hg (h.k.ne h' (by decide)), h.r.kept hg (h.r.ne h' (by decide)), h.sz⟩
theorem Blk.drew {w : World} {g : Nat} {t : TypeId} {cs : Array Value} (h : Blk w g t cs) : Blk w.drew g t cs := h
theorem below_drew {B : Nat} {a w : World} (h : Below B a w) : Below B a w.drew := ⟨h.os, h.tape, h.output, h.size, h.block⟩
theorem below_more {W w' : World} (h : Below W.heap.size W w') (o : Obj) : Below W.heap.size W (w'.alloc o) := h.alloc h.size o
theorem below_grows {W w' w'' : World} (h : Below W.heap.size W w') {v : Value} (hg : w'.grownBy w'' v.ownBlock) {e : TypeId} {size n B : Nat} {xs : List Value} (hown : w'.ownsRow B e size v n xs) (hB : W.heap.size ≤ B) : Below W.heap.size W w'' :=
  h.grown hg h.size (fun k hk => Nat.le_trans hB (World.ownsRow.lt hown k hk).1)
theorem own_slice {w : World} {base n size : Nat} {e : TypeId} {v : Value} {xs : List Value} (h : w.ownsRow base e size v (n + 1) xs) : ∃ G cap, v = .slice (some ⟨G, 0, none⟩) (n + 1) cap ∧ n + 1 ≤ cap ∧ cap ≤ maxLen := by
  obtain ⟨_, h2⟩ := h
  rcases h2 with ⟨_, h0⟩ | ⟨G, cap, cur, rfl, r1, r2, r3, r4, _⟩
  · omega
  · exact ⟨G, cap, rfl, r3, r4⟩
/-- append of one element from a new block -/
theorem step_app_mark {P : Program} (w : World) {ops : Array Oper} {o : Oper} {a : Act} {K : Act → World → Prop} {Q : Exit → Act → World → Prop} {E : Prop} (hgd : o.guard = none) (s x : Operand) (t : TypeId)
    (ho : o.op = .call { callee := .builtin .append, args := #[s, x], argTypes := #[t, t] })
    (base : Nat) (e : TypeId) (i : TypeInfo) (z : Value) (size bytes : Nat) (ht : P.underlying t = some (.slice e)) (hi : P.info? e = some i) (hz : i.zero = some z)
    (hsize : i.size = size) (hby : i.bytes = bytes) (hzs : z.cells.size = size) (hsz : 0 < size)
    (v : Value) (n : Nat) (xs : List Value) (hs : a.eval s = v) (hown : w.ownsRow base e size v n xs)
    (gm : Nat) (cs : List Value) (hx : a.eval x = .slice (some ⟨gm, 0, none⟩) 1 1) (hblk : Blk w gm e cs.toArray) (hcs : cs.length = size) (h1 : ∀ u ∈ cs, u.oneCell' = true)
    (h63 : n + 1 ≤ maxLen) (hbytes : (n + 1) * bytes ≤ 140737488355328) (hbase : base ≤ w.heap.size)
    (h : ∀ G cap w', w'.ownsRow base e size (.slice (some ⟨G, 0, none⟩) (n + 1) cap) (n + 1) (xs ++ cs) → (∀ W, Below W.heap.size W w → W.heap.size ≤ base → Below W.heap.size W w') → n + 1 ≤ cap → cap ≤ maxLen → w.grownBy w' v.ownBlock → K (a.put o.dst (.slice (some ⟨G, 0, none⟩) (n + 1) cap)) w') :
    if Region.wanted o (yielded ops a.tmps) = true then Oper.wp P o a w K Q else E := by
  have hr : Row w gm (gm + 1) size (some ⟨gm, 0, none⟩) 1 1 cs := by
    have := row_blk (w := w) (size := size) (n := 1) (c := 1) hblk (by simpa using hcs) (Nat.le_refl _) (by unfold maxLen; omega)
    simpa using this
  refine step_app w hgd s x t ho base e i z size bytes ht hi hz hsize hby hzs hsz v n xs hs hown gm (gm + 1) _ 1 1 cs hx hr h1 h63 hbytes hbase ?_
  intro v' w' h2 h3 _
  obtain ⟨h2l, h2'⟩ := h2
  rcases h2' with ⟨_, h0⟩ | ⟨G, cap, cur, rfl, r1, r2, r3, r4, r5, r6⟩
  · omega
  · exact h G cap w' ⟨h2l, .inr ⟨G, cap, cur, rfl, r1, r2, r3, r4, r5, r6⟩⟩ (fun W hW hWb => below_grows hW h3 hown hWb) r3 r4 h3
/-- what holds in lent, but for the list that grows -/
structure LE (w : World) (next : Int) (A : Option Addr) (n c : Nat) (ov : Value) (l : List (Nd × Leaf)) (wr : World) : Prop where
  md : Blk wr w.heap.size 25 #[.int .i64 next, .slice A n c]
  rs : Blk wr (w.heap.size + 1) 25 #[.int .i64 0, .slice none 0 0]
  out : Blk wr (w.heap.size + 2) 25 #[.int .i64 next, ov]
  leaf : ∀ p ∈ l, LentLeaf wr w.heap.size p.1 p.2
  bel : Below w.heap.size w wr
/-- what holds in the loop of lent -/
structure LW (w : World) (next : Int) (A : Option Addr) (n c : Nat) (ov : Value) (l : List (Nd × Leaf)) (wr : World) : Prop where
  e : LE w next A n c ov l wr
  own : OwnN wr w.heap.size ov l
section
variable {w : World} {next : Int} {A : Option Addr} {n c : Nat} {ov : Value} {l : List (Nd × Leaf)} {X X' : World}
theorem LE.after (h : LE w next A n c ov l X) (hb : Below X.heap.size X X') : LE w next A n c ov l X' :=
  ⟨h.md.after hb, h.rs.after hb, h.out.after hb, fun p hp => (h.leaf p hp).after hb, h.bel.trans (hb.mono h.bel.size)⟩
theorem LW.after (h : LW w next A n c ov l X) (hb : Below X.heap.size X X') : LW w next A n c ov l X' := ⟨h.e.after hb, own_after h.own hb⟩
/-- the list has grown -/
theorem LE.kept (h : LE w next A n c ov l X) (hown : OwnN X w.heap.size ov l) (hg : X.grownBy X' ov.ownBlock) : LE w next A n c ov l X' :=
  ⟨h.md.grown hg (Ne.symm (own_blk_ne hown h.md (by decide))), h.rs.grown hg (Ne.symm (own_blk_ne hown h.rs (by decide))), h.out.grown hg (Ne.symm (own_blk_ne hown h.out (by decide))),
    fun p hp => (h.leaf p hp).kept hown hg, below_grows h.bel hg hown (Nat.le_refl _)⟩
theorem LE.out_set (h : LE w next A n c ov l X) (u : Value) : LE w next A n c u l (X.setCell ⟨w.heap.size + 2, 1, none⟩ u) :=
  ⟨h.md.far (by simp) u, h.rs.far (by simp) u, by simpa using h.out.set_ 1 u,
    fun p hp => (h.leaf p hp).other h.out (by decide) (by decide) (by decide) 1 u, h.bel.setCell (p := ⟨w.heap.size + 2, 1, none⟩) (by simp) u⟩
theorem LW.push {p : Nd × Leaf} {v' : Value} (h : LW w next A n c ov l X) (hg : X.grownBy X' ov.ownBlock) (hown : X'.ownsRow w.heap.size 55 7 v' (l.length + 1) (allCells l ++ ndCells p))
    (hp : LentLeaf X w.heap.size p.1 p.2) : LW w next A n c v' (l ++ [p]) (X'.setCell ⟨w.heap.size + 2, 1, none⟩ v') := by
  have h1 := h.e.kept h.own hg
  have h2 := hp.kept h.own hg
  have h3 := h1.out_set v'
  refine ⟨⟨h3.md, h3.rs, h3.out, fun q hq => ?_, h3.bel⟩, ?_⟩
  · rcases List.mem_append.1 hq with hq | hq
    · exact h3.leaf q hq
    · obtain rfl : q = p := by simpa using hq
      exact h2.other h1.out (by decide) (by decide) (by decide) 1 v'
  · have : OwnN X' w.heap.size v' (l ++ [p]) := by
      unfold OwnN
      have e : allCells (l ++ [p]) = allCells l ++ ndCells p := by simp [allCells]
      rw [e, List.length_append, List.length_singleton]
      exact hown
    exact own_other this h1.out (by decide) 1 v'
end
def markNd : List Value := [.int .i64 (-7), .string ByteArray.empty, .int .i64 0, .string ByteArray.empty, .slice none 0 0, .slice none 0 0, .slice none 0 0]
/-- a model lent: its nodes in own memory, with marks behind each row -/
structure LentAt (w : World) (B : Nat) (A : Option Addr) (n c : Nat) (nds : List Nd) (l : List (Nd × Leaf)) : Prop where
  nds_ : l.map (·.1) = nds
  len : l.length = n
  leaf : ∀ p ∈ l, LentLeaf w B p.1 p.2
  some_ : A ≠ none
  own : w.ownsRow B 55 7 (.slice A (n + 1) c) (n + 1) (allCells l ++ markNd)
  le : n + 1 ≤ c
  max : c ≤ maxLen
/-- the lists are no longer than a slice that was read can be -/
structure Fits (j : Nat) (nd : Nd) : Prop where
  p : (nd.props.length + j) * 32 ≤ 140737488355328
  k : (nd.kids.length + j) * 8 ≤ 140737488355328
  r : (nd.refs.length + j) * 24 ≤ 140737488355328
end Go.Proofs.YtjjlofaejpnnnaaGreatDoor

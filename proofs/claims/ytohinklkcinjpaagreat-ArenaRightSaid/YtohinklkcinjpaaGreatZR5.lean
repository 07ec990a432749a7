/-
  A REGION THAT DRAWS ITS ORDER, AND ENDS IN OPERATIONS WHOSE ORDER IS FORCED: what comes ahead of them is walked under a condition on the world, what they do is walked behind it. No program stands in it.
  WALKS: what is done at each node: a function value that is called at nodes in document order.
  MEMORY OF THE CALL's OWN: slices that were built, their cells, what they read as; lists that were lent, with a mark behind.
  WALKS: a model lent, with marks in the room behind its lists.
  WALKS: over.
-/
import Derived.Test.YtohinklkcinjpaaGreatZR4
import Derived.WalkKit
import Derived.StillTail
import Derived.Deep.RegionHeld3
import Derived.Deep.DrawnRows
import Derived.Deep.AppendLies
import Derived.Maps.AppendAt
import Derived.Deep.RegionLaw
import Derived.Deep.DeepCutAuto
import Derived.Deep.DeepMust
namespace Go.Proofs.YtohinklkcinjpaaGreat
open Go Go.RowKit
set_option linter.unusedVariables false
/-- Q, but K where the region goes on -/
def tailQ (Q : Exit → Act → World → Prop) (K : Act → World → Prop) : Exit → Act → World → Prop
  | .normal, a, w => K a w
  | e, a, w => Q e a w
section
variable {P : Program} {Q : Exit → Act → World → Prop} {K : Act → World → Prop} {md : Region.Mode} {S : World → Prop}
theorem lets_tail (h : LetsOut (tailQ Q K)) : LetsOut Q := h
theorem oper_tail {o : Oper} {a : Act} {w : World} {next : Act → World → Prop} (h : Oper.wp P o a w next (tailQ Q K)) : Oper.wp P o a w next Q := by
  unfold Oper.wp at *
  generalize (execOp a.eval o).run P w = r at *
  cases r with
  | ok n w' =>
    cases n <;> simp only [Oper.upon] at h ⊢ <;>
      first
        | exact h
        | exact Calls.mono h (fun e w'' he => by cases e <;> exact he)
  | halt x w' => cases x <;> simp only [Oper.upon] at h ⊢ <;> exact h
/-- each operation ahead of number n is asked for whatever comes, and waits for earlier ones alone -/
def aheadB (md : Region.Mode) (ops : Array Oper) (n : Nat) : Bool :=
  (List.range n).all fun j => match ops[j]? with
    | some o => o.guard.isNone && o.after.all fun e => !Region.binds md e || decide (e.on < j)
    | none => false
theorem aheadB_spec {ops : Array Oper} {n : Nat} (h : aheadB md ops n = true) {j : Nat} (hj : j < n) : ∃ o, ops[j]? = some o ∧ o.guard = none ∧ ∀ e ∈ o.after, Region.binds md e = true → e.on < j := by
  have h1 := List.all_eq_true.1 h j (List.mem_range.2 hj)
  cases ho : ops[j]? with
  | none => simp [ho] at h1
  | some o =>
    rw [ho] at h1
    simp only [Bool.and_eq_true, Option.isNone_iff_eq_none] at h1
    refine ⟨o, rfl, h1.1, fun e he hb => ?_⟩
    have := Array.all_eq_true_iff_forall_mem.1 h1.2 e he
    rw [hb] at this
    simpa using this
theorem wpAny_more {ops : Array Oper} {listed : Array Bool} : ∀ (f : Nat) (listed : Array Bool) (a : Act) (w : World), wpAny P md ops Q f listed a w → wpAny P md ops Q (f + 1) listed a w
  | 0, _, _, _, h => ⟨fun _ => h.2, fun i hi => by rw [h.1] at hi; cases hi⟩
  | f + 1, _, _, _, h => ⟨h.1, fun i hi => wpOp_mono (fun a' w' h' => wpAny_more (listed := listed) f _ a' w' h') (h.2 i hi)⟩
theorem wpAny_more' {ops : Array Oper} {listed : Array Bool} {a : Act} {w : World} {g : Nat} (h : wpAny P md ops Q g listed a w) : ∀ f, wpAny P md ops Q (f + g) listed a w
  | 0 => by rw [Nat.zero_add]; exact h
  | f + 1 => by rw [show f + 1 + g = (f + g) + 1 from by omega]; exact wpAny_more (listed := listed) _ _ _ _ (wpAny_more' h f)
variable {hops : Array Oper} {ops : Array Oper} {n g : Nat}
theorem getD_app {L R : Array Bool} {j : Nat} {d : Bool} (hj : j < L.size) : (L ++ R).getD j d = L.getD j d := by
  simp [Array.getD_eq_getD_getElem?, Array.getElem?_append_left hj]
theorem ready_head (hs : hops.size = n) (hh : ∀ j, j < n → hops[j]? = ops[j]?) (hB : aheadB md ops n = true) {L R : Array Bool} (hL : L.size = n) {j : Nat} (hj : j < n) :
    j ∈ Region.ready md ops (L ++ R) ↔ j ∈ Region.ready md hops L := by
  rw [mem_ready, mem_ready, hh j hj, getD_app (by omega)]
  obtain ⟨o, ho, _, hd⟩ := aheadB_spec hB hj
  refine and_congr_right fun _ => ?_
  refine exists_congr fun o' => and_congr_right fun ho' => forall_congr' fun e => forall_congr' fun he => forall_congr' fun hb => ?_
  have : o' = o := Option.some.inj (ho'.symm.trans ho)
  subst this
  rw [getD_app (by have := hd e he hb; omega)]
theorem some_ready (hs : hops.size = n) (hh : ∀ j, j < n → hops[j]? = ops[j]?) (hB : aheadB md ops n = true) {L : Array Bool} (hL : L.size = n) : ∀ (j : Nat), j < n → L.getD j true = false → ∃ i, i < n ∧ i ∈ Region.ready md hops L := by
  intro j
  induction j using Nat.strongRecOn with
  | _ j ih =>
    intro hj hun
    obtain ⟨o, ho, _, hd⟩ := aheadB_spec hB hj
    by_cases h : ∃ e ∈ o.after, Region.binds md e = true ∧ L.getD e.on false = false
    · obtain ⟨e, he, hb, hl⟩ := h
      have hlt := hd e he hb
      exact ih e.on hlt (by omega) (getD_in (by omega) hl)
    · refine ⟨j, hj, mem_ready.2 ⟨hun, o, by rw [hh j hj]; exact ho, fun e he hb => ?_⟩⟩
      cases hl : L.getD e.on false with
      | true => rfl
      | false => exact absurd ⟨e, he, hb, hl⟩ h
theorem op_head (hh : ∀ j, j < n → hops[j]? = ops[j]?) (hB : aheadB md ops n = true) {i : Nat} (hi : i < n) {K1 K2 : Act → World → Prop} {a : Act} {w : World} (hK : ∀ a w, K1 a w → K2 a w)
    (h : wpOp P hops (tailQ Q K) i K1 a w) : wpOp P ops Q i K2 a w := by
  obtain ⟨o, ho, hg, _⟩ := aheadB_spec hB hi
  unfold wpOp at *
  rw [hh i hi] at h
  simp only [ho] at h ⊢
  have hw : ∀ y, Region.wanted o y = true := fun y => by simp [Region.wanted, hg]
  rw [hw, if_pos rfl] at h ⊢
  exact h.imp (fun h => oper_tail (Oper.wp_mono hK h)) (fun h => ⟨h.1, lets_tail h.2⟩)
theorem head_tail {l : List Oper} (hs : hops.size = n) (hh : ∀ j, j < n → hops[j]? = ops[j]?) (hB : aheadB md ops n = true) (hsk : Region.sinkB md ops n = true) (hch : Region.chainB md ops n = true) (hn : n < ops.size)
    (hl : ∀ j, l[j]? = ops[n + j]?) (hseq : Region.seqB md ops l.length n (Array.replicate n true ++ Array.replicate l.length false) = true) (hsize : ops.size = n + l.length) :
    ∀ (fuel : Nat) (L : Array Bool) (a : Act) (w : World), L.size = n → HeadInv md ops n (L ++ Array.replicate l.length false) →
      wpAnyH P md hops (tailQ Q (wpList P ops Q l)) S fuel L a w → wpAny P md ops Q (fuel + l.length) (L ++ Array.replicate l.length false) a w := by
  intro fuel
  induction fuel with
  | zero =>
    intro L a w hL inv h
    have hall : ∀ j, j < n → L.getD j true = true := fun j hj => by
      cases hx : L.getD j true with
      | true => rfl
      | false =>
        obtain ⟨i, _, hi⟩ := some_ready hs hh hB hL j hj hx
        rw [h.1] at hi; cases hi
    have hLe : L = Array.replicate n true := by
      refine Array.ext (by simp [hL]) fun j h1 h2 => ?_
      have := hall j (by omega)
      rw [Array.getElem_replicate]
      simpa [h1] using this
    rw [Nat.zero_add, hLe]
    exact wpAny_of_seq l n _ a w hl hseq h.2
  | succ fuel ih =>
    intro L a w hL inv h
    by_cases hun : ∃ j, j < n ∧ L.getD j true = false
    · obtain ⟨j, hj, hx⟩ := hun
      obtain ⟨i, hin, hi⟩ := some_ready hs hh hB hL j hj hx
      have hif := (ready_head (R := Array.replicate l.length false) hs hh hB hL hin).2 hi
      rw [show fuel + 1 + l.length = (fuel + l.length) + 1 from by omega]
      refine ⟨fun h0 => (by rw [h0] at hif; cases hif), fun k hk => ?_⟩
      have hkn : k < n := by
        rcases Nat.lt_or_ge k n with h | h
        · exact h
        · exact absurd hk (tail_waits hsk hch hn inv _ j rfl hj (by rw [getD_app (by omega)]; exact hx) k h)
      have hkh := (ready_head hs hh hB hL hkn).1 hk
      refine op_head hh hB hkn (fun a' w' h' => ?_) (h.2 k hkh)
      have e : (L ++ Array.replicate l.length false).setIfInBounds k true = L.setIfInBounds k true ++ Array.replicate l.length false := by
        rw [Array.setIfInBounds_append_left (by omega)]
      rw [e]
      exact ih _ a' w' (by simpa using hL) (by rw [← e]; exact inv.set hk hkn) h'.2
    · have hall : ∀ j, j < n → L.getD j true = true := fun j hj => by
        cases hx : L.getD j true with
        | true => rfl
        | false => exact absurd ⟨j, hj, hx⟩ hun
      have hLe : L = Array.replicate n true := by
        refine Array.ext (by simp [hL]) fun j h1 h2 => ?_
        have := hall j (by omega)
        rw [Array.getElem_replicate]
        simpa [h1] using this
      have hr0 : Region.ready md hops L = [] := by
        rcases hx : Region.ready md hops L with _ | ⟨i, rs⟩
        · rfl
        · have hi : i ∈ Region.ready md hops L := by rw [hx]; exact List.mem_cons_self
          obtain ⟨h1, o, ho, _⟩ := mem_ready.1 hi
          have hin : i < n := by rw [← hs]; exact (Array.getElem?_eq_some_iff.1 ho).1
          rw [hall i hin] at h1; cases h1
      refine wpAny_more' ?_ (fuel + 1)
      rw [hLe]
      exact wpAny_of_seq l n _ a w hl hseq (h.1 hr0)
/-- what the kernel looks at -/
def tailB (ops : Array Oper) (n : Nat) : Bool :=
  aheadB .any ops n && Region.sinkB .any ops n && Region.chainB .any ops n && decide (n < ops.size) && Region.seqB .any ops (ops.size - n) n (Array.replicate n true ++ Array.replicate (ops.size - n) false)
/-- **the beginning**: n operations in whatever order, under S; then the others as they stand -/
theorem wp_region_held_tail {id : Nat} {a : Act} {w : World} {l : List Oper} (n : Nat) (S : World → Prop) (hm : P.follows .mixedOrders = true) (hB : tailB l.toArray n = true) (hS : S w.drew)
    (h : S w.drew → wpAnyH P .any (l.take n).toArray (tailQ Q (wpList P l.toArray Q (l.drop n))) S n (Array.replicate n false) a w.drew) : (Code.region id l.toArray true).wp P Q a w := by
  simp only [tailB, Bool.and_eq_true, decide_eq_true_eq] at hB
  obtain ⟨⟨⟨⟨h1, h2⟩, h3⟩, h4⟩, h5⟩ := hB
  have hn : n < l.length := by simpa using h4
  have hdl : l.toArray.size - n = (l.drop n).length := by simp
  have hsz : l.toArray.size = n + (l.drop n).length := by simp; omega
  refine wp_region_any hm ?_
  have := head_tail (P := P) (Q := Q) (S := S) (hops := (l.take n).toArray) (ops := l.toArray) (n := n) (md := .any) (l := l.drop n) (by simp; omega) (fun j hj => by simp [hj]) h1 h2 h3 h4 (fun j => by simp [List.getElem?_drop]) (by rw [← hdl]; exact h5) hsz
    n (Array.replicate n false) a w.drew (by simp) ?_ (h hS)
  · rw [← hsz] at this
    have e : Array.replicate n false ++ Array.replicate (l.drop n).length false = Array.replicate l.toArray.size false := by
      rw [Array.replicate_append_replicate, ← hsz]
    rw [e] at this
    exact this
  · refine ⟨by simp; omega, fun j oj _ hl => ?_, fun t ht ht' => ?_⟩
    · rw [Array.replicate_append_replicate, getD_replicate_false] at hl; cases hl
    · rw [Array.replicate_append_replicate]
      exact getD_in (by rw [← hsz]; simpa using ht') (getD_replicate_false _ _)
end
end Go.Proofs.YtohinklkcinjpaaGreat
namespace Go.Proofs.YtohinklkcinjpaaGreat
open Go Go.RowKit Go.Sort
set_option linter.unusedVariables false
attribute [local go_sem ↓] Go.wp_at_zero Go.wp_at_succ
theorem below_drew1 (w : World) : Below w.heap.size w w.drew := ⟨rfl, rfl, rfl, Nat.le_refl _, fun _ _ => rfl⟩
/-- numbers in memory that is left alone: it was there at w0, and is not the block g0 -/
def RowF (w0 : World) (g0 : Nat) (A : Option Addr) (n c : Nat) (ids : List Int) : Prop :=
  ids.length = n ∧ n ≤ c ∧ c ≤ maxLen ∧ (0 < n → ∃ b o, A = some ⟨b, o, none⟩ ∧ b < w0.heap.size ∧ b ≠ g0 ∧ ∀ j u, (intCells ids)[j]? = some u → w0.cell? ⟨b, o + j, none⟩ = some u)
theorem RowF.of {w0 : World} {g0 lo hi n c : Nat} {A : Option Addr} {ids : List Int} (h : Row w0 lo hi 1 A n c (intCells ids)) (hh : hi ≤ w0.heap.size) (hg : g0 < lo ∨ hi ≤ g0) : RowF w0 g0 A n c ids := by
  refine ⟨by have := h.1; rw [intCells_length] at this; omega, h.2.1, h.2.2.1, fun hn => ?_⟩
  obtain ⟨b, o, e, h1, h2, hc⟩ := h.2.2.2 hn
  exact ⟨b, o, e, by omega, by omega, hc⟩
/-- blocks of other types stay -/
def Keeps (X X' : World) : Prop := X.heap.size ≤ X'.heap.size ∧ ∀ g t cs, t ≠ 3 → t ≠ 33 → Blk X g t cs → Blk X' g t cs
theorem Keeps.of {X X' : World} (h : Below X.heap.size X X') : Keeps X X' := ⟨h.size, fun g t cs _ _ hb => hb.after h⟩
theorem Keeps.trans {X X' X'' : World} (h : Keeps X X') (h' : Keeps X' X'') : Keeps X X'' := ⟨Nat.le_trans h.1 h'.1, fun g t cs h1 h2 hb => h'.2 g t cs h1 h2 (h.2 g t cs h1 h2 hb)⟩
/-- a function value that is called at nodes: what holds of the world behind the nodes so far -/
structure Visit (w0 : World) (g0 M : Nat) (A : Option Addr) (nds : List Nd) (F : FuncId) (caps : Array Value) (Inv : World → List (Int × Nat) → Prop) : Prop where
  enters : ∀ args w, Sem.run Tryz.prog (callFunc F args) w = .ok (.enter F args) w
  grown : ∀ X l, Inv X l → w0.grownBy X (some g0)
  after : ∀ X X' l, Inv X l → Below X.heap.size X X' → Inv X' l
  call : ∀ X l (i : Nat) nd (d : Nat) b o, Inv X l → l.length < M → nds[i]? = some nd → A = some ⟨b, o, none⟩ → d ≤ 65 →
    Calls Tryz.prog F (#[.pointer (some ⟨b, o + i * 7, none⟩), .int .i64 d] ++ caps) X fun e X' => e = .returned (.tuple #[]) ∧ Inv X' (l ++ [(nd.id, d)]) ∧ Keeps X X'
/-- .. and the boxes of the walk -/
structure OV (next : Int) (A : Option Addr) (n c : Nat) (g1 g2 g3 : Nat) (F : FuncId) (caps : Array Value) (Inv : World → List (Int × Nat) → Prop) (l : List (Int × Nat)) (X : World) : Prop where
  inv : Inv X l
  m : Blk X g1 26 #[.int .i64 next, .slice A n c]
  v : Blk X g2 68 #[.func (.func F) #[] caps]
  d : Blk X g3 101 #[.func (.func 69) #[] #[.pointer (some ⟨g1, 0, none⟩), .pointer (some ⟨g2, 0, none⟩), .pointer (some ⟨g3, 0, none⟩)]]
section
variable {w0 : World} {g0 M : Nat} {A : Option Addr} {nds : List Nd} {F : FuncId} {caps : Array Value} {Inv : World → List (Int × Nat) → Prop} {next : Int} {n c g1 g2 g3 : Nat} {l : List (Int × Nat)} {X X' : World}
theorem OV.after (V : Visit w0 g0 M A nds F caps Inv) (h : OV next A n c g1 g2 g3 F caps Inv l X) (hb : Below X.heap.size X X') : OV next A n c g1 g2 g3 F caps Inv l X' :=
  ⟨V.after _ _ _ h.inv hb, h.m.after hb, h.v.after hb, h.d.after hb⟩
theorem OV.step {l' : List (Int × Nat)} (h : OV next A n c g1 g2 g3 F caps Inv l X) (hi : Inv X' l') (hk : Keeps X X') : OV next A n c g1 g2 g3 F caps Inv l' X' :=
  ⟨hi, hk.2 _ _ _ (by decide) (by decide) h.m, hk.2 _ _ _ (by decide) (by decide) h.v, hk.2 _ _ _ (by decide) (by decide) h.d⟩
theorem grown_cell {b o : Nat} (h : w0.grownBy X (some g0)) (hb : b < w0.heap.size) (hne : b ≠ g0) : X.cell? ⟨b, o, none⟩ = w0.cell? ⟨b, o, none⟩ := only_cell h hb hne
theorem grown_nodes {lo hi : Nat} (h : w0.grownBy X (some g0)) (hn : NodesIn w0 lo hi A n c nds) (hh : hi ≤ w0.heap.size) (hg : hi ≤ g0) : NodesIn X lo hi A n c nds :=
  hn.keep fun b o hb => only_cell h (by omega) (by omega)
end
set_option maxRecDepth 100000 in
set_option maxHeartbeats 3200000 in
theorem down_any (w0 : World) (hi g0 M : Nat) (next : Int) (A : Option Addr) (n c : Nat) (nds : List Nd) (F : FuncId) (caps : Array Value) (Inv : World → List (Int × Nat) → Prop) (V : Visit w0 g0 M A nds F caps Inv)
    (hN : NodesIn w0 0 hi A n c nds) (hh : hi ≤ w0.heap.size) (hg : hi ≤ g0) (hr : Rise nds) (hn : n ≤ 4096) (g1 g2 g3 : Nat) : ∀ (f : Nat) (X : World) (l : List (Int × Nat)) (ids : List Int) (A' : Option Addr) (n' c' d : Nat),
    OV next A n c g1 g2 g3 F caps Inv l X → OkF nds f ids → RowF w0 g0 A' n' c' ids → l.length + (pre nds f d ids).length ≤ M → d + f ≤ 66 →
    Calls Tryz.prog 69 #[.slice A' n' c', .int .i64 d, .pointer (some ⟨g1, 0, none⟩), .pointer (some ⟨g2, 0, none⟩), .pointer (some ⟨g3, 0, none⟩)] X
      fun e X' => e = .returned (.tuple #[]) ∧ OV next A n c g1 g2 g3 F caps Inv (l ++ pre nds f d ids) X' := by
  intro f
  induction f using Nat.strongRecOn with
  | _ f ih =>
  intro X l ids A' n' c' d hO hok hrow hM hd
  have hlen := hrow.1
  have hnc' := hrow.2.1
  have hc' := hrow.2.2.1
  have hrw := hrow.2.2.2
  unfold maxLen at hc'
  have HLEN := Lib.hid hlen
  have HOK := Lib.hid hok
  have HRW := Lib.hid hrw
  have HO0 := Lib.hid hO
  have HIHs := Lib.hid ih
  have HM := Lib.hid hM
  have hen := V.enters
  have HV := Lib.hid V
  have HNN := Lib.hid hN
  clear hlen hok hrw hrow hO ih hM V hN
  go_enter Tryz.func69, Tryz.ntmps69
  go_wp2_with fail
  go_loopw [12] (fun i wr => ∃ k : Nat, k ≤ n' ∧ i = .int .i64 k ∧ OV next A n c g1 g2 g3 F caps Inv (l ++ pre nds f d (ids.take k)) wr) (fun i _ => n' - (intOf i).toNat)
  case atStart => exact ⟨0, Nat.zero_le _, rfl, by rw [List.take_zero, pre_nil, List.append_nil]; exact HO0.out⟩
  case round =>
    obtain ⟨k, hk, rfl, hv⟩ := hrel
    rename World => wr
    have HVr := Lib.hid hv
    clear hv
    by_cases hlt : k < n'
    · obtain ⟨x, hx⟩ : ∃ x, ids[k]? = some x := ⟨ids[k]'(by have := HLEN.out; omega), List.getElem?_eq_getElem _⟩
      have hxm := List.mem_of_getElem? hx
      obtain ⟨f', rfl⟩ : ∃ f', f = f' + 1 := by
        cases f with
        | zero => have := HOK.out; rw [OkF] at this; rw [this] at hxm; cases hxm
        | succ f' => exact ⟨f', rfl⟩
      obtain ⟨⟨nd, hnd⟩, hokk⟩ := HOK.out x hxm
      rw [kidsV_of hnd] at hokk
      obtain ⟨i, hix, hgi, hie⟩ := ndOf_some hnd
      have hin := ixOf_lt hix
      rw [HNN.out.1] at hin
      obtain ⟨b, o, hA, _, hb, Vl, hVl⟩ := HNN.out.all (by omega)
      have hat := (hVl i nd hgi).1.c5
      have hlf := (hVl i nd hgi).2
      generalize Vl i = L at hat hlf
      obtain ⟨_, ⟨Ak, nk, ck⟩, _⟩ := L
      have hkrow : RowF w0 g0 Ak nk ck nd.kids := RowF.of hlf.k hh (.inr hg)
      obtain ⟨bi, oi, rfl, hbi, hbig, hcell⟩ := HRW.out (by omega)
      have hkc := (grown_cell (HV.out.grown _ _ HVr.out.inv) hbi hbig).trans (hcell k _ (intCells_get hx))
      have htk : ids.take (k + 1) = ids.take k ++ [x] := by rw [List.take_add_one, hx]; rfl
      have hpr : pre nds (f' + 1) d (ids.take (k + 1)) = pre nds (f' + 1) d (ids.take k) ++ [(nd.id, d)] ++ pre nds f' (d + 1) nd.kids := by
        rw [htk, pre_append, pre_cons, pre_nil, List.append_nil, kidsV_of hnd, hie]; simp
      have hprl : (pre nds (f' + 1) d (ids.take (k + 1))).length ≤ (pre nds (f' + 1) d ids).length := by
        conv => rhs; rw [← List.take_append_drop (k + 1) ids]
        rw [pre_append, List.length_append]; omega
      have hll := hprl
      rw [hpr] at hll
      simp only [List.length_append, List.length_singleton] at hll
      have hMM := HM.out
      subst hA
      have c0 := HVr.out.m.cell 0
      have c1 := HVr.out.m.cell 1
      simp at c0 c1
      have HNo := Lib.hid (node_any wr hi next x (some ⟨b, o, none⟩) n c nds (grown_nodes (HV.out.grown _ _ HVr.out.inv) HNN.out hh hg) (Nat.le_trans hh (HV.out.grown _ _ HVr.out.inv).size) hr hn (.pointer (some ⟨b, o + i * 7, none⟩)) (by rw [hix]; exact ⟨b, o, rfl, rfl⟩))
      have HCA : Hid (∀ Y, OV next (some ⟨b, o, none⟩) n c g1 g2 g3 F caps Inv (l ++ pre nds (f' + 1) d (ids.take k)) Y → Calls Tryz.prog F (#[.pointer (some ⟨b, o + i * 7, none⟩), .int .i64 d] ++ caps) Y fun e Y' => e = .returned (.tuple #[]) ∧ OV next (some ⟨b, o, none⟩) n c g1 g2 g3 F caps Inv (l ++ pre nds (f' + 1) d (ids.take k) ++ [(nd.id, d)]) Y') := Lib.hid fun Y hY =>
        (HV.out.call Y _ i nd d b o hY.inv (by simp only [List.length_append]; omega) hgi rfl (by omega)).mono fun e Y' ⟨h1, h2, h3⟩ => ⟨h1, hY.step h2 h3⟩
      have HIH : Hid (∀ (Y : World) (l' : List (Int × Nat)), OV next (some ⟨b, o, none⟩) n c g1 g2 g3 F caps Inv (l ++ pre nds (f' + 1) d (ids.take k) ++ [(nd.id, d)]) Y → Calls Tryz.prog 69 #[.slice Ak nk ck, .int .i64 (d + 1), .pointer (some ⟨g1, 0, none⟩), .pointer (some ⟨g2, 0, none⟩), .pointer (some ⟨g3, 0, none⟩)] Y
          fun e X' => e = .returned (.tuple #[]) ∧ OV next (some ⟨b, o, none⟩) n c g1 g2 g3 F caps Inv (l ++ pre nds (f' + 1) d (ids.take k) ++ [(nd.id, d)] ++ pre nds f' (d + 1) nd.kids) X') := Lib.hid fun Y _ hY => by
        have := HIHs.out f' (by omega) Y _ nd.kids Ak nk ck (d + 1) hY hokk hkrow (by simp only [List.length_append, List.length_singleton]; omega) (by omega)
        rw [show ((d + 1 : Nat) : Int) = (d : Int) + 1 from by omega] at this
        exact this
      have HSof : Hid (∀ Y l', OV next (some ⟨b, o, none⟩) n c g1 g2 g3 F caps Inv l' Y → Y.cell? ⟨g3, 0, none⟩ = some (.func (.func 69) #[] #[.pointer (some ⟨g1, 0, none⟩), .pointer (some ⟨g2, 0, none⟩), .pointer (some ⟨g3, 0, none⟩)]) ∧ Y.cell? ⟨b, o + i * 7 + 5, none⟩ = some (.slice Ak nk ck)) := Lib.hid fun Y l' hY => ⟨(hY.d.cell 0).trans rfl, (grown_cell (HV.out.grown _ _ hY.inv) (by omega) (by omega)).trans hat⟩
      have HPR : Hid (l ++ pre nds (f' + 1) d (ids.take (k + 1)) = l ++ pre nds (f' + 1) d (ids.take k) ++ [(nd.id, d)] ++ pre nds f' (d + 1) nd.kids) := Lib.hid (by rw [hpr]; simp only [List.append_assoc])
      have hwr : IntKind.i64.wrap ((d : Int) + 1) = (d : Int) + 1 := IntWalk.i64_in _ (by omega)
      clear hx hxm hnd hokk hix hgi hie hat hlf hkrow hcell htk hpr hprl hll hMM hVl HM HIHs HOK HRW
      go_wp2_with (first | (go_at_call 42; go_must (refine HNo.out.mono ?_; rintro e w2 ⟨rfl, hb2⟩; have hv2 := HVr.out.after HV.out hb2; have v2 := hv2.v.cell 0; simp at v2; have HV2 := Lib.hid hv2; clear hb2 hv2)) | (with_reducible refine (HCA.out _ HV2.out).mono ?_; go_must (rintro e wr3 ⟨rfl, hv4⟩; have HV4 := Lib.hid hv4; clear hv4)))
      refine wp_region_held_tail 7 (fun w' => w'.cell? ⟨g3, 0, none⟩ = some (.func (.func 69) #[] #[.pointer (some ⟨g1, 0, none⟩), .pointer (some ⟨g2, 0, none⟩), .pointer (some ⟨g3, 0, none⟩)]) ∧ w'.cell? ⟨b, o + i * 7 + 5, none⟩ = some (.slice Ak nk ck)) (by kernel_rfl) (by kernel_rfl) ?hSt (fun hHeld => ?qt0)
      case hSt => exact HSof.out _ _ (HV4.out.after HV.out (below_drew1 _))
      case qt0 =>
        simp only [List.take_succ_cons, List.take_zero, List.drop_succ_cons, List.drop_zero]
        refine wpAnyH_take (i := 0) (v := (.func (.func 69) #[] #[.pointer (some ⟨g1, 0, none⟩), .pointer (some ⟨g2, 0, none⟩), .pointer (some ⟨g3, 0, none⟩)])) rfl (by kernel_rfl) (by kernel_rfl) (by kernel_rfl) (fun _ _ _ h => h) (Or.inl ⟨by rfl, ?yt_1⟩) (by assumption) ?qt_1
        case yt_1 => (intro w hSw; (try dsimp only at hSw); go_simp)
        case qt_1 =>
          (try simp only [Act.put]); (try simp only [List.setIfInBounds_toArray])
          refine wpAnyH_take (i := 1) (v := (.pointer (some ⟨b, o + i * 7, none⟩))) rfl (by kernel_rfl) (by kernel_rfl) (by kernel_rfl) (fun _ _ _ h => h) (Or.inl ⟨by rfl, ?yt_2⟩) (by assumption) ?qt_2
          case yt_2 => (intro w hSw; (try dsimp only at hSw); go_simp)
          case qt_2 =>
            (try simp only [Act.put]); (try simp only [List.setIfInBounds_toArray])
            refine wpAnyH_take (i := 2) (v := (.pointer (some ⟨b, o + i * 7, none⟩))) rfl (by kernel_rfl) (by kernel_rfl) (by kernel_rfl) (fun _ _ _ h => h) (Or.inl ⟨by rfl, ?yt_3⟩) (by assumption) ?qt_3
            case yt_3 => (intro w hSw; (try dsimp only at hSw); go_simp)
            case qt_3 =>
              (try simp only [Act.put]); (try simp only [List.setIfInBounds_toArray])
              refine wpAnyH_take (i := 3) (v := (.pointer (some ⟨b, o + i * 7 + 5, none⟩))) rfl (by kernel_rfl) (by kernel_rfl) (by kernel_rfl) (fun _ _ _ h => h) (Or.inl ⟨by rfl, ?yt_4⟩) (by assumption) ?qt_4
              case yt_4 => (intro w hSw; (try dsimp only at hSw); go_simp)
              case qt_4 =>
                (try simp only [Act.put]); (try simp only [List.setIfInBounds_toArray])
                refine wpAnyH_take (i := 4) (v := (.slice Ak nk ck)) rfl (by kernel_rfl) (by kernel_rfl) (by kernel_rfl) (fun _ _ _ h => h) (Or.inl ⟨by rfl, ?yt_5⟩) (by assumption) ?qt_5
                case yt_5 => (intro w hSw; (try dsimp only at hSw); go_simp)
                case qt_5 =>
                  (try simp only [Act.put]); (try simp only [List.setIfInBounds_toArray])
                  refine wpAnyH_take (i := 5) (v := (.int .i64 d)) rfl (by kernel_rfl) (by kernel_rfl) (by kernel_rfl) (fun _ _ _ h => h) (Or.inl ⟨by rfl, ?yt_6⟩) (by assumption) ?qt_6
                  case yt_6 => (intro w hSw; (try dsimp only at hSw); go_simp)
                  case qt_6 =>
                    (try simp only [Act.put]); (try simp only [List.setIfInBounds_toArray])
                    refine wpAnyH_take (i := 6) (v := (.int .i64 (d + 1))) rfl (by kernel_rfl) (by kernel_rfl) (by kernel_rfl) (fun _ _ _ h => h) (Or.inl ⟨by rfl, ?yt_7⟩) (by assumption) ?qt_7
                    case yt_7 => (intro w hSw; (try dsimp only at hSw); go_simp)
                    case qt_7 =>
                      (try simp only [Act.put]); (try simp only [List.setIfInBounds_toArray])
                      refine wpAnyH_done (by kernel_rfl) ?_ _
                      obtain ⟨hs0, hs1⟩ := hHeld
                      show wpList _ _ _ _ _ _
                      go_wp2_with (go_at_call 69; go_must (refine (HIH.out _ [] (HV4.out.after HV.out (below_drew1 _))).mono ?_; rintro e w5 ⟨rfl, hv5⟩; have HV5 := Lib.hid hv5; clear hv5))
                      go_roundw
                      case measure => simp only [intOf]; omega
                      case rel => exact ⟨k + 1, by omega, by simp, by rw [HPR.out]; exact HV5.out⟩
    · have hkn : k = n' := by omega
      subst hkn
      have HF : Hid (ids.take k = ids) := Lib.hid (List.take_of_length_le (by have := HLEN.out; omega))
      go_wp2_with fail
      (try simp only [Exit.inBlock, Exit.then])
      first | refine bodyPost_ret (results_none (by kernel_rfl) _ _ _) rfl ?_ | refine bodyPost_end (results_none (by kernel_rfl) _ _ _) rfl ?_
      rw [HF.out] at HVr
      exact ⟨rfl, HVr.out⟩
end Go.Proofs.YtohinklkcinjpaaGreat
namespace Go.Proofs.YtohinklkcinjpaaGreat
open Go Go.RowKit Go.Sort
set_option linter.unusedVariables false
theorem flatN_get {α : Type} {f : α → List Value} {s : Nat} (hs : ∀ a, (f a).length = s) (l : List α) : ∀ (i : Nat) (p : α), l[i]? = some p → ∀ j, j < s → (l.flatMap f)[i * s + j]? = (f p)[j]? := by
  induction l with
  | nil => intro i p h; simp at h
  | cons q l ih =>
    intro i p h j hj
    have hq := hs q
    rw [List.flatMap_cons]
    match i, h with
    | 0, h =>
      obtain rfl : q = p := by simpa using h
      rw [Nat.zero_mul, Nat.zero_add, List.getElem?_append_left (by omega)]
    | i + 1, h =>
      have := ih i p (by simpa using h) j hj
      rw [Nat.succ_mul, List.getElem?_append_right (by omega), hq]
      rw [show i * s + s + j - s = i * s + j from by omega]
      exact this
theorem flatN_len {α : Type} {f : α → List Value} {s : Nat} (hs : ∀ a, (f a).length = s) (l : List α) : (l.flatMap f).length = l.length * s := by
  induction l with
  | nil => simp
  | cons q l ih => rw [List.flatMap_cons, List.length_append, ih, hs, List.length_cons, Nat.succ_mul]; omega
/-- a node's seven cells -/
def ndCells (p : Nd × Leaf) : List Value := [.int .i64 p.1.id, .string p.1.con, .int .i64 p.1.par, .string p.1.role, .slice p.2.p.A p.2.p.n p.2.p.c, .slice p.2.k.A p.2.k.n p.2.k.c, .slice p.2.r.A p.2.r.n p.2.r.c]
theorem ndCells_len (p : Nd × Leaf) : (ndCells p).length = 7 := rfl
def allCells (l : List (Nd × Leaf)) : List Value := l.flatMap ndCells
theorem allCells_len (l : List (Nd × Leaf)) : (allCells l).length = l.length * 7 := flatN_len ndCells_len l
theorem allCells_one (l : List (Nd × Leaf)) : ∀ u ∈ allCells l, u.oneCell' = true := by
  intro u hu
  obtain ⟨p, _, hp⟩ := List.mem_flatMap.1 hu
  simp only [ndCells, List.mem_cons, List.not_mem_nil, or_false] at hp
  rcases hp with rfl | rfl | rfl | rfl | rfl | rfl | rfl <;> rfl
theorem propCells_one (l : List (ByteArray × ByteArray)) : ∀ u ∈ propCells l, u.oneCell' = true := by
  intro u hu
  obtain ⟨p, _, hp⟩ := List.mem_flatMap.1 hu
  simp only [List.mem_cons, List.not_mem_nil, or_false] at hp
  rcases hp with rfl | rfl <;> rfl
theorem refCells_one (l : List (ByteArray × Int)) : ∀ u ∈ refCells l, u.oneCell' = true := by
  intro u hu
  obtain ⟨p, _, hp⟩ := List.mem_flatMap.1 hu
  simp only [List.mem_cons, List.not_mem_nil, or_false] at hp
  rcases hp with rfl | rfl <;> rfl
theorem intCells_one (l : List Int) : ∀ u ∈ intCells l, u.oneCell' = true := by
  intro u hu
  obtain ⟨p, _, rfl⟩ := List.mem_map.1 hu
  rfl
section
variable {w w' : World} {B : Nat} {e : TypeId} {size n : Nat} {v : Value} {xs : List Value}
/-- an own row reads as a row -/
theorem own_row {A : Option Addr} {c : Nat} (h : w.ownsRow B e size (.slice A n c) n xs) : Row w B w.heap.size size A n c xs := by
  refine ⟨h.1, ?_⟩
  rcases h.2 with ⟨hv, hn⟩ | ⟨g, cap, cur, hv, hb, hg, hn, hm, _, _⟩
  · injection hv with h1 h2 h3
    subst hn
    exact ⟨by omega, by unfold maxLen; omega, fun h => absurd h (by omega)⟩
  · injection hv with h1 h2 h3
    subst h3
    refine ⟨hn, hm, fun h0 => ⟨g, 0, h1, hb, (Array.getElem?_eq_some_iff.1 hg).1, fun j u hu => ?_⟩⟩
    subst h1
    have := World.ownsRow.cells h (g := g) rfl j u hu
    simpa [Addr.add_lit] using this
theorem own_after (h : w.ownsRow B e size v n xs) (hb : Below w.heap.size w w') : w'.ownsRow B e size v n xs := by
  refine ⟨h.1, ?_⟩
  rcases h.2 with hn | ⟨g, cap, cur, rfl, hbg, hgg, rest⟩
  · exact .inl hn
  · refine .inr ⟨g, cap, cur, rfl, hbg, ?_, rest⟩
    rw [hb.block g (Array.getElem?_eq_some_iff.1 hgg).1]
    exact hgg
/-- .. while a block of another type is written -/
theorem own_other {g : Nat} {t : TypeId} {cs : Array Value} (h : w.ownsRow B e size v n xs) (hg : Blk w g t cs) (hne : e ≠ t) (i : Nat) (u : Value) : (w.setCell ⟨g, i, none⟩ u).ownsRow B e size v n xs := by
  refine ⟨h.1, ?_⟩
  rcases h.2 with hn | ⟨g', cap, cur, rfl, hbg, hgg, rest⟩
  · exact .inl hn
  · refine .inr ⟨g', cap, cur, rfl, hbg, ?_, rest⟩
    have hne' : g' ≠ g := Blk.ne_ (t := e) hgg hg hne
    rw [Below.heap_setCell _ ⟨g, i, none⟩ _ _ hne']
    exact hgg
theorem own_blk_ne {g : Nat} {t : TypeId} {cs : Array Value} (h : w.ownsRow B e size v n xs) (hg : Blk w g t cs) (hne : e ≠ t) : v.ownBlock ≠ some g := by
  rcases h.2 with ⟨rfl, _⟩ | ⟨g', cap, cur, rfl, _, hh, _⟩
  · simp [Value.ownBlock]
  · intro he
    have : g' = g := by simpa [Value.ownBlock] using he
    subst this
    exact Blk.ne_ (t := e) hh hg hne rfl
theorem own_own_ne {B' : Nat} {e' : TypeId} {size' n' : Nat} {v' : Value} {xs' : List Value} (h : w.ownsRow B e size v n xs) (h' : w.ownsRow B' e' size' v' n' xs') (hne : e ≠ e') : v.ownBlock = none ∨ v.ownBlock ≠ v'.ownBlock := by
  rcases h.2 with ⟨rfl, _⟩ | ⟨g, cap, cur, rfl, _, hh, _⟩
  · exact .inl rfl
  · right
    rcases h'.2 with ⟨rfl, _⟩ | ⟨g', cap', cur', rfl, _, hh', _⟩
    · simp [Value.ownBlock]
    · intro he
      have : g = g' := by simpa [Value.ownBlock] using he
      subst this
      exact Blk.ne_ (t := e) hh hh' hne rfl
theorem own_mono {B' : Nat} (h : w.ownsRow B e size v n xs) (hB : B' ≤ B) : w.ownsRow B' e size v n xs := by
  refine ⟨h.1, ?_⟩
  rcases h.2 with hn | ⟨g, cap, cur, hv, hb, rest⟩
  · exact .inl hn
  · exact .inr ⟨g, cap, cur, hv, by omega, rest⟩
/-- the first ones of an own row -/
theorem own_take {A : Option Addr} {c : Nat} {k : Nat} (h : w.ownsRow B e size (.slice A n c) n xs) (hk : k ≤ n) (hA : A ≠ none) : w.ownsRow B e size (.slice A k c) k (xs.take (k * size)) := by
  have hle : k * size ≤ n * size := Nat.mul_le_mul_right _ hk
  refine ⟨by rw [List.length_take, h.1]; omega, ?_⟩
  rcases h.2 with ⟨hv, hn⟩ | ⟨g, cap, cur, hv, hb, hg, hn, hm, hs, ht⟩
  · injection hv with h1; exact absurd h1 hA
  · injection hv with h1 h2 h3
    subst h1 h3
    refine .inr ⟨g, c, cur, rfl, hb, hg, by omega, hm, hs, ?_⟩
    rw [← ht, List.take_take, Nat.min_eq_left hle]
end
/-- a block that is known whole, as a row -/
theorem row_blk {w : World} {g n c size : Nat} {e : TypeId} {fr : Nat × Nat} {cs : Array Value} (hg : w.heap[g]? = some (.cells cs e fr)) (hs : cs.size = n * size) (hn : n ≤ c) (hc : c ≤ maxLen) : Row w g (g + 1) size (some ⟨g, 0, none⟩) n c cs.toList :=
  ⟨by simpa using hs, hn, hc, fun _ => ⟨g, 0, rfl, Nat.le_refl _, Nat.lt_succ_self _, fun j u hu => by
    rw [cell_of_row w g (0 + j) cs e fr hg, Nat.zero_add]; simpa using hu⟩⟩
section
variable {P : Program} (w : World)
theorem run_app_nil (base : Nat) (t ty e : TypeId) (i : TypeInfo) (size : Nat) (ht : P.underlying t = some (.slice e)) (hi : P.info? e = some i)
    (v : Value) (n : Nat) (xs : List Value) (hown : w.ownsRow base e size v n xs) (c : Nat) : (Builtin.append_ #[t, t] ty #[v, .slice none 0 c]).run P w = .ok v w := by
  rcases hown.2 with ⟨rfl, rfl⟩ | ⟨g, cap, cur, rfl, _, _, hnc, _⟩
  · simp [Builtin.append_, run_underlying ht, sizeOf, typeInfo, hi, Builtin.lenOf, Builtin.firstCells]
  · simp [Builtin.append_, run_underlying ht, sizeOf, typeInfo, hi, Builtin.lenOf, Builtin.firstCells, hnc, storeCells]
theorem run_app (base : Nat) (t ty e : TypeId) (i : TypeInfo) (z : Value) (size bytes : Nat) (ht : P.underlying t = some (.slice e)) (hi : P.info? e = some i) (hz : i.zero = some z)
    (hsize : i.size = size) (hby : i.bytes = bytes) (hzs : z.cells.size = size) (hsz : 0 < size)
    (v : Value) (n : Nat) (xs : List Value) (hown : w.ownsRow base e size v n xs)
    (lo hi' : Nat) (A : Option Addr) (m c : Nat) (news : List Value) (hr : Row w lo hi' size A m c news) (h1 : ∀ u ∈ news, u.oneCell' = true)
    (h63 : n + m ≤ maxLen) (hbytes : (n + m) * bytes ≤ 140737488355328) (hbase : base ≤ w.heap.size) :
    ∃ v' w', (Builtin.append_ #[t, t] ty #[v, .slice A m c]).run P w = .ok v' w' ∧ w'.ownsRow base e size v' (n + m) (xs ++ news) ∧ w.grownBy w' v.ownBlock ∧
      (v'.ownBlock = v.ownBlock ∨ v'.ownBlock = some w.heap.size) := by
  rcases A with _ | ad
  · have hm : m = 0 := by
      rcases Nat.eq_zero_or_pos m with h0 | h0
      · exact h0
      · obtain ⟨b, o, h, _⟩ := hr.2.2.2 h0
        cases h
    subst hm
    have hn : news = [] := List.eq_nil_of_length_eq_zero (by simpa using hr.1)
    subst hn
    exact ⟨v, w, run_app_nil w base t ty e i size ht hi v n xs hown c, by simpa using hown, World.grownBy.refl w _, .inl rfl⟩
  · have hcells : ∀ j u, news[j]? = some u → w.cell? (ad.add j) = some u := by
      intro j u hu
      rcases Nat.eq_zero_or_pos m with h0 | h0
      · subst h0
        have hn : news = [] := List.eq_nil_of_length_eq_zero (by simpa using hr.1)
        subst hn
        simp at hu
      · obtain ⟨b, o, h, _, _, hc⟩ := hr.2.2.2 h0
        injection h with h
        subst h
        rw [Addr.add_lit]
        exact hc j u hu
    obtain ⟨v', w', hrun, h2, h3, _, h5⟩ := run_append_own_at (P := P) w base t ty e i z size bytes ht hi hz hsize hby hzs hsz v n xs hown ad m c news hr.1 hcells h1 h63 hbytes hbase
    exact ⟨v', w', hrun, h2, h3, h5⟩
theorem wp_app {o : Oper} {a : Act} {K : Act → World → Prop} {Q : Exit → Act → World → Prop} (s x : Operand) (t : TypeId)
    (ho : o.op = .call { callee := .builtin .append, args := #[s, x], argTypes := #[t, t] })
    (base : Nat) (e : TypeId) (i : TypeInfo) (z : Value) (size bytes : Nat) (ht : P.underlying t = some (.slice e)) (hi : P.info? e = some i) (hz : i.zero = some z)
    (hsize : i.size = size) (hby : i.bytes = bytes) (hzs : z.cells.size = size) (hsz : 0 < size)
    (v : Value) (n : Nat) (xs : List Value) (hs : a.eval s = v) (hown : w.ownsRow base e size v n xs)
    (lo hi' : Nat) (A : Option Addr) (m c : Nat) (news : List Value) (hx : a.eval x = .slice A m c) (hr : Row w lo hi' size A m c news) (h1 : ∀ u ∈ news, u.oneCell' = true)
    (h63 : n + m ≤ maxLen) (hbytes : (n + m) * bytes ≤ 140737488355328) (hbase : base ≤ w.heap.size)
    (h : ∀ v' w', w'.ownsRow base e size v' (n + m) (xs ++ news) → w.grownBy w' v.ownBlock → (v'.ownBlock = v.ownBlock ∨ v'.ownBlock = some w.heap.size) → K (a.put o.dst v') w') : o.wp P a w K Q := by
  obtain ⟨v', w', hrun, h2, h3, h4⟩ := run_app (P := P) w base t o.type e i z size bytes ht hi hz hsize hby hzs hsz v n xs hown lo hi' A m c news hr h1 h63 hbytes hbase
  unfold Oper.wp execOp
  simp only [ho, resolve, invoke, builtin, Sem.run_bind, Sem.run_pure, Result.andThen_ok, List.map_toArray, List.map_cons, List.map_nil, hs, hx, hrun]
  exact h v' w' h2 h3 h4
/-- append as the walk takes it, in a plain region -/
theorem wpList_app {ops : Array Oper} {rest : List Oper} {o : Oper} {a : Act} {Q : Exit → Act → World → Prop} (hgd : o.guard = none) (s x : Operand) (t : TypeId)
    (ho : o.op = .call { callee := .builtin .append, args := #[s, x], argTypes := #[t, t] })
    (base : Nat) (e : TypeId) (i : TypeInfo) (z : Value) (size bytes : Nat) (ht : P.underlying t = some (.slice e)) (hi : P.info? e = some i) (hz : i.zero = some z)
    (hsize : i.size = size) (hby : i.bytes = bytes) (hzs : z.cells.size = size) (hsz : 0 < size)
    (v : Value) (n : Nat) (xs : List Value) (hs : a.eval s = v) (hown : w.ownsRow base e size v n xs)
    (lo hi' : Nat) (A : Option Addr) (m c : Nat) (news : List Value) (hx : a.eval x = .slice A m c) (hr : Row w lo hi' size A m c news) (h1 : ∀ u ∈ news, u.oneCell' = true)
    (h63 : n + m ≤ maxLen) (hbytes : (n + m) * bytes ≤ 140737488355328) (hbase : base ≤ w.heap.size)
    (h : ∀ v' w', w'.ownsRow base e size v' (n + m) (xs ++ news) → w.grownBy w' v.ownBlock → (v'.ownBlock = v.ownBlock ∨ v'.ownBlock = some w.heap.size) → wpList P ops Q rest (a.put o.dst v') w') : wpList P ops Q (o :: rest) a w :=
  wpList_plain hgd fun _ hK => wp_app w s x t ho base e i z size bytes ht hi hz hsize hby hzs hsz v n xs hs hown lo hi' A m c news hx hr h1 h63 hbytes hbase fun v' w' h2 h3 h4 => hK _ _ (h v' w' h2 h3 h4)
/-- .. as a step of a region that draws its order -/
theorem step_app {ops : Array Oper} {o : Oper} {a : Act} {K : Act → World → Prop} {Q : Exit → Act → World → Prop} {E : Prop} (hgd : o.guard = none) (s x : Operand) (t : TypeId)
    (ho : o.op = .call { callee := .builtin .append, args := #[s, x], argTypes := #[t, t] })
    (base : Nat) (e : TypeId) (i : TypeInfo) (z : Value) (size bytes : Nat) (ht : P.underlying t = some (.slice e)) (hi : P.info? e = some i) (hz : i.zero = some z)
    (hsize : i.size = size) (hby : i.bytes = bytes) (hzs : z.cells.size = size) (hsz : 0 < size)
    (v : Value) (n : Nat) (xs : List Value) (hs : a.eval s = v) (hown : w.ownsRow base e size v n xs)
    (lo hi' : Nat) (A : Option Addr) (m c : Nat) (news : List Value) (hx : a.eval x = .slice A m c) (hr : Row w lo hi' size A m c news) (h1 : ∀ u ∈ news, u.oneCell' = true)
    (h63 : n + m ≤ maxLen) (hbytes : (n + m) * bytes ≤ 140737488355328) (hbase : base ≤ w.heap.size)
    (h : ∀ v' w', w'.ownsRow base e size v' (n + m) (xs ++ news) → w.grownBy w' v.ownBlock → (v'.ownBlock = v.ownBlock ∨ v'.ownBlock = some w.heap.size) → K (a.put o.dst v') w') :
    if Region.wanted o (yielded ops a.tmps) = true then Oper.wp P o a w K Q else E := by
  have hw : Region.wanted o (yielded ops a.tmps) = true := by simp [Region.wanted, hgd]
  rw [if_pos hw]
  exact wp_app w s x t ho base e i z size bytes ht hi hz hsize hby hzs hsz v n xs hs hown lo hi' A m c news hx hr h1 h63 hbytes hbase h
end
/-- the slice holds these nodes, in memory of the call's own -/
def OwnN (w : World) (B : Nat) (v : Value) (l : List (Nd × Leaf)) : Prop := w.ownsRow B 41 7 v l.length (allCells l)
theorem OwnN.nodesIn {w : World} {B n c : Nat} {A : Option Addr} {l : List (Nd × Leaf)} {lo hi : Nat} (h : OwnN w B (.slice A n c) l) (hn : l.length = n) (hl : ∀ p ∈ l, LeafIn w lo hi p.1 p.2) (hlo : lo ≤ B) (hhi : w.heap.size ≤ hi) : NodesIn w lo hi A n c (l.map (·.1)) := by
  subst hn
  have hr := own_row h
  refine ⟨by simp, hr.2.1, hr.2.2.1, fun h0 => ?_⟩
  obtain ⟨b, o, hA, h1, h2, hc⟩ := hr.2.2.2 h0
  refine ⟨b, o, hA, by omega, by omega, fun i => (l.getD i (l[0]'h0)).2, fun i nd hi' => ?_⟩
  rw [List.getElem?_map] at hi'
  obtain ⟨p, hp, rfl⟩ := Option.map_eq_some_iff.1 hi'
  have hg : l.getD i (l[0]'h0) = p := by rw [List.getD_eq_getElem?_getD, hp]; rfl
  simp only [hg]
  refine ⟨?_, hl p (List.mem_of_getElem? hp)⟩
  have key : ∀ j u, j < 7 → (ndCells p)[j]? = some u → w.cell? ⟨b, o + i * 7 + j, none⟩ = some u := by
    intro j u hj hu
    have := hc (i * 7 + j) u (by unfold allCells; rw [flatN_get ndCells_len l i p hp j hj]; exact hu)
    rwa [Nat.add_assoc]
  exact ⟨key 0 _ (by omega) rfl, key 1 _ (by omega) rfl, key 2 _ (by omega) rfl, key 3 _ (by omega) rfl, key 4 _ (by omega) rfl, key 5 _ (by omega) rfl, key 6 _ (by omega) rfl⟩
end Go.Proofs.YtohinklkcinjpaaGreat
namespace Go.Proofs.YtohinklkcinjpaaGreat
open Go Go.RowKit Go.Sort
set_option linter.unusedVariables false
attribute [local go_sem ↓] Go.wp_at_zero Go.wp_at_succ
theorem propInfo : (Tryz.prog.info? 94).map (fun i => (i.zero, i.size, i.bytes)) = some (some (.agg #[.string ByteArray.empty, .string ByteArray.empty]), 2, 32) := by kernel_rfl
theorem refInfo : (Tryz.prog.info? 60).map (fun i => (i.zero, i.size, i.bytes)) = some (some (.agg #[.string ByteArray.empty, .int .i64 0]), 2, 24) := by kernel_rfl
theorem nodeInfo : (Tryz.prog.info? 41).map (fun i => (i.zero, i.size, i.bytes)) = some (some (.agg #[.int .i64 0, .string ByteArray.empty, .int .i64 0, .string ByteArray.empty, .slice none 0 0, .slice none 0 0, .slice none 0 0]), 7, 120) := by kernel_rfl
def markS : ByteArray := ⟨#[109, 97, 114, 107]⟩
/-- the slice s of n elements holds xs, and behind its end, in its room, the mark -/
def MarkIn (w : World) (B : Nat) (e : TypeId) (size : Nat) (s : Sl) (n : Nat) (xs mark : List Value) : Prop :=
  s.n = n ∧ s.A ≠ none ∧ w.ownsRow B e size (.slice s.A (n + 1) s.c) (n + 1) (xs ++ mark)
theorem MarkIn.after {w w' : World} {B : Nat} {e : TypeId} {size n : Nat} {s : Sl} {xs mark : List Value} (h : MarkIn w B e size s n xs mark) (hb : Below w.heap.size w w') : MarkIn w' B e size s n xs mark := ⟨h.1, h.2.1, own_after h.2.2 hb⟩
theorem MarkIn.other {w : World} {B : Nat} {e : TypeId} {size n : Nat} {s : Sl} {xs mark : List Value} (h : MarkIn w B e size s n xs mark) {g : Nat} {t : TypeId} {cs : Array Value} (hg : Blk w g t cs) (hne : e ≠ t) (i : Nat) (u : Value) : MarkIn (w.setCell ⟨g, i, none⟩ u) B e size s n xs mark := ⟨h.1, h.2.1, own_other h.2.2 hg hne i u⟩
theorem MarkIn.kept {w w' : World} {B : Nat} {e : TypeId} {size n : Nat} {s : Sl} {xs mark : List Value} (h : MarkIn w B e size s n xs mark) {row : Option Nat} (hg : w.grownBy w' row) (hne : Value.ownBlock (.slice s.A (n + 1) s.c) ≠ row) : MarkIn w' B e size s n xs mark := ⟨h.1, h.2.1, World.ownsRow.kept h.2.2 hg (.inr hne)⟩
theorem MarkIn.len {w : World} {B : Nat} {e : TypeId} {size n n' : Nat} {s : Sl} {xs mark : List Value} (h : MarkIn w B e size s n xs mark) (hn : n = n') : MarkIn w B e size s n' xs mark := hn ▸ h
theorem MarkIn.mono {w : World} {B B' : Nat} {e : TypeId} {size n : Nat} {s : Sl} {xs mark : List Value} (h : MarkIn w B e size s n xs mark) (hB : B' ≤ B) : MarkIn w B' e size s n xs mark := ⟨h.1, h.2.1, own_mono h.2.2 hB⟩
theorem MarkIn.ne {w : World} {B : Nat} {e : TypeId} {size n : Nat} {s : Sl} {xs mark : List Value} (h : MarkIn w B e size s n xs mark) {B' : Nat} {e' : TypeId} {size' n' : Nat} {v' : Value} {xs' : List Value} (h' : w.ownsRow B' e' size' v' n' xs') (hne : e ≠ e') : Value.ownBlock (.slice s.A (n + 1) s.c) ≠ v'.ownBlock := by
  rcases own_own_ne h.2.2 h' hne with h0 | h0
  · rcases h.2.2.2 with ⟨_, h1⟩ | ⟨g, cap, cur, hv, _⟩
    · omega
    · rw [hv] at h0; simp [Value.ownBlock] at h0
  · exact h0
structure LentLeaf (w : World) (B : Nat) (nd : Nd) (L : Leaf) : Prop where
  p : MarkIn w B 94 2 L.p nd.props.length (propCells nd.props) [.string markS, .string ⟨#[]⟩]
  k : MarkIn w B 3 1 L.k nd.kids.length (intCells nd.kids) [.int .i64 (-7)]
  r : MarkIn w B 60 2 L.r nd.refs.length (refCells nd.refs) [.string markS, .int .i64 0]
  sz : SzN nd
theorem LentLeaf.after {w w' : World} {B : Nat} {nd : Nd} {L : Leaf} (h : LentLeaf w B nd L) (hb : Below w.heap.size w w') : LentLeaf w' B nd L := ⟨h.p.after hb, h.k.after hb, h.r.after hb, h.sz⟩
theorem LentLeaf.other {w : World} {B : Nat} {nd : Nd} {L : Leaf} (h : LentLeaf w B nd L) {g : Nat} {t : TypeId} {cs : Array Value} (hg : Blk w g t cs) (h1 : 94 ≠ t) (h2 : 3 ≠ t) (h3 : 60 ≠ t) (i : Nat) (u : Value) : LentLeaf (w.setCell ⟨g, i, none⟩ u) B nd L := ⟨h.p.other hg h1 i u, h.k.other hg h2 i u, h.r.other hg h3 i u, h.sz⟩
theorem LentLeaf.kept {w w' : World} {B : Nat} {nd : Nd} {L : Leaf} (h : LentLeaf w B nd L) {B' : Nat} {size' n' : Nat} {v' : Value} {xs' : List Value} (h' : w.ownsRow B' 41 size' v' n' xs') (hg : w.grownBy w' v'.ownBlock) : LentLeaf w' B nd L :=
  ⟨h.p.kept hg (h.p.ne h' (by decide)), h.k.kept hg (h.k.ne h' (by decide)), h.r.kept hg (h.r.ne h' (by decide)), h.sz⟩
theorem Blk.drew {w : World} {g : Nat} {t : TypeId} {cs : Array Value} (h : Blk w g t cs) : Blk w.drew g t cs := h
theorem below_drew {B : Nat} {a w : World} (h : Below B a w) : Below B a w.drew := ⟨h.os, h.tape, h.output, h.size, h.block⟩
theorem below_more {W w' : World} (h : Below W.heap.size W w') (o : Obj) : Below W.heap.size W (w'.alloc o) := h.alloc h.size o
theorem below_grows {W w' w'' : World} (h : Below W.heap.size W w') {v : Value} (hg : w'.grownBy w'' v.ownBlock) {e : TypeId} {size n B : Nat} {xs : List Value} (hown : w'.ownsRow B e size v n xs) (hB : W.heap.size ≤ B) : Below W.heap.size W w'' :=
  h.grown hg h.size (fun k hk => Nat.le_trans hB (World.ownsRow.lt hown k hk).1)
theorem own_slice {w : World} {base n size : Nat} {e : TypeId} {v : Value} {xs : List Value} (h : w.ownsRow base e size v (n + 1) xs) : ∃ G cap, v = .slice (some ⟨G, 0, none⟩) (n + 1) cap ∧ n + 1 ≤ cap ∧ cap ≤ maxLen := by
  obtain ⟨_, h2⟩ := h
  rcases h2 with ⟨_, h0⟩ | ⟨G, cap, cur, rfl, r1, r2, r3, r4, _⟩
  · omega
  · exact ⟨G, cap, rfl, r3, r4⟩
/-- append of one element from a new block -/
theorem step_app_mark {P : Program} (w : World) {ops : Array Oper} {o : Oper} {a : Act} {K : Act → World → Prop} {Q : Exit → Act → World → Prop} {E : Prop} (hgd : o.guard = none) (s x : Operand) (t : TypeId)
    (ho : o.op = .call { callee := .builtin .append, args := #[s, x], argTypes := #[t, t] })
    (base : Nat) (e : TypeId) (i : TypeInfo) (z : Value) (size bytes : Nat) (ht : P.underlying t = some (.slice e)) (hi : P.info? e = some i) (hz : i.zero = some z)
    (hsize : i.size = size) (hby : i.bytes = bytes) (hzs : z.cells.size = size) (hsz : 0 < size)
    (v : Value) (n : Nat) (xs : List Value) (hs : a.eval s = v) (hown : w.ownsRow base e size v n xs)
    (gm : Nat) (cs : List Value) (hx : a.eval x = .slice (some ⟨gm, 0, none⟩) 1 1) (hblk : Blk w gm e cs.toArray) (hcs : cs.length = size) (h1 : ∀ u ∈ cs, u.oneCell' = true)
    (h63 : n + 1 ≤ maxLen) (hbytes : (n + 1) * bytes ≤ 140737488355328) (hbase : base ≤ w.heap.size)
    (h : ∀ G cap w', w'.ownsRow base e size (.slice (some ⟨G, 0, none⟩) (n + 1) cap) (n + 1) (xs ++ cs) → (∀ W, Below W.heap.size W w → W.heap.size ≤ base → Below W.heap.size W w') → n + 1 ≤ cap → cap ≤ maxLen → w.grownBy w' v.ownBlock → K (a.put o.dst (.slice (some ⟨G, 0, none⟩) (n + 1) cap)) w') :
    if Region.wanted o (yielded ops a.tmps) = true then Oper.wp P o a w K Q else E := by
  have hr : Row w gm (gm + 1) size (some ⟨gm, 0, none⟩) 1 1 cs := by
    have := row_blk (w := w) (size := size) (n := 1) (c := 1) hblk (by simpa using hcs) (Nat.le_refl _) (by unfold maxLen; omega)
    simpa using this
  refine step_app w hgd s x t ho base e i z size bytes ht hi hz hsize hby hzs hsz v n xs hs hown gm (gm + 1) _ 1 1 cs hx hr h1 h63 hbytes hbase ?_
  intro v' w' h2 h3 _
  obtain ⟨h2l, h2'⟩ := h2
  rcases h2' with ⟨_, h0⟩ | ⟨G, cap, cur, rfl, r1, r2, r3, r4, r5, r6⟩
  · omega
  · exact h G cap w' ⟨h2l, .inr ⟨G, cap, cur, rfl, r1, r2, r3, r4, r5, r6⟩⟩ (fun W hW hWb => below_grows hW h3 hown hWb) r3 r4 h3
/-- what holds in lent, but for the list that grows -/
structure LE (w : World) (next : Int) (A : Option Addr) (n c : Nat) (ov : Value) (l : List (Nd × Leaf)) (wr : World) : Prop where
  md : Blk wr w.heap.size 26 #[.int .i64 next, .slice A n c]
  rs : Blk wr (w.heap.size + 1) 26 #[.int .i64 0, .slice none 0 0]
  out : Blk wr (w.heap.size + 2) 26 #[.int .i64 next, ov]
  leaf : ∀ p ∈ l, LentLeaf wr w.heap.size p.1 p.2
  bel : Below w.heap.size w wr
/-- what holds in the loop of lent -/
structure LW (w : World) (next : Int) (A : Option Addr) (n c : Nat) (ov : Value) (l : List (Nd × Leaf)) (wr : World) : Prop where
  e : LE w next A n c ov l wr
  own : OwnN wr w.heap.size ov l
section
variable {w : World} {next : Int} {A : Option Addr} {n c : Nat} {ov : Value} {l : List (Nd × Leaf)} {X X' : World}
theorem LE.after (h : LE w next A n c ov l X) (hb : Below X.heap.size X X') : LE w next A n c ov l X' :=
  ⟨h.md.after hb, h.rs.after hb, h.out.after hb, fun p hp => (h.leaf p hp).after hb, h.bel.trans (hb.mono h.bel.size)⟩
theorem LW.after (h : LW w next A n c ov l X) (hb : Below X.heap.size X X') : LW w next A n c ov l X' := ⟨h.e.after hb, own_after h.own hb⟩
/-- the list has grown -/
theorem LE.kept (h : LE w next A n c ov l X) (hown : OwnN X w.heap.size ov l) (hg : X.grownBy X' ov.ownBlock) : LE w next A n c ov l X' :=
  ⟨h.md.grown hg (Ne.symm (own_blk_ne hown h.md (by decide))), h.rs.grown hg (Ne.symm (own_blk_ne hown h.rs (by decide))), h.out.grown hg (Ne.symm (own_blk_ne hown h.out (by decide))),
    fun p hp => (h.leaf p hp).kept hown hg, below_grows h.bel hg hown (Nat.le_refl _)⟩
theorem LE.out_set (h : LE w next A n c ov l X) (u : Value) : LE w next A n c u l (X.setCell ⟨w.heap.size + 2, 1, none⟩ u) :=
  ⟨h.md.far (by simp) u, h.rs.far (by simp) u, by simpa using h.out.set_ 1 u,
    fun p hp => (h.leaf p hp).other h.out (by decide) (by decide) (by decide) 1 u, h.bel.setCell (p := ⟨w.heap.size + 2, 1, none⟩) (by simp) u⟩
theorem LW.push {p : Nd × Leaf} {v' : Value} (h : LW w next A n c ov l X) (hg : X.grownBy X' ov.ownBlock) (hown : X'.ownsRow w.heap.size 41 7 v' (l.length + 1) (allCells l ++ ndCells p))
    (hp : LentLeaf X w.heap.size p.1 p.2) : LW w next A n c v' (l ++ [p]) (X'.setCell ⟨w.heap.size + 2, 1, none⟩ v') := by
  have h1 := h.e.kept h.own hg
  have h2 := hp.kept h.own hg
  have h3 := h1.out_set v'
  refine ⟨⟨h3.md, h3.rs, h3.out, fun q hq => ?_, h3.bel⟩, ?_⟩
  · rcases List.mem_append.1 hq with hq | hq
    · exact h3.leaf q hq
    · obtain rfl : q = p := by simpa using hq
      exact h2.other h1.out (by decide) (by decide) (by decide) 1 v'
  · have : OwnN X' w.heap.size v' (l ++ [p]) := by
      unfold OwnN
      have e : allCells (l ++ [p]) = allCells l ++ ndCells p := by simp [allCells]
      rw [e, List.length_append, List.length_singleton]
      exact hown
    exact own_other this h1.out (by decide) 1 v'
end
def markNd : List Value := [.int .i64 (-7), .string ByteArray.empty, .int .i64 0, .string ByteArray.empty, .slice none 0 0, .slice none 0 0, .slice none 0 0]
/-- a model lent: its nodes in own memory, with marks behind each row -/
structure LentAt (w : World) (B : Nat) (A : Option Addr) (n c : Nat) (nds : List Nd) (l : List (Nd × Leaf)) : Prop where
  nds_ : l.map (·.1) = nds
  len : l.length = n
  leaf : ∀ p ∈ l, LentLeaf w B p.1 p.2
  some_ : A ≠ none
  own : w.ownsRow B 41 7 (.slice A (n + 1) c) (n + 1) (allCells l ++ markNd)
  le : n + 1 ≤ c
  max : c ≤ maxLen
/-- what is asked of the world while the last region goes on -/
def S10 (w : World) (next : Int) (A : Option Addr) (n c : Nat) (ov : Value) (l : List (Nd × Leaf)) (w' : World) : Prop :=
  Hid (LE w next A n c ov l w') ∧ w'.cell? ⟨w.heap.size + 1 + 1, 1, none⟩ = some ov ∧ w'.frozen? ⟨w.heap.size + 1 + 1, 1, none⟩ = false ∧ w'.cell? ⟨w.heap.size, 1, none⟩ = some (.slice A n c)
/-- the lists are no longer than a slice that was read can be -/
structure Fits (j : Nat) (nd : Nd) : Prop where
  p : (nd.props.length + j) * 32 ≤ 140737488355328
  k : (nd.kids.length + j) * 8 ≤ 140737488355328
  r : (nd.refs.length + j) * 24 ≤ 140737488355328
end Go.Proofs.YtohinklkcinjpaaGreat
namespace Go.Proofs.YtohinklkcinjpaaGreat
open Go Go.RowKit Go.Sort
set_option linter.unusedVariables false
attribute [local go_sem ↓] Go.wp_at_zero Go.wp_at_succ
theorem run_store_func' {P : Program} {w : World} {a : Addr} (f : Fn) (r : _) (caps : Array Value) (m : _) : (store a (.func f r caps) m).run P w = stored P w a (.func f r caps) m := run_store P w a _ m rfl
attribute [local go_sem] run_store_func'
set_option maxRecDepth 100000 in
set_option maxHeartbeats 3200000 in
theorem over_any (w0 : World) (hi g0 M : Nat) (next : Int) (A : Option Addr) (n c : Nat) (nds : List Nd) (F : FuncId) (caps : Array Value) (Inv : World → List (Int × Nat) → Prop) (V : Visit w0 g0 M A nds F caps Inv)
    (hN : NodesIn w0 0 hi A n c nds) (hh : hi ≤ w0.heap.size) (hg : hi ≤ g0) (hr : Rise nds) (hn : n ≤ 4096) (hI : Inv w0 []) (f : Nat) (ids : List Int) (A' : Option Addr) (n' c' : Nat)
    (hok : OkF nds f ids) (hrow : RowF w0 g0 A' n' c' ids) (hM : (pre nds f 1 ids).length ≤ M) (hf : f ≤ 65) :
    Calls Tryz.prog 31 #[.agg #[.int .i64 next, .slice A n c], .slice A' n' c', .func (.func F) #[] caps] w0 fun e X' => e = .returned (.tuple #[]) ∧ Inv X' (pre nds f 1 ids) := by
  have HDo := Lib.hid (down_any w0 hi g0 M next A n c nds F caps Inv V hN hh hg hr hn w0.heap.size (w0.heap.size + 1) (w0.heap.size + 1 + 1))
  have hB3 : Blk (((w0.alloc (.cells #[.int .i64 next, .slice A n c] 26)).alloc (.cells #[.func (.func F) #[] caps] 68)).alloc (.cells #[.nilFunc] 101)) (w0.heap.size + 1 + 1) 101 #[.nilFunc] := Blk.new' (by simp)
  have HO : Hid (OV next A n c w0.heap.size (w0.heap.size + 1) (w0.heap.size + 1 + 1) F caps Inv [] ((((w0.alloc (.cells #[.int .i64 next, .slice A n c] 26)).alloc (.cells #[.func (.func F) #[] caps] 68)).alloc (.cells #[.nilFunc] 101)).setCell ⟨w0.heap.size + 1 + 1, 0, none⟩ (.func (.func 69) #[] #[.pointer (some ⟨w0.heap.size, 0, none⟩), .pointer (some ⟨w0.heap.size + 1, 0, none⟩), .pointer (some ⟨w0.heap.size + 1 + 1, 0, none⟩)]))) := Lib.hid (by
    have hbel : Below w0.heap.size w0 (((w0.alloc (.cells #[.int .i64 next, .slice A n c] 26)).alloc (.cells #[.func (.func F) #[] caps] 68)).alloc (.cells #[.nilFunc] 101)) := below_more (below_more (below_more (Below.refl _ _) _) _) _
    refine ⟨V.after _ _ _ hI (hbel.setCell (p := ⟨w0.heap.size + 1 + 1, 0, none⟩) (by simp; omega) _), ?_, ?_, ?_⟩
    · exact Blk.far (((Blk.new w0 _ _).alloc _).alloc _) (p := ⟨w0.heap.size + 1 + 1, 0, none⟩) (by simp; omega) _
    · exact Blk.far ((Blk.new' (by simp)).alloc _) (p := ⟨w0.heap.size + 1 + 1, 0, none⟩) (by simp) _
    · exact hB3.set_ 0 _)
  have HB3 := Lib.hid hB3
  clear hB3
  have HOK := Lib.hid hok
  have HRW := Lib.hid hrow
  have HM := Lib.hid hM
  have HV := Lib.hid V
  have HI := Lib.hid hI
  clear hok hrow hM V hI hN
  go_enter Tryz.func31, Tryz.ntmps31
  go_upto_region 2 with (fail)
  generalize (((w0.alloc (.cells #[.int .i64 next, .slice A n c] 26)).alloc (.cells #[.func (.func F) #[] caps] 68)).alloc (.cells #[.nilFunc] 101)) = X3 at HB3 HO ⊢
  have s0 : X3.cell? ⟨w0.heap.size + 1 + 1, 0, none⟩ = some .nilFunc := (HB3.out.cell 0).trans rfl
  have s1 := HB3.out.frozen 0
  have HD0 := Lib.hid (HO.out.d.cell 0)
  go_wp2_with (go_at_call 69; go_must (refine (HDo.out f _ [] ids A' n' c' 1 HO.out HOK.out HRW.out (by have := HM.out; simpa using this) (by omega)).mono ?_; rintro e w5 ⟨rfl, hv5⟩; have HV5 := Lib.hid hv5; clear hv5))
  (try simp only [Exit.inBlock, Exit.then])
  first | refine bodyPost_ret (results_none (by kernel_rfl) _ _ _) rfl ?_ | refine bodyPost_end (results_none (by kernel_rfl) _ _ _) rfl ?_
  exact ⟨rfl, HV5.out.inv⟩
end Go.Proofs.YtohinklkcinjpaaGreat

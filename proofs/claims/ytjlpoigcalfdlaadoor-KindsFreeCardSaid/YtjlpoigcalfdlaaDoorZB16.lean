/-
  A REGION THAT DRAWS ITS ORDER AND ENDS IN A CALL OF YIELD: what comes ahead of it is walked under a condition on the world, the call inside a fence that lets all by. No program stands in it.
  WALKS over package kinds' walker: loose.
  WALKS over package kinds' walker: walkKid.
-/
import Derived.Test.YtjlpoigcalfdlaaDoorZB15
import Derived.OrdersIn
import Derived.TacticsIn
import Derived.RangeFuncSeq
import Derived.Defers
import Derived.RangeFuncKeeps
namespace Go.Proofs.YtjlpoigcalfdlaaDoor
open Go Go.RowKit
set_option linter.unusedVariables false
section
variable {P : Program} {Q : Exit → Act → World → Prop} {K : Act → World → Prop} {md : Region.Mode} {S : World → Prop} {m : Nat}
/-- each operation ahead of number n waits for earlier ones alone, and its guard, if it has one, is an earlier one -/
def aheadG (md : Region.Mode) (ops : Array Oper) (n : Nat) : Bool :=
  (List.range n).all fun j => match ops[j]? with
    | some o => (match o.guard with | none => true | some g => decide (g.1 < n)) && o.after.all fun e => !Region.binds md e || decide (e.on < j)
    | none => false
theorem aheadG_spec {ops : Array Oper} {n : Nat} (h : aheadG md ops n = true) {j : Nat} (hj : j < n) : ∃ o, ops[j]? = some o ∧ (∀ g, o.guard = some g → g.1 < n) ∧ ∀ e ∈ o.after, Region.binds md e = true → e.on < j := by
  have h1 := List.all_eq_true.1 h j (List.mem_range.2 hj)
  cases ho : ops[j]? with
  | none => simp [ho] at h1
  | some o =>
    rw [ho] at h1
    simp only [Bool.and_eq_true] at h1
    refine ⟨o, rfl, fun g hg => ?_, fun e he hb => ?_⟩
    · have := h1.1
      rw [hg] at this
      simpa using this
    · have := Array.all_eq_true_iff_forall_mem.1 h1.2 e he
      rw [hb] at this
      simpa using this
theorem yielded_head {hops ops : Array Oper} {n : Nat} (hh : ∀ j, j < n → hops[j]? = ops[j]?) {tmps : Array Value} {j : Nat} (hj : j < n) : yielded hops tmps j = yielded ops tmps j := by
  unfold yielded
  rw [hh j hj]
theorem wanted_head {hops ops : Array Oper} {n : Nat} (hh : ∀ j, j < n → hops[j]? = ops[j]?) {tmps : Array Value} {o : Oper} (hg : ∀ g, o.guard = some g → g.1 < n) : Region.wanted o (yielded hops tmps) = Region.wanted o (yielded ops tmps) := by
  unfold Region.wanted
  cases h : o.guard with
  | none => rfl
  | some g => simp only [yielded_head hh (hg g h)]
theorem wide_list {o : Oper} {a : Act} {w : World} {K : Act → World → Prop} (h : Oper.wp P o a w K Q) : Oper.wpIn Fence.wide m P o a w K Q := by
  unfold Oper.wp at h
  refine ⟨fun _ _ => trivial, ?_⟩
  rw [Fence.wide_round, Oper.semAt_none]
  generalize (execOp a.eval o).run P w = r at *
  cases r with
  | ok x w' =>
    cases x <;> simp only [Oper.upon, Oper.uponIn] at h ⊢
    case value u => exact h
    case skip => exact h
    case defer d => exact h
    case enter f args => exact ⟨fun hd => (by cases hd), callsIn_wide.2 h⟩
    case row row args => exact ⟨fun hd => (by cases hd), fun c cs _ => by obtain ⟨v, w', r, s⟩ := h c cs; exact ⟨v, w', r, stepsIn_wide.2 s⟩⟩
  | halt x w' =>
    cases x <;> simp only [Oper.upon, Oper.uponIn] at h ⊢
    case panic u => exact h
theorem wpAnyIn_more {F : Fence} {ops : Array Oper} {listed : Array Bool} : ∀ (f : Nat) (listed : Array Bool) (a : Act) (w : World), wpAnyIn F m P md ops Q f listed a w → wpAnyIn F m P md ops Q (f + 1) listed a w
  | 0, _, _, _, h => ⟨fun _ => h.2, fun i hi => by rw [h.1] at hi; cases hi⟩
  | f + 1, _, _, _, h => ⟨h.1, fun i hi => wpOpIn_mono (fun a' w' h' => wpAnyIn_more (listed := listed) f _ a' w' h') (h.2 i hi)⟩
theorem wpAnyIn_more' {F : Fence} {ops : Array Oper} {listed : Array Bool} {a : Act} {w : World} {g : Nat} (h : wpAnyIn F m P md ops Q g listed a w) : ∀ f, wpAnyIn F m P md ops Q (f + g) listed a w
  | 0 => by rw [Nat.zero_add]; exact h
  | f + 1 => by rw [show f + 1 + g = (f + g) + 1 from by omega]; exact wpAnyIn_more (listed := listed) _ _ _ _ (wpAnyIn_more' h f)
theorem wpAnyIn_of_seq {F : Fence} {ops : Array Oper} : ∀ (l : List Oper) (k : Nat) (listed : Array Bool) (a : Act) (w : World), (∀ j, l[j]? = ops[k + j]?) →
    Region.seqB md ops l.length k listed = true → wpListIn F m P ops Q l a w → wpAnyIn F m P md ops Q l.length listed a w
  | [], _, _, _, _, _, hB, h => ⟨by simpa [Region.seqB] using hB, h⟩
  | o :: l, k, listed, a, w, hl, hB, h => by
    have h0 : ops[k]? = some o := by simpa using (hl 0).symm
    simp only [List.length_cons, Region.seqB, Bool.and_eq_true, decide_eq_true_eq] at hB
    refine ⟨fun h1 => (by rw [hB.1] at h1; cases h1), fun i hi => ?_⟩
    rw [hB.1] at hi
    have hik : i = k := by simpa using hi
    subst hik
    have hw : wpOpIn F m P ops Q i (wpListIn F m P ops Q l) a w := by unfold wpOpIn; simp only [h0]; exact h
    exact wpOpIn_mono (fun a' w' h' => wpAnyIn_of_seq l (i + 1) _ a' w' (fun j => by have := hl (j + 1); simpa [Nat.add_assoc, Nat.add_comm 1 j] using this) hB.2 h') hw
variable {hops : Array Oper} {ops : Array Oper} {n g : Nat}
theorem ready_headG (hs : hops.size = n) (hh : ∀ j, j < n → hops[j]? = ops[j]?) (hB : aheadG md ops n = true) {L R : Array Bool} (hL : L.size = n) {j : Nat} (hj : j < n) :
    j ∈ Region.ready md ops (L ++ R) ↔ j ∈ Region.ready md hops L := by
  rw [mem_ready, mem_ready, hh j hj, getD_app (by omega)]
  obtain ⟨o, ho, _, hd⟩ := aheadG_spec hB hj
  refine and_congr_right fun _ => ?_
  refine exists_congr fun o' => and_congr_right fun ho' => forall_congr' fun e => forall_congr' fun he => forall_congr' fun hb => ?_
  have : o' = o := Option.some.inj (ho'.symm.trans ho)
  subst this
  rw [getD_app (by have := hd e he hb; omega)]
theorem some_readyG (hs : hops.size = n) (hh : ∀ j, j < n → hops[j]? = ops[j]?) (hB : aheadG md ops n = true) {L : Array Bool} (hL : L.size = n) : ∀ (j : Nat), j < n → L.getD j true = false → ∃ i, i < n ∧ i ∈ Region.ready md hops L := by
  intro j
  induction j using Nat.strongRecOn with
  | _ j ih =>
    intro hj hun
    obtain ⟨o, ho, _, hd⟩ := aheadG_spec hB hj
    by_cases h : ∃ e ∈ o.after, Region.binds md e = true ∧ L.getD e.on false = false
    · obtain ⟨e, he, hb, hl⟩ := h
      have hlt := hd e he hb
      exact ih e.on hlt (by omega) (getD_in (by omega) hl)
    · refine ⟨j, hj, mem_ready.2 ⟨hun, o, by rw [hh j hj]; exact ho, fun e he hb => ?_⟩⟩
      cases hl : L.getD e.on false with
      | true => rfl
      | false => exact absurd ⟨e, he, hb, hl⟩ h
theorem op_headI (hno : ¬ LetsOut Q) (hh : ∀ j, j < n → hops[j]? = ops[j]?) (hB : aheadG md ops n = true) {i : Nat} (hi : i < n) {K1 K2 : Act → World → Prop} {a : Act} {w : World} (hK : ∀ a w, K1 a w → K2 a w)
    (h : wpOp P hops (tailQ Q K) i K1 a w) : wpOpIn Fence.wide m P ops Q i K2 a w := by
  obtain ⟨o, ho, hg, _⟩ := aheadG_spec hB hi
  unfold wpOp at h
  unfold wpOpIn
  rw [hh i hi] at h
  simp only [ho] at h ⊢
  rw [wanted_head hh hg] at h
  split
  · rename_i hw
    rw [if_pos hw] at h
    rcases h with h | h
    · exact wide_list (oper_tail (Oper.wp_mono hK h))
    · exact absurd (lets_tail h.2) hno
  · rename_i hw
    rw [if_neg hw] at h
    exact ⟨fun _ _ => trivial, hK _ _ h⟩
theorem head_tailI (hno : ¬ LetsOut Q) {l : List Oper} (hs : hops.size = n) (hh : ∀ j, j < n → hops[j]? = ops[j]?) (hB : aheadG md ops n = true) (hsk : Region.sinkB md ops n = true) (hch : Region.chainB md ops n = true) (hn : n < ops.size)
    (hl : ∀ j, l[j]? = ops[n + j]?) (hseq : Region.seqB md ops l.length n (Array.replicate n true ++ Array.replicate l.length false) = true) (hsize : ops.size = n + l.length) :
    ∀ (fuel : Nat) (L : Array Bool) (a : Act) (w : World), L.size = n → HeadInv md ops n (L ++ Array.replicate l.length false) →
      wpAnyH P md hops (tailQ Q (wpListIn Fence.wide m P ops Q l)) S fuel L a w → wpAnyIn Fence.wide m P md ops Q (fuel + l.length) (L ++ Array.replicate l.length false) a w := by
  intro fuel
  induction fuel with
  | zero =>
    intro L a w hL inv h
    have hall : ∀ j, j < n → L.getD j true = true := fun j hj => by
      cases hx : L.getD j true with
      | true => rfl
      | false =>
        obtain ⟨i, _, hi⟩ := some_readyG hs hh hB hL j hj hx
        rw [h.1] at hi; cases hi
    have hLe : L = Array.replicate n true := by
      refine Array.ext (by simp [hL]) fun j h1 h2 => ?_
      have := hall j (by omega)
      rw [Array.getElem_replicate]
      simpa [h1] using this
    rw [Nat.zero_add, hLe]
    exact wpAnyIn_of_seq l n _ a w hl hseq h.2
  | succ fuel ih =>
    intro L a w hL inv h
    by_cases hun : ∃ j, j < n ∧ L.getD j true = false
    · obtain ⟨j, hj, hx⟩ := hun
      obtain ⟨i, hin, hi⟩ := some_readyG hs hh hB hL j hj hx
      have hif := (ready_headG (R := Array.replicate l.length false) hs hh hB hL hin).2 hi
      rw [show fuel + 1 + l.length = (fuel + l.length) + 1 from by omega]
      refine ⟨fun h0 => (by rw [h0] at hif; cases hif), fun k hk => ?_⟩
      have hkn : k < n := by
        rcases Nat.lt_or_ge k n with h | h
        · exact h
        · exact absurd hk (tail_waits hsk hch hn inv _ j rfl hj (by rw [getD_app (by omega)]; exact hx) k h)
      have hkh := (ready_headG hs hh hB hL hkn).1 hk
      refine op_headI hno hh hB hkn (fun a' w' h' => ?_) (h.2 k hkh)
      have e : (L ++ Array.replicate l.length false).setIfInBounds k true = L.setIfInBounds k true ++ Array.replicate l.length false := by
        rw [Array.setIfInBounds_append_left (by omega)]
      rw [e]
      exact ih _ a' w' (by simpa using hL) (by rw [← e]; exact inv.set hk hkn) h'.2
    · have hall : ∀ j, j < n → L.getD j true = true := fun j hj => by
        cases hx : L.getD j true with
        | true => rfl
        | false => exact absurd ⟨j, hj, hx⟩ hun
      have hLe : L = Array.replicate n true := by
        refine Array.ext (by simp [hL]) fun j h1 h2 => ?_
        have := hall j (by omega)
        rw [Array.getElem_replicate]
        simpa [h1] using this
      have hr0 : Region.ready md hops L = [] := by
        rcases hx : Region.ready md hops L with _ | ⟨i, rs⟩
        · rfl
        · have hi : i ∈ Region.ready md hops L := by rw [hx]; exact List.mem_cons_self
          obtain ⟨h1, o, ho, _⟩ := mem_ready.1 hi
          have hin : i < n := by rw [← hs]; exact (Array.getElem?_eq_some_iff.1 ho).1
          rw [hall i hin] at h1; cases h1
      refine wpAnyIn_more' ?_ (fuel + 1)
      rw [hLe]
      exact wpAnyIn_of_seq l n _ a w hl hseq (h.1 hr0)
def tailG (ops : Array Oper) (n : Nat) : Bool :=
  aheadG .any ops n && Region.sinkB .any ops n && Region.chainB .any ops n && decide (n < ops.size) && Region.seqB .any ops (ops.size - n) n (Array.replicate n true ++ Array.replicate (ops.size - n) false)
/-- **the beginning**: n operations in whatever order, under S; then the others as they stand, inside a fence that lets all by -/
theorem wp_region_yield_tail {id : Nat} {a : Act} {w : World} {l : List Oper} (n : Nat) (S : World → Prop) (hm : P.follows .mixedOrders = true) (hB : tailG l.toArray n = true) (hno : ¬ LetsOut Q) (hS : S w.drew)
    (h : S w.drew → wpAnyH P .any (l.take n).toArray (tailQ Q (wpListIn Fence.wide m P l.toArray Q (l.drop n))) S n (Array.replicate n false) a w.drew) : (Code.region id l.toArray true).wp P Q a w := by
  simp only [tailG, Bool.and_eq_true, decide_eq_true_eq] at hB
  obtain ⟨⟨⟨⟨h1, h2⟩, h3⟩, h4⟩, h5⟩ := hB
  have hn : n < l.length := by simpa using h4
  have hdl : l.toArray.size - n = (l.drop n).length := by simp
  have hsz : l.toArray.size = n + (l.drop n).length := by simp; omega
  refine (wpIn_wide (n := m)).1 (wpIn_region_any hm ?_)
  have := head_tailI (m := m) (P := P) (Q := Q) (S := S) hno (hops := (l.take n).toArray) (ops := l.toArray) (n := n) (md := .any) (l := l.drop n) (by simp; omega) (fun j hj => by simp [hj]) h1 h2 h3 h4 (fun j => by simp [List.getElem?_drop]) (by rw [← hdl]; exact h5) hsz
    n (Array.replicate n false) a w.drew (by simp) ?_ (h hS)
  · rw [← hsz] at this
    have e : Array.replicate n false ++ Array.replicate (l.drop n).length false = Array.replicate l.toArray.size false := by
      rw [Array.replicate_append_replicate, ← hsz]
    rw [e] at this
    exact this
  · refine ⟨by simp; omega, fun j oj _ hl => ?_, fun t ht ht' => ?_⟩
    · rw [Array.replicate_append_replicate, getD_replicate_false] at hl; cases hl
    · rw [Array.replicate_append_replicate]
      exact getD_in (by rw [← hsz]; simpa using ht') (getD_replicate_false _ _)
/-- a call of yield, as an operation of such a list -/
theorem wpListIn_yield {ops : Array Oper} {rest : List Oper} {o : Oper} {a : Act} {w : World} {lp : Nat} {args : Array Value} {R : Ending → World → Prop} (hgd : o.guard = none)
    (hrun : ∀ fn tmps assign body, (Instr.yield lp args).run P w = .ok (.round lp fn tmps assign body) w → (execOp a.eval o).run P w = .ok (.round lp fn tmps assign body) w)
    (hy : YieldAt Fence.wide (m - 1) P lp args w R) (h : ∀ e w', R e w' → ∃ v, e = .returned v ∧ wpListIn Fence.wide m P ops Q rest (a.put o.dst v) w') : wpListIn Fence.wide m P ops Q (o :: rest) a w := by
  unfold wpListIn
  have hw : ∀ y, Region.wanted o y = true := fun y => by simp [Region.wanted, hgd]
  rw [hw, if_pos rfl]
  obtain ⟨fn, tmps, assign, body, h1, h2⟩ := hy
  refine ⟨fun _ _ => trivial, ?_⟩
  rw [Fence.wide_round, Oper.semAt_none, hrun _ _ _ _ h1, Oper.uponIn_round]
  refine ⟨fun hd => (by cases hd), RoundIn.mono h2 fun e w' hR => ?_⟩
  obtain ⟨v, rfl, hv⟩ := h e w' hR
  exact hv
end
end Go.Proofs.YtjlpoigcalfdlaaDoor
namespace Go.Proofs.YtjlpoigcalfdlaaDoor
open Go Go.RowKit Go.Sort
set_option linter.unusedVariables false
/-- the walker's box and its map -/
structure WS (A : Option Addr) (n c gw gm : Nat) (yv : Value) (m : Nat) (e : Bnd) (X : World) : Prop where
  box : Blk X gw 64 #[.slice A n c, .map (some gm), yv]
  map : MapIs X gm m e
section
variable {A : Option Addr} {n c gw gm : Nat} {yv : Value} {m : Nat} {e : Bnd} {X X' : World}
theorem WS.ne (h : WS A n c gw gm yv m e X) : gw ≠ gm := by
  rintro rfl
  obtain ⟨o, h1, es, cl, rfl⟩ := h.map.walk
  have := h.box
  unfold Blk at this
  rw [h1] at this
  cases this
theorem WS.after (h : WS A n c gw gm yv m e X) (hb : Below X.heap.size X X') : WS A n c gw gm yv m e X' := ⟨h.box.after hb, h.map.after hb⟩
theorem WS.turn {m' : Nat} {e' : Bnd} (h : WS A n c gw gm yv m e X) (hm : MapIs X' gm m' e') (hg : X.grownBy X' (some gm)) : WS A n c gw gm yv m' e' X' := ⟨h.box.grown hg (by intro hc; injection hc with hc; exact h.ne hc), hm⟩
theorem WS.mono {m' : Nat} (h : WS A n c gw gm yv m e X) (hm : m ≤ m') : WS A n c gw gm yv m' e X := ⟨h.box, h.map.mono hm⟩
end
/-- what loose leaves -/
def Loosed (A : Option Addr) (n c gw gm : Nat) (yv : Value) (m : Nat) (e : Bnd) (X : World) (r : Ending) (X' : World) : Prop := r = .returned (.tuple #[]) ∧ WS A n c gw gm yv m e X' ∧ X.grownBy X' (some gm)
set_option maxRecDepth 20000 in
set_option maxHeartbeats 1600000 in
theorem loose_d (u : FrameMode) (A : Option Addr) (n c gw gm : Nat) (yv : Value) (m : Nat) (e : Bnd) (T : ByteArray) (X : World) (h : WS A n c gw gm yv m (T.data.toList :: e) X) (hT : T.size ≤ 140737488355328) (he : e.length ≤ 999999) (hm : m ≤ 999999) :
    CallsD Tryd.prog 59 #[.pointer (some ⟨gw, 0, none⟩), .string T] u X (fun r u' X' => u' = u ∧ Loosed A n c gw gm yv (m + 1) e X r X') := by
  have c1 := (h.box.cell 1).trans (show _ = some (.map (some gm)) from rfl)
  have l1 := h.map.look hT
  rw [List.count_cons_self] at l1
  obtain ⟨X1, r1, hm1, hg1⟩ := h.map.down hT (by omega) (by omega)
  have h1 := h.turn hm1 hg1
  have c2 := (h1.box.cell 1).trans (show _ = some (.map (some gm)) from rfl)
  have l2 := h1.map.look hT
  have hcl : e.count T.data.toList ≤ e.length := List.count_le_length
  have hcw : e.count T.data.toList ≤ 1000000 := by omega
  have H1 := Lib.hid h1
  have HG1 := Lib.hid hg1
  by_cases h0 : e.count T.data.toList = 0
  · obtain ⟨X2, r2, hm2, hg2⟩ := h1.map.drop hT h0 0
    have H2 := Lib.hid (h1.turn hm2 hg2)
    have HG2 := Lib.hid (hg1.trans hg2)
    rw [h0] at l1 l2 r1
    replace r1 : (Instr.mapUpdate 62 (.map (some gm)) (.string T) (.int .i64 0)).run Tryd.prog X = .ok () X1 := r1
    replace l1 : (Instr.lookup 62 (.map (some gm)) (.string T) false).run Tryd.prog X = .ok (.int .i64 1) X := l1
    replace l2 : (Instr.lookup 62 (.map (some gm)) (.string T) false).run Tryd.prog X1 = .ok (.int .i64 0) X1 := l2
    clear h h1 hm1 hg1 hm2 hg2 h0 hcl hcw
    go_enter_d Tryd.func59, Tryd.ntmps59
    go_wp2_with fail
    go_end0
    exact ⟨rfl, H2.out, HG2.out⟩
  · generalize e.count T.data.toList = q at l1 l2 r1 h0 hcw
    have b0 : ((q : Int) == 0) = false := by rw [beq_eq_false_iff_ne]; omega
    clear h h1 hm1 hg1 h0 hcl
    go_enter_d Tryd.func59, Tryd.ntmps59
    go_wp2_with fail
    go_end0
    exact ⟨rfl, H1.out, HG1.out⟩
end Go.Proofs.YtjlpoigcalfdlaaDoor
namespace Go.Proofs.YtjlpoigcalfdlaaDoor
open Go Go.RowKit Go.Sort
set_option linter.unusedVariables false
/-- cells, but texts: a round may have a list of texts of its own -/
def plainO (o : Obj) : Bool := match o with
  | .cells _ t _ => t != 9
  | _ => false
/-- what the walker keeps: all below n₀; of what lies from n₁ on, the cells but texts -/
structure KW (n₀ n₁ gm : Nat) (X X' : World) : Prop where
  bel : Below n₀ X X'
  same : ∀ (g : Nat) (o : Obj), n₁ ≤ g → g ≠ gm → X.heap[g]? = some o → plainO o = true → X'.heap[g]? = some o
/-- what a round keeps: all below n₀; of what lies from n₁ on, cells but texts, maps and their iterators -/
structure KpE (n₀ n₁ : Nat) (X X' : World) : Prop where
  bel : Below n₀ X X'
  same : ∀ (g : Nat) (o : Obj), n₁ ≤ g → X.heap[g]? = some o → plainO o = true ∨ o.isWalk = true → X'.heap[g]? = some o
section
variable {n₀ n₁ gm : Nat} {X X' X'' : World}
theorem KW.trans (h : KW n₀ n₁ gm X X') (h' : KW n₀ n₁ gm X' X'') : KW n₀ n₁ gm X X'' := ⟨h.bel.trans h'.bel, fun g o h1 h2 h3 h4 => h'.same g o h1 h2 (h.same g o h1 h2 h3 h4) h4⟩
theorem KW.refl (n₀ n₁ gm : Nat) (X : World) : KW n₀ n₁ gm X X := ⟨Below.refl _ _, fun _ _ _ _ h _ => h⟩
theorem KpE.kw (h : KpE n₀ n₁ X X') : KW n₀ n₁ gm X X' := ⟨h.bel, fun g o h1 _ h3 h4 => h.same g o h1 h3 (.inl h4)⟩
theorem KW.after (hb : Below X.heap.size X X') (h0 : n₀ ≤ X.heap.size) : KW n₀ n₁ gm X X' := ⟨hb.mono h0, fun g o _ _ h3 _ => (hb.block g (Array.getElem?_eq_some_iff.1 h3).1).trans h3⟩
theorem KW.turn (hg : X.grownBy X' (some gm)) (h0 : n₀ ≤ gm) (hs : n₀ ≤ X.heap.size) : KW n₀ n₁ gm X X' := ⟨(Below.refl _ X).grown hg hs (fun k hk => by injection hk with hk; omega), fun g o _ h2 h3 _ => (hg.block g (Array.getElem?_eq_some_iff.1 h3).1 (by intro hc; injection hc with hc; exact h2 hc)).trans h3⟩
theorem KW.blk {g : Nat} {t : TypeId} {cs : Array Value} (h : KW n₀ n₁ gm X X') (h1 : n₁ ≤ g) (h2 : g ≠ gm) (hb : Blk X g t cs) (ht : (t != 9) = true := by rfl) : Blk X' g t cs := h.same g _ h1 h2 hb ht
end
theorem WS.kept {A : Option Addr} {n c gw gm n₀ n₁ : Nat} {y : Value} {m : Nat} {e : Bnd} {X X' : World} (h : WS A n c gw gm y m e X) (hk : KpE n₀ n₁ X X') (h1 : n₁ ≤ gw) (h2 : n₁ ≤ gm) : WS A n c gw gm y m e X' := by
  obtain ⟨o, ho, es, cl, rfl⟩ := h.map.walk
  exact ⟨hk.same gw _ h1 h.box (.inl rfl), h.map.same ((hk.same gm _ h2 ho (.inr rfl)).trans ho.symm)⟩
abbrev Inv := List (Nat × Bool) → World → Prop
def yv (lp : Nat) : Value := .func (.yield lp) #[] #[]
/-- all that the walker leans on -/
structure WE (w₀ : World) (hi : Nat) (A : Option Addr) (n c : Nat) (l : List (EN × Sl)) (gw gm n₀ n₁ lp : Nat) (N : List (Nat × Bool)) (J Jx : Inv) : Prop where
  ex : ExIn w₀ hi ⟨A, n, c⟩ l
  hh : hi ≤ n₀
  h01 : n₀ ≤ n₁
  hgm : n₁ ≤ gm
  hgw : n₁ ≤ gw
  hJ : AbidesFrom n₁ J
  hJx : AbidesFrom n₁ Jx
  y : ∀ (pre : List (Nat × Bool)) (x : Nat × Bool) (W : World), J pre W → pre ++ [x] <+: N → YieldAt Fence.wide 0 Tryd.prog lp #[.int .i64 (x.1 : Int), .bool x.2] W fun e W' =>
    (e = .returned (.bool true) ∧ J (pre ++ [x]) W' ∧ KpE n₀ n₁ W W') ∨ (e = .returned (.bool false) ∧ Jx (pre ++ [x]) W' ∧ KpE n₀ n₁ W W')
/-- what a walk leaves -/
def Walked (A : Option Addr) (n c gw gm n₀ n₁ lp : Nat) (J Jx : Inv) (L pre : List (Nat × Bool)) (m : Nat) (e : Bnd) (X : World) (r : Ending) (X' : World) : Prop :=
  ∃ (b : Bool) (pre' : List (Nat × Bool)), r = .returned (.bool b) ∧ WS A n c gw gm (yv lp) m e X' ∧ KW n₀ n₁ gm X X' ∧
    ((b = true ∧ pre' = pre ++ L ∧ J pre' X') ∨ (b = false ∧ Jx pre' X' ∧ ∃ k, k < L.length ∧ pre' = pre ++ L.take (k + 1)))
/-- what is asked where a walk begins -/
structure At0 (w₀ : World) (A : Option Addr) (n c gw gm n₀ n₁ lp : Nat) (N : List (Nat × Bool)) (J : Inv) (L pre : List (Nat × Bool)) (m d : Nat) (e : Bnd) (X : World) : Prop where
  ws : WS A n c gw gm (yv lp) m e X
  j : J pre X
  bel : Below n₀ w₀ X
  n1 : n₁ ≤ X.heap.size
  len : pre ++ L <+: N
  room : m + d ≤ 900000
  env : e.length + d ≤ 900000
def WalkAt (w₀ : World) (A : Option Addr) (n c gw gm n₀ n₁ lp : Nat) (N : List (Nat × Bool)) (J Jx : Inv) (q : Int) (L : List (Nat × Bool)) (e : Bnd) (d : Nat) : Prop :=
  ∀ (X : World) (pre : List (Nat × Bool)) (m : Nat), At0 w₀ A n c gw gm n₀ n₁ lp N J L pre m d e X → Calls Tryd.prog 28 #[.pointer (some ⟨gw, 0, none⟩), .int .i64 q] X (Walked A n c gw gm n₀ n₁ lp J Jx L pre (m + d) e X)
theorem abides_turn {n₁ gm : Nat} {J : Inv} {pre : List (Nat × Bool)} {X X' : World} {e : Bnd} {m : Nat} (hJ : AbidesFrom n₁ J) (h : J pre X) (hm : MapIs X gm m e) (hg : X.grownBy X' (some gm)) (h1 : n₁ ≤ gm) : J pre X' :=
  hJ _ _ _ _ h hg fun r hr => by
    injection hr with hr
    subst hr
    obtain ⟨o, ho, es, cl, rfl⟩ := hm.walk
    exact ⟨h1, _, ho, rfl⟩
theorem abides_alloc {n₁ : Nat} {J : Inv} {pre : List (Nat × Bool)} {X : World} (hJ : AbidesFrom n₁ J) (h : J pre X) (o : Obj) : J pre (X.alloc o) :=
  hJ _ _ _ _ h (World.grownBy_alloc X o none) fun r hr => by cases hr
theorem abides_drew {n₁ : Nat} {J : Inv} {pre : List (Nat × Bool)} {X : World} (hJ : AbidesFrom n₁ J) (h : J pre X) : J pre X.drew :=
  hJ _ _ _ none h ⟨rfl, rfl, rfl, Nat.le_refl _, fun _ _ _ => rfl⟩ fun r hr => by cases hr
set_option maxRecDepth 20000 in
set_option maxHeartbeats 3200000 in
theorem walkKid_any {w₀ : World} {hi : Nat} {A : Option Addr} {n c : Nat} {l : List (EN × Sl)} {gw gm n₀ n₁ lp : Nat} {N : List (Nat × Bool)} {J Jx : Inv} (E : WE w₀ hi A n c l gw gm n₀ n₁ lp N J Jx) (q : Int) (L : List (Nat × Bool)) (T : ByteArray) (bd : Bool) (e : Bnd) (d : Nat)
    (H : WalkAt w₀ A n c gw gm n₀ n₁ lp N J Jx q L (if bd = true then T.data.toList :: e else e) d) (hT : T.size ≤ 140737488355328) (X : World) (pre : List (Nat × Bool)) (m : Nat) (h0 : At0 w₀ A n c gw gm n₀ n₁ lp N J L pre m (d + 2) e X) :
    Calls Tryd.prog 40 #[.pointer (some ⟨gw, 0, none⟩), .int .i64 q, .string T, .bool bd] X (Walked A n c gw gm n₀ n₁ lp J Jx L pre (m + (d + 2)) e X) := by
  have hr := h0.room
  have hv := h0.env
  cases bd with
  | false =>
    have HW := Lib.hid (H X pre m ⟨h0.ws, h0.j, h0.bel, h0.n1, h0.len, by omega, by simpa using (by omega : e.length + d ≤ 900000)⟩)
    simp only [Bool.false_eq_true, if_false] at HW
    clear H h0 hr hv
    go_enter_defers Tryd.func40, Tryd.ntmps40
    go_wp2_with (go_at_call 28; refine HW.out.mono ?_; rintro r X2 ⟨b, pre', rfl, hws, hkw, hend⟩)
    refine ⟨_, results_tmp rfl _ _ _, ?_⟩
    exact ⟨b, pre', rfl, hws.mono (by omega), hkw, hend⟩
  | true =>
    have c1 := (h0.ws.box.cell 1).trans (show _ = some (.map (some gm)) from rfl)
    have l1 := h0.ws.map.look hT
    obtain ⟨X1, r1, hm1, hg1⟩ := h0.ws.map.up hT (by omega) (by omega)
    have hws1 := h0.ws.turn hm1 hg1
    have hk1 : KW n₀ n₁ gm X X1 := KW.turn hg1 (Nat.le_trans E.h01 E.hgm) (Nat.le_trans E.h01 h0.n1)
    have HK1 := Lib.hid hk1
    have HW := Lib.hid (H X1 pre (m + 1) ⟨hws1, abides_turn E.hJ h0.j h0.ws.map hg1 E.hgm, h0.bel.trans hk1.bel, Nat.le_trans h0.n1 hg1.size, h0.len, by omega, by simp; omega⟩)
    simp only [if_true] at HW
    have hcl : e.count T.data.toList ≤ e.length := List.count_le_length
    have hcw : e.count T.data.toList ≤ 1000000 := by omega
    have HE := Lib.hid E
    have HV := Lib.hid hv
    have HRM := Lib.hid hr
    generalize e.count T.data.toList = ct at l1 r1 hcw
    clear H h0 hr hv hws1 hk1 hm1 hg1 hcl
    go_enter_defers Tryd.func40, Tryd.ntmps40
    go_wp2_with (go_at_call 28; refine HW.out.mono ?_; rintro r X2 ⟨b, pre', rfl, hws, hkw, hend⟩)
    refine leaves_cons (f := 59) (args := #[.pointer (some ⟨gw, 0, none⟩), .string T]) (by simp) (by simp [go_sem]) ?_
    refine (loose_d .returning A n c gw gm (yv lp) (m + 1 + d) e T X2 hws hT (by have := HV.out; omega) (by have := HRM.out; omega)).mono ?_
    rintro r u' X3 ⟨rfl, rfl, hws3, hg3⟩
    refine ⟨_, results_tmp rfl _ _ _, ?_⟩
    have hn2 : n₀ ≤ X2.heap.size := Nat.le_trans (Nat.le_trans HE.out.h01 HE.out.hgm) (Nat.le_of_lt hws.map.lt)
    refine ⟨b, pre', rfl, hws3.mono (by omega), HK1.out.trans (hkw.trans (KW.turn hg3 (Nat.le_trans HE.out.h01 HE.out.hgm) hn2)), ?_⟩
    rcases hend with ⟨h1, h2, h3⟩ | ⟨h1, h2, h3⟩
    · exact .inl ⟨h1, h2, abides_turn HE.out.hJ h3 hws.map hg3 HE.out.hgm⟩
    · exact .inr ⟨h1, abides_turn HE.out.hJx h2 hws.map hg3 HE.out.hgm, h3⟩
end Go.Proofs.YtjlpoigcalfdlaaDoor

/-
  NAMES IN OWN MEMORY; they are sorted in their place, and compacted.
  A REGION THAT DRAWS ITS ORDER, WITHIN A ROUND OF A RANGE OVER A FUNCTION: what comes ahead of its end is walked in whatever order under a condition on the world, the end as it stands. No program stands in it.
-/
import Derived.Test.YtjlpoigcalfdlaaDoorZB19
import Derived.Test.YtjlpoigcalfdlaaDoorShelf
import Derived.Sort.OwnSorted
import Derived.Sort.Walk0
import Derived.OwnWalkIn
import Derived.RangeFuncCalls
namespace Go.Proofs.YtjlpoigcalfdlaaDoor
open Go Go.RowKit Go.Sort
set_option linter.unusedVariables false
def encY (b : Bys) : Value := .string ⟨b.toArray⟩
def encsY (l : List Bys) : List Value := l.map encY
theorem encsY_len (l : List Bys) : (encsY l).length = l.length := by simp [encsY]
theorem encsY_get {l : List Bys} {i : Nat} {b : Bys} (h : l[i]? = some b) : (encsY l)[i]? = some (encY b) := by simp [encsY, h]
theorem encsY_one (l : List Bys) : ∀ u ∈ encsY l, u.oneCell' = true := by
  intro u hu
  obtain ⟨b, _, rfl⟩ := List.mem_map.1 hu
  rfl
/-- names in own memory -/
def OwnS (w : World) (B : Nat) (v : Value) (l : List Bys) : Prop := w.ownsRow B 9 1 v l.length (encsY l)
theorem OwnS.after {w w' : World} {B : Nat} {v : Value} {l : List Bys} (h : OwnS w B v l) (hb : Below w.heap.size w w') : OwnS w' B v l := own_after h hb
theorem OwnS.num {w : World} {B n : Nat} {v : Value} {l : List Bys} (h : OwnS w B v l) (hl : l.length = n) : w.ownsRow B 9 1 v n (encsY l) := by subst hl; exact h
theorem own_someS {w : World} {B n c : Nat} {A : Option Addr} {l : List Bys} (h : OwnS w B (.slice A n c) l) (hn : 0 < n) : ∃ g, A = some ⟨g, 0, none⟩ := by
  rcases h.2 with ⟨hv, _⟩ | ⟨g, cap, cur, hv, _⟩
  · injection hv with _ h2; omega
  · injection hv with h1; exact ⟨g, h1⟩
theorem own_atS {w : World} {B n c g a : Nat} {l : List Bys} {y : Bys} (h : OwnS w B (.slice (some ⟨g, 0, none⟩) n c) l) (hl : l.length = n) (hy : l[a]? = some y) : w.cell? ⟨g, a, none⟩ = some (.string ⟨y.toArray⟩) := by
  subst hl
  have hk := (List.getElem?_eq_some_iff.1 hy).1
  have := World.ownsRow.cellAt h (a * 1) (by omega)
  rw [Nat.mul_one] at this
  rw [this]
  exact encsY_get hy
theorem own_takeS {w : World} {B n c g a : Nat} {l : List Bys} (h : OwnS w B (.slice (some ⟨g, 0, none⟩) n c) l) (hl : l.length = n) (ha : a ≤ n) : w.ownsRow B 9 1 (.slice (some ⟨g, 0, none⟩) a c) a (encsY (l.take a)) := by
  subst hl
  rcases h.2 with ⟨hv, _⟩ | ⟨g', cap, cur, hv, hb, hg, h1, h2, h3, h4⟩
  · simp at hv
  · injection hv with e1 e2 e3
    subst e3
    injection e1 with e1; injection e1 with e1; subst e1
    refine ⟨by rw [encsY_len, List.length_take]; omega, .inr ⟨g, c, cur, rfl, hb, hg, by omega, h2, h3, ?_⟩⟩
    rw [Nat.mul_one] at h4 ⊢
    have : cur.toList.take a = (cur.toList.take l.length).take a := by rw [List.take_take]; congr 1; omega
    rw [this, h4]
    simp [encsY, List.map_take]
theorem info_str : (Tryd.prog.info? 9).map (fun i => (i.zero, i.size, i.bytes)) = some (some (.string ByteArray.empty), 1, 16) := by kernel_rfl
theorem app_strs {X : World} {ops : Array Oper} {rest : List Oper} {o : Oper} {a : Act} {Q : Exit → Act → World → Prop} (hgd : o.guard = none) (s x : Operand)
    (ho : o.op = .call { callee := .builtin .append, args := #[s, x], argTypes := #[39, 39] })
    (B : Nat) (v : Value) (n : Nat) (xs : List Value) (hs : a.eval s = v) (hown : X.ownsRow B 9 1 v n xs) (lo hi : Nat) (A : Option Addr) (m c : Nat) (ks : List Bys) (hx : a.eval x = .slice A m c) (hr : Row X lo hi 1 A m c (encsY ks))
    (N : Nat) (hN : n + m = N) (hroom : N ≤ 4194304) (hB : B ≤ X.heap.size)
    (h : ∀ A' c' w', w'.ownsRow B 9 1 (.slice A' N c') N (xs ++ encsY ks) → X.grownBy w' v.ownBlock → Below B X w' → wpList Tryd.prog ops Q rest (a.put o.dst (.slice A' N c')) w') : wpList Tryd.prog ops Q (o :: rest) a X := by
  subst hN
  obtain ⟨i0, hi0, hz0, hz1, hz2⟩ := info_parts info_str
  refine wpList_app X hgd s x _ ho B 9 i0 (.string ByteArray.empty) 1 16 Tryd.underlying39 hi0 hz0 hz1 hz2 rfl (by decide) v n xs hs hown lo hi A m c (encsY ks) hx hr (encsY_one ks) (by unfold maxLen; omega) (by omega) hB ?_
  intro v' w' hown' hg _
  obtain ⟨A', c', rfl⟩ := own_form hown'
  exact h A' c' w' hown' hg ((Below.refl _ _).grown hg hB (fun k hk => (World.ownsRow.lt hown k hk).1))
theorem row_one_str {w : World} {g : Nat} {S : Bys} (h : Blk w g 9 #[.string ⟨S.toArray⟩]) : Row w g (g + 1) 1 (some ⟨g, 0, none⟩) 1 1 (encsY [S]) := row_blk h rfl (Nat.le_refl _) (by unfold maxLen; omega)
theorem own_casesS {w : World} {B n c : Nat} {A : Option Addr} {l : List Bys} (h : OwnS w B (.slice A n c) l) (hl : l.length = n) : (A = none ∧ n = 0 ∧ c = 0 ∧ l = []) ∨ ∃ g, A = some ⟨g, 0, none⟩ := by
  rcases h.2 with ⟨hv, h0⟩ | ⟨g, cap, cur, hv, _⟩
  · injection hv with h1 h2 h3
    exact .inl ⟨h1, h2, h3, List.length_eq_zero_iff.1 h0⟩
  · injection hv with h1; exact .inr ⟨g, h1⟩
def sortS (l : List Bys) : List Bys := l.mergeSort fun x y => decide (x ≤ y)
theorem sortS_len (l : List Bys) : (sortS l).length = l.length := List.length_mergeSort _
theorem grow_nil (W : World) : grow W #[] = W := by cases W; simp [grow]
/-- names of the call's own are sorted in their place -/
theorem sort_ownS (w : World) (B c g n : Nat) (zs : List Bys) (h : OwnS w B (.slice (some ⟨g, 0, none⟩) n c) zs) (hl : zs.length = n) (h4 : n ≤ 1048576) :
    Calls Tryd.prog 22 #[.slice (some ⟨g, 0, none⟩) n c] w fun e w' => e = .returned (.tuple #[]) ∧ OwnS w' B (.slice (some ⟨g, 0, none⟩) n c) (sortS zs) ∧ w.grownBy w' (some g) := by
  subst hl
  rcases h.2 with ⟨h', _⟩ | ⟨g', cap, cur, h', hb, hg, hnc, hcm, hcs, htake⟩
  · simp at h'
  · simp only [Value.slice.injEq, Option.some.injEq, Addr.mk.injEq, and_true, true_and] at h'
    obtain ⟨rfl, rfl⟩ := h'
    rw [Nat.mul_one] at htake
    have h1 := Tryd.slices_Sort_string g 0 c zs w (holds_of_block hg htake) (Array.getElem?_eq_some_iff.1 hg).1 (by omega)
    refine h1.mono fun e w' ⟨he, n, os, hw⟩ => ⟨he, ?_, ?_⟩
    · rw [hw]
      have := ownsRow_sorted (n := n) (os := os) (ts := sortS zs) (sortS_len zs) hb hg hnc hcm hcs
      unfold OwnS
      rw [sortS_len]
      exact this
    · rw [hw]
      exact grownBy_sorted _
/-- .. and compacted -/
theorem compact_ownS (w : World) (B c g n : Nat) (zs : List Bys) (h : OwnS w B (.slice (some ⟨g, 0, none⟩) n c) zs) (hl : zs.length = n) (h4 : n ≤ 1048576) :
    Calls Tryd.prog 23 #[.slice (some ⟨g, 0, none⟩) n c] w fun e w' => e = .returned (.slice (some ⟨g, 0, none⟩) (Lib.compact zs).length c) ∧ OwnS w' B (.slice (some ⟨g, 0, none⟩) (Lib.compact zs).length c) (Lib.compact zs) ∧ w.grownBy w' (some g) := by
  subst hl
  rcases h.2 with ⟨h', _⟩ | ⟨g', cap, cur, h', hb, hg, hnc, hcm, hcs, htake⟩
  · simp at h'
  · simp only [Value.slice.injEq, Option.some.injEq, Addr.mk.injEq, and_true, true_and] at h'
    obtain ⟨rfl, rfl⟩ := h'
    rw [Nat.mul_one] at htake
    have h1 := Tryd.slices_Compact_string g 0 c zs w (holds_of_block hg htake) (by omega) hnc
    have hle := Lib.compact_length_le zs
    obtain ⟨D, hD⟩ : ∃ D, Lib.compact zs ++ List.replicate (zs.length - (Lib.compact zs).length) [] = D := ⟨_, rfl⟩
    have hDl : D.length = zs.length := by rw [← hD, List.length_append, List.length_replicate]; omega
    rw [hD] at h1
    refine h1.mono fun e w' ⟨he, q, hw⟩ => ⟨he, ?_, ?_⟩
    · have hw2 : w' = grow (putRow encStr (Sort.ahead w q) g 0 D.toArray) #[] := by rw [hw, grow_nil]
      rw [hw2]
      have h2 := ownsRow_sorted (n := q) (os := #[]) (ts := D) hDl hb hg hnc hcm hcs
      have h3 : OwnS (grow (putRow encStr (Sort.ahead w q) g 0 D.toArray) #[]) B (.slice (some ⟨g, 0, none⟩) zs.length c) D := by unfold OwnS; rw [hDl]; exact h2
      have h5 := own_takeS h3 hDl hle
      rw [← hD, List.take_left] at h5
      rw [hD] at h5
      exact h5
    · have hw2 : w' = grow (putRow encStr (Sort.ahead w q) g 0 D.toArray) #[] := by rw [hw, grow_nil]
      rw [hw2]
      exact grownBy_sorted _
theorem grown_refl (w : World) (row : Option Nat) : w.grownBy w row := ⟨rfl, rfl, rfl, Nat.le_refl _, fun _ _ _ => rfl⟩
/-- names of the call's own are sorted, wherever they lie -/
theorem sort_anyS (w : World) (B : Nat) (v : Value) (zs : List Bys) (h : OwnS w B v zs) (h4 : zs.length ≤ 1048576) :
    Calls Tryd.prog 22 #[v] w fun e w' => e = .returned (.tuple #[]) ∧ OwnS w' B v (sortS zs) ∧ w.grownBy w' v.ownBlock := by
  obtain ⟨A, c, rfl⟩ := own_form h
  rcases own_casesS h rfl with ⟨rfl, h0, rfl, hz⟩ | ⟨g, rfl⟩
  · subst hz
    refine (Tryd.slices_Sort_string_none none 0 w).mono ?_
    rintro e w' ⟨rfl, rfl⟩
    exact ⟨rfl, by rw [show sortS [] = [] from by simp [sortS]]; exact h, grown_refl _ _⟩
  · exact sort_ownS w B c g zs.length zs h rfl h4
/-- .. and compacted -/
theorem compact_anyS (w : World) (B : Nat) (v : Value) (zs : List Bys) (h : OwnS w B v zs) (h4 : zs.length ≤ 1048576) :
    Calls Tryd.prog 23 #[v] w fun e w' => ∃ v', e = .returned v' ∧ OwnS w' B v' (Lib.compact zs) ∧ w.grownBy w' v.ownBlock := by
  obtain ⟨A, c, rfl⟩ := own_form h
  rcases own_casesS h rfl with ⟨rfl, h0, rfl, hz⟩ | ⟨g, rfl⟩
  · subst hz
    refine (Tryd.slices_Compact_string_empty none 0 w).mono ?_
    rintro e w' ⟨rfl, rfl⟩
    exact ⟨_, rfl, h, grown_refl _ _⟩
  · refine (compact_ownS w B c g zs.length zs h rfl h4).mono ?_
    rintro e w' ⟨rfl, h1, h2⟩
    exact ⟨_, rfl, h1, h2⟩
end Go.Proofs.YtjlpoigcalfdlaaDoor
namespace Go.Proofs.YtjlpoigcalfdlaaDoor
open Go Go.RowKit
set_option linter.unusedVariables false
section
variable {P : Program} {Q : Exit → Act → World → Prop} {K : Act → World → Prop} {md : Region.Mode} {S : World → Prop} {m lp : Nat}
theorem round_oper {o : Oper} {a : Act} {w : World} {K : Act → World → Prop} (hd : ∀ c, o.op ≠ .defer c) (h : Oper.wp P o a w K Q) : Oper.wpIn (Fence.wide.inRound lp) m P o a w K Q := by
  unfold Oper.wp at h
  refine ⟨fun _ _ => trivial, ?_⟩
  rw [Oper.semAt_plain _ _ _ hd]
  generalize (execOp a.eval o).run P w = r at *
  cases r with
  | ok x w' =>
    cases x <;> simp only [Oper.upon, Oper.uponIn] at h ⊢
    case value u => exact h
    case skip => exact h
    case defer d => exact h
    case enter f args => exact ⟨fun hd => (by cases hd), CallsIn.inRound lp (callsIn_wide.2 h)⟩
    case row row args => exact ⟨fun hd => (by cases hd), fun c cs _ => by obtain ⟨v, w', r, s⟩ := h c cs; exact ⟨v, w', r, stepsIn_wide.2 s⟩⟩
  | halt x w' =>
    cases x <;> simp only [Oper.upon, Oper.uponIn] at h ⊢
    case panic u => exact h
def noDefer (ops : Array Oper) (n : Nat) : Bool :=
  (List.range n).all fun j => match ops[j]? with
    | some o => (match o.op with | .defer _ => false | _ => true)
    | none => false
theorem noDefer_spec {ops : Array Oper} {n : Nat} (h : noDefer ops n = true) {j : Nat} (hj : j < n) {o : Oper} (ho : ops[j]? = some o) : ∀ c, o.op ≠ .defer c := by
  have h1 := List.all_eq_true.1 h j (List.mem_range.2 hj)
  rw [ho] at h1
  intro c hc
  simp [hc] at h1
variable {hops : Array Oper} {ops : Array Oper} {n g : Nat}
theorem op_headR (hno : ¬ LetsOut Q) (hh : ∀ j, j < n → hops[j]? = ops[j]?) (hB : aheadG md ops n = true) (hnd : noDefer ops n = true) {i : Nat} (hi : i < n) {K1 K2 : Act → World → Prop} {a : Act} {w : World} (hK : ∀ a w, K1 a w → K2 a w)
    (h : wpOp P hops (tailQ Q K) i K1 a w) : wpOpIn (Fence.wide.inRound lp) m P ops Q i K2 a w := by
  obtain ⟨o, ho, hg, _⟩ := aheadG_spec hB hi
  unfold wpOp at h
  unfold wpOpIn
  rw [hh i hi] at h
  simp only [ho] at h ⊢
  rw [wanted_head hh hg] at h
  split
  · rename_i hw
    rw [if_pos hw] at h
    rcases h with h | h
    · exact round_oper (noDefer_spec hnd hi ho) (oper_tail (Oper.wp_mono hK h))
    · exact absurd (lets_tail h.2) hno
  · rename_i hw
    rw [if_neg hw] at h
    exact ⟨fun _ _ => trivial, hK _ _ h⟩
theorem head_tailR (hno : ¬ LetsOut Q) {l : List Oper} (hs : hops.size = n) (hh : ∀ j, j < n → hops[j]? = ops[j]?) (hB : aheadG md ops n = true) (hnd : noDefer ops n = true) (hsk : Region.sinkB md ops n = true) (hch : Region.chainB md ops n = true) (hn : n < ops.size)
    (hl : ∀ j, l[j]? = ops[n + j]?) (hseq : Region.seqB md ops l.length n (Array.replicate n true ++ Array.replicate l.length false) = true) (hsize : ops.size = n + l.length) :
    ∀ (fuel : Nat) (L : Array Bool) (a : Act) (w : World), L.size = n → HeadInv md ops n (L ++ Array.replicate l.length false) →
      wpAnyH P md hops (tailQ Q (wpListIn (Fence.wide.inRound lp) m P ops Q l)) S fuel L a w → wpAnyIn (Fence.wide.inRound lp) m P md ops Q (fuel + l.length) (L ++ Array.replicate l.length false) a w := by
  intro fuel
  induction fuel with
  | zero =>
    intro L a w hL inv h
    have hall : ∀ j, j < n → L.getD j true = true := fun j hj => by
      cases hx : L.getD j true with
      | true => rfl
      | false =>
        obtain ⟨i, _, hi⟩ := some_readyG hs hh hB hL j hj hx
        rw [h.1] at hi; cases hi
    have hLe : L = Array.replicate n true := by
      refine Array.ext (by simp [hL]) fun j h1 h2 => ?_
      have := hall j (by omega)
      rw [Array.getElem_replicate]
      simpa [h1] using this
    rw [Nat.zero_add, hLe]
    exact wpAnyIn_of_seq l n _ a w hl hseq h.2
  | succ fuel ih =>
    intro L a w hL inv h
    by_cases hun : ∃ j, j < n ∧ L.getD j true = false
    · obtain ⟨j, hj, hx⟩ := hun
      obtain ⟨i, hin, hi⟩ := some_readyG hs hh hB hL j hj hx
      have hif := (ready_headG (R := Array.replicate l.length false) hs hh hB hL hin).2 hi
      rw [show fuel + 1 + l.length = (fuel + l.length) + 1 from by omega]
      refine ⟨fun h0 => (by rw [h0] at hif; cases hif), fun k hk => ?_⟩
      have hkn : k < n := by
        rcases Nat.lt_or_ge k n with h | h
        · exact h
        · exact absurd hk (tail_waits hsk hch hn inv _ j rfl hj (by rw [getD_app (by omega)]; exact hx) k h)
      have hkh := (ready_headG hs hh hB hL hkn).1 hk
      refine op_headR hno hh hB hnd hkn (fun a' w' h' => ?_) (h.2 k hkh)
      have e : (L ++ Array.replicate l.length false).setIfInBounds k true = L.setIfInBounds k true ++ Array.replicate l.length false := by
        rw [Array.setIfInBounds_append_left (by omega)]
      rw [e]
      exact ih _ a' w' (by simpa using hL) (by rw [← e]; exact inv.set hk hkn) h'.2
    · have hall : ∀ j, j < n → L.getD j true = true := fun j hj => by
        cases hx : L.getD j true with
        | true => rfl
        | false => exact absurd ⟨j, hj, hx⟩ hun
      have hLe : L = Array.replicate n true := by
        refine Array.ext (by simp [hL]) fun j h1 h2 => ?_
        have := hall j (by omega)
        rw [Array.getElem_replicate]
        simpa [h1] using this
      have hr0 : Region.ready md hops L = [] := by
        rcases hx : Region.ready md hops L with _ | ⟨i, rs⟩
        · rfl
        · have hi : i ∈ Region.ready md hops L := by rw [hx]; exact List.mem_cons_self
          obtain ⟨h1, o, ho, _⟩ := mem_ready.1 hi
          have hin : i < n := by rw [← hs]; exact (Array.getElem?_eq_some_iff.1 ho).1
          rw [hall i hin] at h1; cases h1
      refine wpAnyIn_more' ?_ (fuel + 1)
      rw [hLe]
      exact wpAnyIn_of_seq l n _ a w hl hseq (h.1 hr0)
/-- **the beginning**: n operations in whatever order, under S; then the others as they stand, within a round -/
theorem wpIn_region_round_tail {id : Nat} {a : Act} {w : World} {l : List Oper} (n : Nat) (S : World → Prop) (hm : P.follows .mixedOrders = true) (hB : tailG l.toArray n = true) (hnd : noDefer l.toArray n = true) (hno : ¬ LetsOut Q) (hS : S w.drew)
    (h : S w.drew → wpAnyH P .any (l.take n).toArray (tailQ Q (wpListIn (Fence.wide.inRound lp) m P l.toArray Q (l.drop n))) S n (Array.replicate n false) a w.drew) : (Code.region id l.toArray true).wpIn (Fence.wide.inRound lp) m P Q a w := by
  simp only [tailG, Bool.and_eq_true, decide_eq_true_eq] at hB
  obtain ⟨⟨⟨⟨h1, h2⟩, h3⟩, h4⟩, h5⟩ := hB
  have hn : n < l.length := by simpa using h4
  have hdl : l.toArray.size - n = (l.drop n).length := by simp
  have hsz : l.toArray.size = n + (l.drop n).length := by simp; omega
  refine wpIn_region_any hm ?_
  have := head_tailR (lp := lp) (m := m) (P := P) (Q := Q) (S := S) hno (hops := (l.take n).toArray) (ops := l.toArray) (n := n) (md := .any) (l := l.drop n) (by simp; omega) (fun j hj => by simp [hj]) h1 hnd h2 h3 h4 (fun j => by simp [List.getElem?_drop]) (by rw [← hdl]; exact h5) hsz
    n (Array.replicate n false) a w.drew (by simp) ?_ (h hS)
  · rw [← hsz] at this
    have e : Array.replicate n false ++ Array.replicate (l.drop n).length false = Array.replicate l.toArray.size false := by
      rw [Array.replicate_append_replicate, ← hsz]
    rw [e] at this
    exact this
  · refine ⟨by simp; omega, fun j oj _ hl => ?_, fun t ht ht' => ?_⟩
    · rw [Array.replicate_append_replicate, getD_replicate_false] at hl; cases hl
    · rw [Array.replicate_append_replicate]
      exact getD_in (by rw [← hsz]; simpa using ht') (getD_replicate_false _ _)
end
end Go.Proofs.YtjlpoigcalfdlaaDoor

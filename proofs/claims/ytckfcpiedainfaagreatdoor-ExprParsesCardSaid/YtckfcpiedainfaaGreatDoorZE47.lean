/-
  WALKS over package kinds: behindKids, Each.
  WALKS over the document's answers for layer 8: Same, of two that are the same.
-/
import Derived.Test.YtckfcpiedainfaaGreatDoorZE46
import Derived.RangeFuncCalls
import Derived.RangeFuncLeaves
import Derived.Shelf.RegionOpen
import Derived.OwnWalkIn
import Derived.TacticsInMore
import Derived.LoopNIn
import Derived.LoopIn
namespace Go.Proofs.YtckfcpiedainfaaGreatDoor
open Go Go.Proofs Go.RowKit Go.Sort
attribute [local go_sem] Oper.semAt_some
set_option linter.unusedVariables false
/-- the boxes of Each: the expression, the three results -/
structure EB (w : World) (A : Option Addr) (n c : Nat) (v2 : Value) (v3 v4 : Int) (X : World) : Prop where
  bel : Below w.heap.size w X
  e : Blk X w.heap.size 24 #[.slice A n c]
  r2 : Blk X (w.heap.size + 1) 50 #[v2]
  r3 : Blk X (w.heap.size + 1 + 1) 3 #[.int .i64 v3]
  r4 : Blk X (w.heap.size + 1 + 1 + 1) 25 #[.int .i64 v4]
section
variable {w : World} {A : Option Addr} {n c : Nat} {v2 : Value} {v3 v4 : Int} {X X' : World}
theorem EB.after (h : EB w A n c v2 v3 v4 X) (hb : Below X.heap.size X X') : EB w A n c v2 v3 v4 X' := ⟨h.bel.trans (hb.mono h.bel.size), h.e.after hb, h.r2.after hb, h.r3.after hb, h.r4.after hb⟩
theorem EB.out (h : EB w A n c v2 v3 v4 X) (u2 : Value) (u3 u4 : Int) : EB w A n c u2 u3 u4 (((X.setCell ⟨w.heap.size + 1, 0, none⟩ u2).setCell ⟨w.heap.size + 1 + 1, 0, none⟩ (.int .i64 u3)).setCell ⟨w.heap.size + 1 + 1 + 1, 0, none⟩ (.int .i64 u4)) := by
  have a1 : w.heap.size ≠ w.heap.size + 1 := by omega
  have a2 : w.heap.size ≠ w.heap.size + 1 + 1 := by omega
  have a3 : w.heap.size ≠ w.heap.size + 1 + 1 + 1 := by omega
  have a4 : w.heap.size + 1 ≠ w.heap.size + 1 + 1 := by omega
  have a5 : w.heap.size + 1 ≠ w.heap.size + 1 + 1 + 1 := by omega
  have a6 : w.heap.size + 1 + 1 ≠ w.heap.size + 1 + 1 + 1 := by omega
  refine ⟨((h.bel.setCell (p := ⟨w.heap.size + 1, 0, none⟩) (Nat.le_succ _) _).setCell (p := ⟨w.heap.size + 1 + 1, 0, none⟩) (by show w.heap.size ≤ w.heap.size + 1 + 1; omega) _).setCell (p := ⟨w.heap.size + 1 + 1 + 1, 0, none⟩) (by show w.heap.size ≤ w.heap.size + 1 + 1 + 1; omega) _, ?_, ?_, ?_, ?_⟩
  · exact ((h.e.far (p := ⟨w.heap.size + 1, 0, none⟩) a1 _).far (p := ⟨w.heap.size + 1 + 1, 0, none⟩) a2 _).far (p := ⟨w.heap.size + 1 + 1 + 1, 0, none⟩) a3 _
  · have := h.r2.set_ 0 u2
    exact (Blk.far (by simpa using this) (p := ⟨w.heap.size + 1 + 1, 0, none⟩) a4 _).far (p := ⟨w.heap.size + 1 + 1 + 1, 0, none⟩) a5 _
  · have := (h.r3.far (p := ⟨w.heap.size + 1, 0, none⟩) (Ne.symm a4) u2).set_ 0 (.int .i64 u3)
    exact Blk.far (by simpa using this) (p := ⟨w.heap.size + 1 + 1 + 1, 0, none⟩) a6 _
  · have := ((h.r4.far (p := ⟨w.heap.size + 1, 0, none⟩) (Ne.symm a5) u2).far (p := ⟨w.heap.size + 1 + 1, 0, none⟩) (Ne.symm a6) (.int .i64 u3)).set_ 0 (.int .i64 u4)
    simpa using this
end
theorem EB.far {w : World} {A : Option Addr} {n c : Nat} {v2 : Value} {v3 v4 : Int} {X : World} (h : EB w A n c v2 v3 v4 X) {g : Nat} (hg : w.heap.size + 1 + 1 + 1 < g) (i : Nat) (u : Value) : EB w A n c v2 v3 v4 (X.setCell ⟨g, i, none⟩ u) :=
  ⟨h.bel.setCell (p := ⟨g, i, none⟩) (by show w.heap.size ≤ g; omega) _, h.e.far (p := ⟨g, i, none⟩) (by show w.heap.size ≠ g; omega) _, h.r2.far (p := ⟨g, i, none⟩) (by show w.heap.size + 1 ≠ g; omega) _, h.r3.far (p := ⟨g, i, none⟩) (by show w.heap.size + 1 + 1 ≠ g; omega) _, h.r4.far (p := ⟨g, i, none⟩) (by show w.heap.size + 1 + 1 + 1 ≠ g; omega) _⟩
theorem KpE.cell {n₀ n₁ b i : Nat} {W : World} {u : Value} (h0 : n₀ ≤ b) (h1 : b < n₁) : KpE n₀ n₁ W (W.setCell ⟨b, i, none⟩ u) :=
  ⟨(Below.refl n₀ W).setCell (p := ⟨b, i, none⟩) h0 u, fun g o hg ho _ => (Below.heap_setCell W ⟨b, i, none⟩ u g (by show g ≠ b; omega)).trans ho⟩
theorem KpE.after {n₀ n₁ : Nat} {W W' : World} (hb : Below W.heap.size W W') (h0 : n₀ ≤ W.heap.size) : KpE n₀ n₁ W W' := ⟨hb.mono h0, fun g o _ ho _ => (hb.block g (Array.getElem?_eq_some_iff.1 ho).1).trans ho⟩
theorem Blk.own {X X' : World} {g : Nat} {t : TypeId} {cs : Array Value} {row : Option Nat} (h : Blk X g t cs) (hg : X.grownBy X' row) (hr : ∀ r, row = some r → ∃ o : Obj, X.heap[r]? = some o ∧ o.isCells = false) : Blk X' g t cs :=
  (grownBy_keeps_cells hg hr h rfl).trans h
theorem EB.own {w : World} {A : Option Addr} {n c : Nat} {v2 : Value} {v3 v4 : Int} {X X' : World} {row : Option Nat} (h : EB w A n c v2 v3 v4 X) (hg : X.grownBy X' row) (hr : ∀ r, row = some r → w.heap.size ≤ r ∧ ∃ o : Obj, X.heap[r]? = some o ∧ o.isCells = false) : EB w A n c v2 v3 v4 X' :=
  ⟨h.bel.grown hg h.bel.size (fun k hk => (hr k hk).1), h.e.own hg fun r e => (hr r e).2, h.r2.own hg fun r e => (hr r e).2, h.r3.own hg fun r e => (hr r e).2, h.r4.own hg fun r e => (hr r e).2⟩
/-- between two rounds: the kinds so far -/
def EI (w : World) (A : Option Addr) (n c gl : Nat) (l : List EN) (pre : List (Nat × Bool)) (W : World) : Prop := ∃ K : List Int, runP l pre (List.replicate n 0) = .ok K ∧ K.length = n ∧ (∀ v ∈ K, 0 ≤ v ∧ v ≤ 5) ∧
  EB w A n c (.slice none 0 0) 0 0 W ∧ IBlk W gl K ∧ Blk W (gl + 1) 50 #[.slice (some ⟨gl, 0, none⟩) n n]
/-- where a round has left -/
def EX (w : World) (A : Option Addr) (n c : Nat) (l : List EN) (xs : List (Nat × Bool)) (W : World) : Prop := ∃ (q : Nat) (err : Int), runP l xs (List.replicate n 0) = .bad q err ∧ EB w A n c (.slice none 0 0) q err W
theorem EI.own {w : World} {A : Option Addr} {n c gl B : Nat} {l : List EN} (hB : w.heap.size ≤ B) : OwnFrom B (EI w A n c gl l) := by
  rintro s X X' row ⟨K, h1, h2, h3, h4, h5, h6⟩ hg hr
  exact ⟨K, h1, h2, h3, h4.own hg fun r e => ⟨Nat.le_trans hB (hr r e).1, (hr r e).2⟩, Blk.own h5 hg fun r e => (hr r e).2, h6.own hg fun r e => (hr r e).2⟩
theorem EX.own {w : World} {A : Option Addr} {n c B : Nat} {l : List EN} (hB : w.heap.size ≤ B) : OwnFrom B (EX w A n c l) := by
  rintro s X X' row ⟨q, err, h1, h4⟩ hg hr
  exact ⟨q, err, h1, h4.own hg fun r e => ⟨Nat.le_trans hB (hr r e).1, (hr r e).2⟩⟩
end Go.Proofs.YtckfcpiedainfaaGreatDoor
namespace Go.Proofs.YtckfcpiedainfaaGreatDoor
open Go Go.RowKit Go.Sort
set_option linter.unusedVariables false
/-- the boxes of Same -/
structure SB2 (w : World) (A A' : Option Addr) (n c c' : Nat) (X : World) : Prop where
  bel : Below w.heap.size w X
  e : Blk X w.heap.size 24 #[.slice A n c]
  f : Blk X (w.heap.size + 1) 24 #[.slice A' n c']
theorem SB2.after {w : World} {A A' : Option Addr} {n c c' : Nat} {X X' : World} (h : SB2 w A A' n c c' X) (hb : Below X.heap.size X X') : SB2 w A A' n c c' X' := ⟨h.bel.trans (hb.mono h.bel.size), h.e.after hb, h.f.after hb⟩
theorem SB2.far {w : World} {A A' : Option Addr} {n c c' : Nat} {X : World} (h : SB2 w A A' n c c' X) {g : Nat} (hg : w.heap.size + 1 < g) (i : Nat) (u : Value) : SB2 w A A' n c c' (X.setCell ⟨g, i, none⟩ u) :=
  ⟨h.bel.setCell (p := ⟨g, i, none⟩) (by show w.heap.size ≤ g; omega) _, h.e.far (p := ⟨g, i, none⟩) (by show w.heap.size ≠ g; omega) _, h.f.far (p := ⟨g, i, none⟩) (by show w.heap.size + 1 ≠ g; omega) _⟩
theorem blk_four {X : World} {g : Nat} {t : TypeId} {a b c d a' b' c' d' : Value} (h : Blk X g t #[a, b, c, d]) : Blk ((((X.setCell ⟨g, 0, none⟩ a').setCell ⟨g, 1, none⟩ b').setCell ⟨g, 2, none⟩ c').setCell ⟨g, 3, none⟩ d') g t #[a', b', c', d'] := by
  have := (((h.set_ 0 a').set_ 1 b').set_ 2 c').set_ 3 d'
  simpa using this
theorem blk_far4 {X : World} {g g' : Nat} {t : TypeId} {cs : Array Value} {a' b' c' d' : Value} (h : Blk X g t cs) (hn : g ≠ g') : Blk ((((X.setCell ⟨g', 0, none⟩ a').setCell ⟨g', 1, none⟩ b').setCell ⟨g', 2, none⟩ c').setCell ⟨g', 3, none⟩ d') g t cs :=
  (((h.far (p := ⟨g', 0, none⟩) hn _).far (p := ⟨g', 1, none⟩) hn _).far (p := ⟨g', 2, none⟩) hn _).far (p := ⟨g', 3, none⟩) hn _
theorem sb_far4 {w : World} {A A' : Option Addr} {n c c' : Nat} {X : World} (h : SB2 w A A' n c c' X) {g : Nat} (hg : w.heap.size + 1 < g) {a b d e : Value} : SB2 w A A' n c c' ((((X.setCell ⟨g, 0, none⟩ a).setCell ⟨g, 1, none⟩ b).setCell ⟨g, 2, none⟩ d).setCell ⟨g, 3, none⟩ e) :=
  (((h.far hg 0 a).far hg 1 b).far hg 2 d).far hg 3 e
/-- two variables are made, in whatever order -/
theorem wpAnyH_alloc2 {P : Program} {md : Region.Mode} {ops : Array Oper} {Q : Exit → Act → World → Prop} {S : World → Prop} {fuel : Nat} {listed : Array Bool} {a : Act} {w : World} {i j : Nat} {oi oj : Oper} (T : TypeId) (z : Array Value)
    (hr : Region.ready md ops listed = [i, j]) (hr1 : Region.ready md ops (listed.setIfInBounds i true) = [j]) (hr2 : Region.ready md ops (listed.setIfInBounds j true) = [i])
    (hoi : ops[i]? = some oi) (hoj : ops[j]? = some oj) (hgi : oi.guard = none) (hgj : oj.guard = none)
    (hri : ∀ (a : Act) (w : World), (execOp a.eval oi).run P w = .ok (.value (.pointer (some ⟨w.heap.size, 0, none⟩))) (w.alloc (.cells z T))) (hrj : ∀ (a : Act) (w : World), (execOp a.eval oj).run P w = .ok (.value (.pointer (some ⟨w.heap.size, 0, none⟩))) (w.alloc (.cells z T)))
    (hS : ∀ W, Below w.heap.size w W → S W)
    (h1 : ∀ (g g' : Nat) (W : World), Blk W g T z → Blk W g' T z → w.heap.size ≤ g → w.heap.size ≤ g' → g ≠ g' → Below w.heap.size w W → S W → wpAnyH P md ops Q S fuel ((listed.setIfInBounds i true).setIfInBounds j true) ((a.put oi.dst (.pointer (some ⟨g, 0, none⟩))).put oj.dst (.pointer (some ⟨g', 0, none⟩))) W)
    (h2 : ∀ (g g' : Nat) (W : World), Blk W g T z → Blk W g' T z → w.heap.size ≤ g → w.heap.size ≤ g' → g ≠ g' → Below w.heap.size w W → S W → wpAnyH P md ops Q S fuel ((listed.setIfInBounds j true).setIfInBounds i true) ((a.put oj.dst (.pointer (some ⟨g, 0, none⟩))).put oi.dst (.pointer (some ⟨g', 0, none⟩))) W) : wpAnyH P md ops Q S (fuel + 2) listed a w := by
  have hz : (w.alloc (.cells z T)).heap.size = w.heap.size + 1 := by simp
  have step : ∀ {i : Nat} {o : Oper} (ho : ops[i]? = some o) (hg : o.guard = none) (hrn : ∀ (a : Act) (w : World), (execOp a.eval o).run P w = .ok (.value (.pointer (some ⟨w.heap.size, 0, none⟩))) (w.alloc (.cells z T))) (K : Act → World → Prop) (a : Act) (w : World), K (a.put o.dst (.pointer (some ⟨w.heap.size, 0, none⟩))) (w.alloc (.cells z T)) → wpOp P ops Q i K a w := by
    intro i o ho hg hrn K a w hK
    have hw : Region.wanted o (yielded ops a.tmps) = true := by simp [Region.wanted, hg]
    unfold wpOp
    simp only [ho]
    rw [if_pos hw]
    left
    unfold Oper.wp
    rw [hrn]
    exact hK
  refine wpAnyH_all hr (by simp) fun k hk => ?_
  have hk2 : k = i ∨ k = j := by simpa using hk
  rcases hk2 with rfl | rfl
  · refine step hoi hgi hri _ _ _ ⟨hS _ (below_of_alloc _), wpAnyH_all hr1 (by simp) fun k2 hk2 => ?_⟩
    obtain rfl : k2 = j := by simpa using hk2
    refine step hoj hgj hrj _ _ _ ⟨hS _ (below_more (below_of_alloc _) _), ?_⟩
    rw [hz]; exact h1 _ _ _ ((Blk.new _ _ _).alloc _) (Blk.new' hz.symm) (Nat.le_refl _) (Nat.le_succ _) (Nat.ne_of_lt (Nat.lt_succ_self _)) (below_more (below_of_alloc _) _) (hS _ (below_more (below_of_alloc _) _))
  · refine step hoj hgj hrj _ _ _ ⟨hS _ (below_of_alloc _), wpAnyH_all hr2 (by simp) fun k2 hk2 => ?_⟩
    obtain rfl : k2 = i := by simpa using hk2
    refine step hoi hgi hri _ _ _ ⟨hS _ (below_more (below_of_alloc _) _), ?_⟩
    rw [hz]; exact h2 _ _ _ ((Blk.new _ _ _).alloc _) (Blk.new' hz.symm) (Nat.le_refl _) (Nat.le_succ _) (Nat.ne_of_lt (Nat.lt_succ_self _)) (below_more (below_of_alloc _) _) (hS _ (below_more (below_of_alloc _) _))
end Go.Proofs.YtckfcpiedainfaaGreatDoor

/-
  WALKS: the closures that list the nodes at which they are called.
-/
import Derived.Test.YtdeoblhdojbbbaaDoorZ15
namespace Go.Proofs.YtdeoblhdojbbbaaDoor
open Go Go.RowKit Go.Sort
set_option linter.unusedVariables false
attribute [local go_sem ↓] Go.wp_at_zero Go.wp_at_succ
/-- a box with a list of numbers that grows -/
structure IE (w0 : World) (g0 : Nat) (ov : Value) (X : World) : Prop where
  gr : w0.grownBy X (some g0)
  bx : Blk X g0 34 #[ov]
structure IW (w0 : World) (g0 : Nat) (ov : Value) (r : List Int) (X : World) : Prop where
  e : IE w0 g0 ov X
  own : X.ownsRow w0.heap.size 3 1 ov r.length (intCells r)
def IdsInv (w0 : World) (g0 : Nat) (r : List Int) (X : World) : Prop := ∃ ov, IW w0 g0 ov r X
section
variable {w0 X X' : World} {g0 : Nat} {ov : Value} {r : List Int}
theorem own_base {w : World} {B size n : Nat} {e : TypeId} {v : Value} {xs : List Value} (h : w.ownsRow B e size v n xs) {g : Nat} (hg : v.ownBlock = some g) : B ≤ g := by
  rcases h.2 with ⟨rfl, _⟩ | ⟨g', cap, cur, rfl, hb, _⟩
  · simp [Value.ownBlock] at hg
  · have : g' = g := by simpa [Value.ownBlock] using hg
    omega
theorem IE.after (h : IE w0 g0 ov X) (hb : Below X.heap.size X X') : IE w0 g0 ov X' :=
  ⟨⟨hb.os.trans h.gr.os, hb.tape.trans h.gr.tape, hb.output.trans h.gr.output, Nat.le_trans h.gr.size hb.size, fun k hk hne => (hb.block k (Nat.lt_of_lt_of_le hk h.gr.size)).trans (h.gr.block k hk hne)⟩, h.bx.after hb⟩
theorem IW.after (h : IW w0 g0 ov r X) (hb : Below X.heap.size X X') : IW w0 g0 ov r X' := ⟨h.e.after hb, own_after h.own hb⟩
theorem IdsInv.after (h : IdsInv w0 g0 r X) (hb : Below X.heap.size X X') : IdsInv w0 g0 r X' := by
  obtain ⟨ov, h⟩ := h
  exact ⟨ov, h.after hb⟩
theorem IE.kept (h : IE w0 g0 ov X) (hown : X.ownsRow w0.heap.size 3 1 ov r.length (intCells r)) (hg : X.grownBy X' ov.ownBlock) : IE w0 g0 ov X' :=
  ⟨⟨hg.os.trans h.gr.os, hg.tape.trans h.gr.tape, hg.output.trans h.gr.output, Nat.le_trans h.gr.size hg.size, fun k hk hne =>
    (hg.block k (Nat.lt_of_lt_of_le hk h.gr.size) (fun e => by have := own_base hown e.symm; omega)).trans (h.gr.block k hk hne)⟩, h.bx.grown hg (Ne.symm (own_blk_ne hown h.bx (by decide)))⟩
theorem IW.push {x : Int} {v' : Value} (h : IW w0 g0 ov r X) (hg : X.grownBy X' ov.ownBlock) (hown : X'.ownsRow w0.heap.size 3 1 v' (r.length + 1) (intCells r ++ [.int .i64 x])) : IW w0 g0 v' (r ++ [x]) (X'.setCell ⟨g0, 0, none⟩ v') := by
  have h1 := h.e.kept h.own hg
  refine ⟨⟨only_set h1.gr 0 v', h1.bx.set_ 0 v'⟩, ?_⟩
  rw [List.length_append, List.length_singleton, show intCells (r ++ [x]) = intCells r ++ [.int .i64 x] from by simp [intCells]]
  exact own_other hown h1.bx (by decide) 0 v'
theorem IW.start {w : World} (hg : w.heap.size = g0) : IdsInv (w.alloc (.cells #[.slice none 0 0] 34)) g0 [] (w.alloc (.cells #[.slice none 0 0] 34)) :=
  ⟨.slice none 0 0, ⟨⟨World.grownBy.refl _ _, Blk.new' hg.symm⟩, ⟨rfl, .inl ⟨rfl, rfl⟩⟩⟩⟩
end
end Go.Proofs.YtdeoblhdojbbbaaDoor

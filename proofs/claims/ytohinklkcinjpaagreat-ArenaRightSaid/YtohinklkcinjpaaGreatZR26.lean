/-
  WALKS: what is answered is new memory.
  PLAIN: document order: every node stands behind its parent; marks by number.
-/
import Derived.Test.YtohinklkcinjpaaGreatZR25
namespace Go.Proofs.YtohinklkcinjpaaGreat
open Go Go.RowKit Go.Sort
set_option linter.unusedVariables false
attribute [local go_sem ↓] Go.wp_at_zero Go.wp_at_succ
def Ac.cells (x : Ac) : Array Value := #[.int .i64 x.kind, .int .i64 x.a, .int .i64 x.b, .int .i64 x.at_, .string x.word, .string x.text]
theorem own_kh {H B e size n : Nat} {X X' : World} {v : Value} {xs : List Value} (h : X.ownsRow B e size v n xs) (hH : H ≤ B) (hk : KH H X X') : X'.ownsRow B e size v n xs := by
  rcases h.2 with ⟨hv, hn⟩ | ⟨g, cap, cur, hv, hb, hg, rest⟩
  · exact ⟨h.1, .inl ⟨hv, hn⟩⟩
  · refine ⟨h.1, .inr ⟨g, cap, cur, hv, hb, ?_, rest⟩⟩
    rw [hk.keep g (by omega) (Array.getElem?_eq_some_iff.1 hg).1]
    exact hg
theorem OwnM.kh {H B : Nat} {X X' : World} {v : Value} {l : List (Nd × Leaf)} (h : OwnM X B v l) (hH : H ≤ B) (hk : KH H X X') : OwnM X' B v l :=
  ⟨own_kh h.own hH hk, fun p hp => by
    have := h.leaf p hp
    exact ⟨this.pn, this.kn, this.rn, own_kh this.p hH hk, own_kh this.k hH hk, own_kh this.r hH hk, this.sz⟩⟩
theorem Blk.kh {H g : Nat} {X X' : World} {t : TypeId} {cs : Array Value} (h : Blk X g t cs) (hH : H ≤ g) (hk : KH H X X') : Blk X' g t cs := by
  have := hk.keep g hH h.lt
  unfold Blk at h ⊢
  rw [this]; exact h
theorem own_ltH {B e size n c g : Nat} {X : World} {xs : List Value} (h : X.ownsRow B e size (.slice (some ⟨g, 0, none⟩) n c) n xs) : g < X.heap.size := by
  obtain ⟨cs, hg, _⟩ := own_blk h
  exact hg.lt
/-- the boxes of the act, of a model and of its twin -/
structure F5 (w : World) (ac : Array Value) (x1 : Int) (nds : List Nd) (g5 g6 : Nat) (A1 : Option Addr) (n1 c1 : Nat) (l1 : List (Nd × Leaf)) (A4 : Option Addr) (n4 c4 : Nat) (l4 : List (Nd × Leaf)) (X : World) : Prop where
  a : Blk X w.heap.size 32 ac
  m : Blk X g5 26 #[.int .i64 x1, .slice A1 n1 c1]
  t : Blk X g6 26 #[.int .i64 x1, .slice A4 n4 c4]
  om : OwnM X w.heap.size (.slice A1 n1 c1) l1
  lm : l1.length = n1
  mm : l1.map (·.1) = nds
  ot : OwnM X w.heap.size (.slice A4 n4 c4) l4
  lt : l4.length = n4
  mt : l4.map (·.1) = nds
  bel : Below w.heap.size w X
section
variable {w X X' : World} {ac : Array Value} {x1 : Int} {nds : List Nd} {g5 g6 : Nat} {A1 A4 : Option Addr} {n1 c1 n4 c4 : Nat} {l1 l4 : List (Nd × Leaf)}
theorem F5.after (h : F5 w ac x1 nds g5 g6 A1 n1 c1 l1 A4 n4 c4 l4 X) (hb : Below X.heap.size X X') : F5 w ac x1 nds g5 g6 A1 n1 c1 l1 A4 n4 c4 l4 X' :=
  ⟨h.a.after hb, h.m.after hb, h.t.after hb, h.om.after hb, h.lm, h.mm, h.ot.after hb, h.lt, h.mt, h.bel.trans (hb.mono h.bel.size)⟩
end
/-- the boxes of what an act made, and of its twin -/
structure F9 (H : Nat) (x1 : Int) (nds : List Nd) (g7 g9 : Nat) (A6 : Option Addr) (n6 c6 : Nat) (A8 : Option Addr) (n8 c8 : Nat) (l8 : List (Nd × Leaf)) (X : World) : Prop where
  m : Blk X g7 26 #[.int .i64 x1, .slice A6 n6 c6]
  t : Blk X g9 26 #[.int .i64 x1, .slice A8 n8 c8]
  h7 : H ≤ g7
  h9 : H ≤ g9
  ot : OwnM X H (.slice A8 n8 c8) l8
  lt : l8.length = n8
  mt : l8.map (·.1) = nds
section
variable {H : Nat} {X X' : World} {x1 : Int} {nds : List Nd} {g7 g9 : Nat} {A6 A8 : Option Addr} {n6 c6 n8 c8 : Nat} {l8 : List (Nd × Leaf)}
theorem F9.after (h : F9 H x1 nds g7 g9 A6 n6 c6 A8 n8 c8 l8 X) (hb : Below X.heap.size X X') : F9 H x1 nds g7 g9 A6 n6 c6 A8 n8 c8 l8 X' := ⟨h.m.after hb, h.t.after hb, h.h7, h.h9, h.ot.after hb, h.lt, h.mt⟩
theorem F9.kh (h : F9 H x1 nds g7 g9 A6 n6 c6 A8 n8 c8 l8 X) (hk : KH H X X') : F9 H x1 nds g7 g9 A6 n6 c6 A8 n8 c8 l8 X' := ⟨h.m.kh h.h7 hk, h.t.kh h.h9 hk, h.h7, h.h9, h.ot.kh (Nat.le_refl _) hk, h.lt, h.mt⟩
end
end Go.Proofs.YtohinklkcinjpaaGreat
namespace Go.Proofs.YtohinklkcinjpaaGreat
open Go Go.RowKit
set_option linter.unusedVariables false
/-- whoever stands in the list has its parent ahead of it, or among a -/
def Ah (nds : List Nd) : List Int → List Int → Prop
  | _, [] => True
  | a, z :: r => (∀ nd, ndOf nds z = some nd → nd.par ∈ a) ∧ Ah nds (z :: a) r
section
variable {next : Int} {nds : List Nd}
theorem Ah.mono : ∀ {L a b : List Int}, (∀ z ∈ a, z ∈ b) → Ah nds a L → Ah nds b L
  | [], _, _, _, _ => trivial
  | x :: r, a, b, hab, h => ⟨fun nd hnd => hab _ (h.1 nd hnd), Ah.mono (fun z hz => by
    rcases List.mem_cons.1 hz with rfl | hz
    · exact List.mem_cons_self ..
    · exact List.mem_cons_of_mem _ (hab z hz)) h.2⟩
theorem Ah.app : ∀ {L1 L2 a : List Int}, Ah nds a L1 → Ah nds a L2 → Ah nds a (L1 ++ L2)
  | [], _, _, _, h => h
  | x :: r, L2, a, h, h2 => ⟨h.1, Ah.app h.2 (h2.mono fun z hz => List.mem_cons_of_mem _ hz)⟩
theorem Ah.flat {f : Int → List Int} : ∀ {cs a : List Int}, (∀ c ∈ cs, Ah nds a (f c)) → Ah nds a (cs.flatMap f)
  | [], _, _ => trivial
  | c :: cs, a, h => by
    rw [List.flatMap_cons]
    exact (h c (List.mem_cons_self ..)).app (Ah.flat fun d hd => h d (List.mem_cons_of_mem _ hd))
theorem Ah.at_ : ∀ {L a : List Int} {k : Nat} {z : Int} {nd : Nd}, Ah nds a L → L[k]? = some z → ndOf nds z = some nd → nd.par ∈ a ∨ nd.par ∈ L.take k
  | [], _, _, _, _, _, h, _ => by simp at h
  | x :: r, a, 0, z, nd, h, hk, hnd => by
    simp at hk
    subst hk
    exact .inl (h.1 nd hnd)
  | x :: r, a, k + 1, z, nd, h, hk, hnd => by
    simp at hk
    rw [List.take_succ_cons, List.mem_cons]
    rcases Ah.at_ h.2 hk hnd with h1 | h1
    · rcases List.mem_cons.1 h1 with h1 | h1
      · exact .inr (.inl h1)
      · exact .inl h1
    · exact .inr (.inr h1)
theorem ah_pre (hR : RightM next nds) : ∀ (f : Nat) (x : Int) (nd : Nd) (a : List Int), ndOf nds x = some nd → depthV nds x + f = 65 → nd.par ∈ a → Ah nds a (preI nds x)
  | 0, x, nd, a, hx, hf, _ => by have := depthV_le nds x; omega
  | f + 1, x, nd, a, hx, hf, hp => by
    rw [preI_eq hR hx]
    refine ⟨fun y hy => ?_, Ah.flat fun c hc => ?_⟩
    · rw [hx] at hy
      injection hy with hy
      rw [← hy]; exact hp
    · obtain ⟨z, hz, hzp, hd⟩ := kid_depth hR hx hc
      exact ah_pre hR f c z _ hz (by omega) (by rw [hzp]; exact List.mem_cons_self ..)
theorem ah_order (hR : RightM next nds) : Ah nds [0] (orderV nds) := by
  refine Ah.flat fun r hr => ?_
  obtain ⟨nd, hnd, rfl⟩ := List.mem_map.1 hr
  obtain ⟨h1, h2⟩ := List.mem_filter.1 hnd
  have hx := (ndOf_mem hR.rise).2 ⟨h1, rfl⟩
  have := depthV_le nds nd.id
  have hp : nd.par = 0 := by simpa using h2
  exact ah_pre hR (65 - depthV nds nd.id) nd.id nd [0] hx (by omega) (by rw [hp]; exact List.mem_singleton.2 rfl)
/-- a node's parent stands ahead of it -/
theorem order_par (hR : RightM next nds) {k : Nat} {y : Int} {nd : Nd} (hk : (orderV nds)[k]? = some y) (hnd : ndOf nds y = some nd) (h0 : nd.par ≠ 0) : nd.par ∈ (orderV nds).take k := by
  rcases (ah_order hR).at_ hk hnd with h | h
  · exact absurd (List.mem_singleton.1 h) h0
  · exact h
end
/-- marks of numbers -/
def marksV (N : Nat) (ids : List Int) : List Bool := (List.range N).map fun (j : Nat) => ids.contains (j : Int)
theorem marksV_len (N : Nat) (ids : List Int) : (marksV N ids).length = N := by unfold marksV; simp
theorem marksV_nil (N : Nat) : List.replicate N false = marksV N [] := by
  unfold marksV
  simp only [List.contains_nil]
  rw [List.map_const', List.length_range]
theorem marksV_at {N : Nat} {ids : List Int} {y : Nat} (h : y < N) : (marksV N ids)[y]? = some (ids.contains (y : Int)) := by
  unfold marksV
  rw [List.getElem?_map, List.getElem?_range h]; rfl
theorem marksV_set {N : Nat} {ids : List Int} {y : Nat} (h : y < N) : (marksV N ids).set y true = marksV N (ids ++ [(y : Int)]) := by
  apply List.ext_getElem?
  intro j
  rw [List.getElem?_set]
  by_cases e : y = j
  · subst e
    rw [if_pos rfl, if_pos (by rw [marksV_len]; exact h), marksV_at h]
    simp
  · rw [if_neg e]
    rcases Nat.lt_or_ge j N with hj | hj
    · rw [marksV_at hj, marksV_at hj]
      congr 1
      have : ¬ (j : Int) = (y : Int) := by omega
      simp [this]
    · rw [List.getElem?_eq_none (by rw [marksV_len]; exact hj), List.getElem?_eq_none (by rw [marksV_len]; exact hj)]
end Go.Proofs.YtohinklkcinjpaaGreat

/-
  WALKS: the program's own: a model in memory of its own.
-/
import Derived.Test.YtmjkcbhkmkofjaaW22
namespace Go.Proofs.Ytmjkcbhkmkofjaa
open Go Go.RowKit Go.Sort
set_option linter.unusedVariables false
attribute [local go_sem ↓] Go.wp_at_zero Go.wp_at_succ

theorem take_set7 {α : Type} {xs : List α} {k : Nat} {c0 c1 c2 c3 c4 c5 c6 : α} (h : k * 7 + 7 ≤ xs.length) :
    (((((((xs.set (k * 7) c0).set (k * 7 + 1) c1).set (k * 7 + 2) c2).set (k * 7 + 3) c3).set (k * 7 + 4) c4).set (k * 7 + 5) c5).set (k * 7 + 6) c6).take ((k + 1) * 7) = xs.take (k * 7) ++ [c0, c1, c2, c3, c4, c5, c6] := by
  apply List.ext_getElem?
  intro j
  rcases Nat.lt_or_ge j (k * 7) with hj | hj
  · rw [List.getElem?_take_of_lt (by omega), List.getElem?_append_left (by rw [List.length_take]; omega), List.getElem?_take_of_lt hj]
    repeat rw [List.getElem?_set_ne (by omega)]
  · obtain ⟨r, rfl⟩ : ∃ r, j = k * 7 + r := ⟨j - k * 7, by omega⟩
    rw [List.getElem?_append_right (by rw [List.length_take]; omega), List.length_take, Nat.min_eq_left (by omega), Nat.add_sub_cancel_left]
    match r with
    | 0 => simp [List.getElem?_take, List.getElem?_set]; omega
    | 1 => simp [List.getElem?_take, List.getElem?_set]; omega
    | 2 => simp [List.getElem?_take, List.getElem?_set]; omega
    | 3 => simp [List.getElem?_take, List.getElem?_set]; omega
    | 4 => simp [List.getElem?_take, List.getElem?_set]; omega
    | 5 => simp [List.getElem?_take, List.getElem?_set]; omega
    | 6 => simp [List.getElem?_take, List.getElem?_set]; omega
    | r + 7 => rw [List.getElem?_take_eq_none (by omega)]; simp

/-- a row of nodes, of which the first ones are filled -/
structure Filling (w : World) (next : Int) (A : Option Addr) (n c k g : Nat) (xs : List Value) (l : List (Nd × Leaf)) (wr : World) : Prop where
  md : Blk wr w.heap.size 24 #[.int .i64 next, .slice A n c]
  rs : Blk wr (w.heap.size + 1) 24 #[.int .i64 0, .slice none 0 0]
  row : wr.ownsRow w.heap.size 51 7 (.slice (some ⟨g, 0, none⟩) n n) n xs
  fill : xs.take (k * 7) = allCells l
  leaf : ∀ p ∈ l, OwnLeaf wr w.heap.size p.1 p.2
  bel : Below w.heap.size w wr
section
variable {w X X' : World} {next : Int} {A : Option Addr} {n c k g : Nat} {xs : List Value} {l : List (Nd × Leaf)}
theorem Filling.after (h : Filling w next A n c k g xs l X) (hb : Below X.heap.size X X') : Filling w next A n c k g xs l X' :=
  ⟨h.md.after hb, h.rs.after hb, own_after h.row hb, h.fill, fun p hp => (h.leaf p hp).after hb, h.bel.trans (hb.mono h.bel.size)⟩
/-- what a store into the row leaves, but for what is filled -/
structure Filled (w : World) (next : Int) (A : Option Addr) (n c g : Nat) (xs : List Value) (l : List (Nd × Leaf)) (wr : World) : Prop where
  md : Blk wr w.heap.size 24 #[.int .i64 next, .slice A n c]
  rs : Blk wr (w.heap.size + 1) 24 #[.int .i64 0, .slice none 0 0]
  row : wr.ownsRow w.heap.size 51 7 (.slice (some ⟨g, 0, none⟩) n n) n xs
  leaf : ∀ p ∈ l, OwnLeaf wr w.heap.size p.1 p.2
  bel : Below w.heap.size w wr
theorem Filled.set (h : Filled w next A n c g xs l X) (j : Nat) (u : Value) : Filled w next A n c g (xs.set j u) l (X.setCell ⟨g, j, none⟩ u) := by
  obtain ⟨cs, hg, hB, _⟩ := own_blk h.row
  have hs := World.ownsRow.stored h.row j u
  refine ⟨h.md.far ?_ u, h.rs.far ?_ u, hs.1, fun p hp => (h.leaf p hp).other hg (by decide) (by decide) (by decide) j u, h.bel.setCell (p := ⟨g, j, none⟩) hB u⟩
  · exact h.md.ne_ hg (by decide)
  · exact h.rs.ne_ hg (by decide)
theorem Filling.push {p : Nd × Leaf} (h : Filling w next A n c k g xs l X) (hk : k < n) (hl : l.length = k) (hp : OwnLeaf X w.heap.size p.1 p.2) {u0 u1 u2 u3 u4 u5 u6 : Value} (hu : ndCells p = [u0, u1, u2, u3, u4, u5, u6]) :
    ∃ xs', Filling w next A n c (k + 1) g xs' (l ++ [p]) (((((((X.setCell ⟨g, k * 7, none⟩ u0).setCell ⟨g, k * 7 + 1, none⟩ u1).setCell ⟨g, k * 7 + 2, none⟩ u2).setCell ⟨g, k * 7 + 3, none⟩ u3).setCell ⟨g, k * 7 + 4, none⟩ u4).setCell ⟨g, k * 7 + 5, none⟩ u5).setCell ⟨g, k * 7 + 6, none⟩ u6) := by
  have h0 : Filled w next A n c g xs (l ++ [p]) X := ⟨h.md, h.rs, h.row, fun q hq => by
    rcases List.mem_append.1 hq with hq | hq
    · exact h.leaf q hq
    · obtain rfl : q = p := by simpa using hq
      exact hp, h.bel⟩
  have h7 := ((((((h0.set (k * 7) u0).set (k * 7 + 1) u1).set (k * 7 + 2) u2).set (k * 7 + 3) u3).set (k * 7 + 4) u4).set (k * 7 + 5) u5).set (k * 7 + 6) u6
  refine ⟨_, h7.md, h7.rs, h7.row, ?_, h7.leaf, h7.bel⟩
  rw [take_set7 (by rw [h.row.1]; omega), h.fill, ← hu]
  simp [allCells]
theorem Filling.room (h : Filling w next A n c k g xs l X) (hk : k < n) :
    (∃ u, X.cell? ⟨g, k * 7, none⟩ = some u ∧ X.frozen? ⟨g, k * 7, none⟩ = false) ∧ (∃ u, X.cell? ⟨g, k * 7 + 1, none⟩ = some u ∧ X.frozen? ⟨g, k * 7 + 1, none⟩ = false) ∧
    (∃ u, X.cell? ⟨g, k * 7 + 2, none⟩ = some u ∧ X.frozen? ⟨g, k * 7 + 2, none⟩ = false) ∧ (∃ u, X.cell? ⟨g, k * 7 + 3, none⟩ = some u ∧ X.frozen? ⟨g, k * 7 + 3, none⟩ = false) ∧
    (∃ u, X.cell? ⟨g, k * 7 + 4, none⟩ = some u ∧ X.frozen? ⟨g, k * 7 + 4, none⟩ = false) ∧ (∃ u, X.cell? ⟨g, k * 7 + 5, none⟩ = some u ∧ X.frozen? ⟨g, k * 7 + 5, none⟩ = false) ∧
    (∃ u, X.cell? ⟨g, k * 7 + 6, none⟩ = some u ∧ X.frozen? ⟨g, k * 7 + 6, none⟩ = false) := by
  have key : ∀ j, j < n * 7 → ∃ u, X.cell? ⟨g, j, none⟩ = some u ∧ X.frozen? ⟨g, j, none⟩ = false := fun j hj => by
    have h1 := World.ownsRow.cellAt h.row j hj
    rw [List.getElem?_eq_getElem (by rw [h.row.1]; exact hj)] at h1
    exact ⟨_, h1, World.ownsRow.frozenAt h.row j⟩
  exact ⟨key _ (by omega), key _ (by omega), key _ (by omega), key _ (by omega), key _ (by omega), key _ (by omega), key _ (by omega)⟩
theorem Filling.ownM {k : Nat} {xs : List Value} (h : Filling w next A k c k g xs l X) (hl : l.length = k) : OwnM X w.heap.size (.slice (some ⟨g, 0, none⟩) k k) l := by
  refine ⟨?_, h.leaf⟩
  have h1 := h.row
  have h2 := h.fill
  rw [List.take_of_length_le (by rw [h1.1]; exact Nat.le_refl _)] at h2
  unfold OwnN
  rw [hl, ← h2]
  exact h1
theorem filling_start (w : World) (next : Int) (A : Option Addr) (n c : Nat) (cur : Array Value) (hcs : cur.size = n * 7) (hn : n ≤ maxLen) : Filling w next A n c 0 (w.heap.size + 1 + 1) cur.toList []
    (((w.alloc (.cells #[.int .i64 next, .slice A n c] 24)).alloc (.cells #[.int .i64 0, .slice none 0 0] 24)).alloc (.cells cur 51)) := by
  refine ⟨?_, ?_, ?_, by simp [allCells], by simp, below_more (below_more (below_more (Below.refl _ _) _) _) _⟩
  · exact ((Blk.new w _ _).alloc _).alloc _
  · exact (Blk.new' (by simp)).alloc _
  · exact ⟨by simpa using hcs, .inr ⟨w.heap.size + 1 + 1, n, cur, rfl, by omega, Blk.new' (by simp), Nat.le_refl _, hn, hcs, List.take_of_length_le (by simp [hcs])⟩⟩
end

set_option maxRecDepth 100000 in
set_option maxHeartbeats 3200000 in
theorem own_any (w : World) (hi : Nat) (next : Int) (A : Option Addr) (n c : Nat) (nds : List Nd) (h : NodesIn w 0 hi A n c nds) (hh : hi ≤ w.heap.size) (hn : n ≤ 4096) (hf : ∀ nd ∈ nds, Fits 1 nd) :
    Calls Try.prog 44 #[.agg #[.int .i64 next, .slice A n c]] w fun e w' => ∃ g l, e = .returned (.agg #[.int .i64 next, .slice (some ⟨g, 0, none⟩) n n]) ∧ OwnM w' w.heap.size (.slice (some ⟨g, 0, none⟩) n n) l ∧ l.map (·.1) = nds ∧ Below w.heap.size w w' := by
  have hc := h.2.2.1
  have hnc := h.2.1
  have HL := Lib.hid h.1
  unfold maxLen at hc
  obtain ⟨i0, hi0, hz0, hz1, hz2⟩ := info_parts nodeInfo
  obtain ⟨cur, hcs, hmk⟩ := make_rows 22 51 i0 _ 7 120 Try.underlying22 hi0 hz0 hz1 hz2 rfl n (by omega) (by omega)
  have HCS := Lib.hid hcs
  clear hcs hz0 hz1 hz2 hi0
  go_enter Try.func44, Try.ntmps44
  go_wp2_with fail
  go_loopw [4, 11] (fun i4 i wr => ∃ (k : Nat) (xs : List Value) (l : List (Nd × Leaf)), k ≤ n ∧ i = .int .i64 k ∧ Filling w next A n c k (w.heap.size + 1 + 1) xs l wr ∧ Hid (l.map (·.1) = nds.take k)) (fun _ i _ => n - (intOf i).toNat)
  case atStart => exact ⟨0, cur.toList, [], Nat.zero_le _, rfl, filling_start w next A n c cur HCS.out (by unfold maxLen; omega), Lib.hid rfl⟩
  case round =>
    obtain ⟨k, xs, l, hk, rfl, F, HT⟩ := hrel
    have c1 := F.md.cell 1
    simp at c1
    have hbel := F.bel
    have hwz := hbel.size
    have HF := Lib.hid F
    clear F
    by_cases hlt : k < n
    · obtain ⟨b, o, hA, _, hb, V, hV⟩ := h.all (by omega)
      obtain ⟨nd, hnd⟩ : ∃ nd, nds[k]? = some nd := ⟨nds[k]'(by have := HL.out; omega), List.getElem?_eq_getElem _⟩
      have hat := (hV k nd hnd).1.below hbel (by omega)
      have hlf := (hV k nd hnd).2.below (hbel.mono hh)
      have hfi := hf nd (List.mem_of_getElem? hnd)
      generalize V k = Lk at hat hlf
      subst hA
      have HON := Lib.hid (ownNode_any wr hi nd Lk hlf (by omega) hfi)
      have HND := Lib.hid hnd
      obtain ⟨⟨Ap, np, cp⟩, ⟨Ak, nk, ck⟩, ⟨Ar, nr, cr⟩⟩ := Lk
      obtain ⟨a0, a1, a2, a3, a4, a5, a6⟩ := hat
      simp only at a4 a5 a6
      have hlk : l.length = k := by have := congrArg List.length HT.out; rw [List.length_map, List.length_take, HL.out] at this; omega
      have HLK := Lib.hid hlk
      clear hV hnd hfi hlf hlk
      go_wp2_with (go_at_call 78; go_must (refine HON.out.mono ?_; rintro e w2 ⟨⟨⟨A1, n1, k1⟩, ⟨A2, n2, k2⟩, ⟨A3, n3, k3⟩⟩, rfl, hl2, hb2⟩; have hF2 := HF.out.after hb2; obtain ⟨⟨u0, r0, s0⟩, ⟨u1, r1, s1⟩, ⟨u2, r2, s2⟩, ⟨u3, r3, s3⟩, ⟨u4, r4, s4⟩, ⟨u5, r5, s5⟩, ⟨u6, r6, s6⟩⟩ := hF2.room hlt; have HF2 := Lib.hid hF2; have HL2 := Lib.hid (hl2.mono hwz); clear hF2 hl2 hb2))
      obtain ⟨xs', hF'⟩ := HF2.out.push (p := (nd, ⟨⟨A1, n1, k1⟩, ⟨A2, n2, k2⟩, ⟨A3, n3, k3⟩⟩)) hlt HLK.out HL2.out rfl
      exact ⟨⟨k + 1, xs', l ++ [(nd, ⟨⟨A1, n1, k1⟩, ⟨A2, n2, k2⟩, ⟨A3, n3, k3⟩⟩)], by omega, by simp, hF', Lib.hid (by rw [List.map_append, HT.out, List.take_add_one, HND.out]; rfl)⟩, by simp only [intOf]; omega⟩
    · have hkn : k = n := by omega
      subst hkn
      have m0 := HF.out.md.cell 0
      have m1 := HF.out.md.frozen 1
      have t0 := HF.out.rs.cell 0
      have t1 := HF.out.rs.cell 1
      have t2 := HF.out.rs.frozen 0
      have t3 := HF.out.rs.frozen 1
      simp at m0 t0 t1
      have hnn : l.map (·.1) = nds := by rw [HT.out, List.take_of_length_le (by rw [HL.out]; omega)]
      have HNN := Lib.hid hnn
      have HLN : Hid (l.length = k) := Lib.hid (by have := congrArg List.length hnn; rw [List.length_map, HL.out] at this; exact this)
      clear h hf hnn
      go_wp2_with fail
      (try rw [Exit.noGoto_ret])
      (try simp only [Exit.inBlock, Exit.then])
      have hres : Try.f44.results = #[.cell 2 24] := by kernel_rfl
      refine bodyPost_ret (v := .agg #[.int .i64 next, .slice (some ⟨w.heap.size + 1 + 1, 0, none⟩) k k]) ?hr rfl ?_
      case hr =>
        simp only [results, hres]
        go_simp
      have hm : OwnM wr w.heap.size (.slice (some ⟨w.heap.size + 1 + 1, 0, none⟩) k k) l := HF.out.ownM HLN.out
      refine ⟨_, l, rfl, ?_, HNN.out, ?_⟩
      · exact ((hm.other HF.out.md 1 _).other (HF.out.rs.far (p := ⟨w.heap.size, 1, none⟩) (by simp) _) 0 _).other ((HF.out.rs.far (p := ⟨w.heap.size, 1, none⟩) (by simp) _).set_ 0 _) 1 _
      · exact ((HF.out.bel.setCell (p := ⟨w.heap.size, 1, none⟩) (by simp) _).setCell (p := ⟨w.heap.size + 1, 0, none⟩) (by simp) _).setCell (p := ⟨w.heap.size + 1, 1, none⟩) (by simp) _
end Go.Proofs.Ytmjkcbhkmkofjaa

/-
  WALKS: the document's: nodes and models in memory of their own.
-/
import Derived.Test.YtmjkcbhkmkofjaaW23
namespace Go.Proofs.Ytmjkcbhkmkofjaa
open Go Go.RowKit Go.Sort
set_option linter.unusedVariables false
attribute [local go_sem ↓] Go.wp_at_zero Go.wp_at_succ

theorem own_form {w : World} {B size n : Nat} {e : TypeId} {v : Value} {xs : List Value} (h : w.ownsRow B e size v n xs) : ∃ A c, v = .slice A n c := by
  rcases h.2 with ⟨rfl, rfl⟩ | ⟨g, cap, _, rfl, _⟩
  · exact ⟨none, 0, rfl⟩
  · exact ⟨_, _, rfl⟩
theorem own_emptyB {w : World} {B size g : Nat} {e : TypeId} (hg : Blk w g e #[]) (hB : B ≤ g) : w.ownsRow B e size (.slice (some ⟨g, 0, none⟩) 0 0) 0 [] := own_empty hg hB
/-- two boxes of nodes: what stands in the first one -/
structure RN (w : World) (cs : Array Value) (X : World) : Prop where
  b5 : Blk X w.heap.size 51 cs
  b6 : Blk X (w.heap.size + 1) 51 #[.int .i64 0, .string ⟨#[]⟩, .int .i64 0, .string ⟨#[]⟩, .slice none 0 0, .slice none 0 0, .slice none 0 0]
  bel : Below w.heap.size w X
section
variable {w X X' : World} {cs : Array Value}
theorem RN.after (h : RN w cs X) (hb : Below X.heap.size X X') : RN w cs X' := ⟨h.b5.after hb, h.b6.after hb, h.bel.trans (hb.mono h.bel.size)⟩
theorem RN.kept (h : RN w cs X) {e : TypeId} {size n : Nat} {v : Value} {xs : List Value} (hown : X.ownsRow w.heap.size e size v n xs) (hne : e ≠ 51) (hg : X.grownBy X' v.ownBlock) : RN w cs X' :=
  ⟨h.b5.grown hg (Ne.symm (own_blk_ne hown h.b5 hne)), h.b6.grown hg (Ne.symm (own_blk_ne hown h.b6 hne)), below_grows h.bel hg hown (Nat.le_refl _)⟩
theorem RN.set (h : RN w cs X) (i : Nat) (u : Value) : RN w (cs.setIfInBounds i u) (X.setCell ⟨w.heap.size, i, none⟩ u) :=
  ⟨h.b5.set_ i u, h.b6.far (p := ⟨w.heap.size, i, none⟩) (by simp) u, h.bel.setCell (p := ⟨w.heap.size, i, none⟩) (Nat.le_refl _) u⟩
end

set_option maxRecDepth 100000 in
set_option maxHeartbeats 3200000 in
theorem refNode_any (w : World) (hi : Nat) (nd : Nd) (L : Leaf) (h : LeafIn w 0 hi nd L) (hh : hi ≤ w.heap.size) (hf : Fits 1 nd) :
    Calls Try.prog 60 #[.agg #[.int .i64 nd.id, .string nd.con, .int .i64 nd.par, .string nd.role, .slice L.p.A L.p.n L.p.c, .slice L.k.A L.k.n L.k.c, .slice L.r.A L.r.n L.r.c]] w fun e w' => ∃ M : Leaf, e = .returned (.agg #[.int .i64 nd.id, .string nd.con, .int .i64 nd.par, .string nd.role, .slice M.p.A M.p.n M.p.c, .slice M.k.A M.k.n M.k.c, .slice M.r.A M.r.n M.r.c]) ∧ OwnLeaf w' w.heap.size nd M ∧ Below w.heap.size w w' := by
  obtain ⟨⟨Ap, np, cp⟩, ⟨Ak, nk, ck⟩, ⟨Ar, nr, cr⟩⟩ := L
  obtain ⟨f1, f2, f3, f4, f5, f6, f7⟩ := h
  simp only at f1 f2 f3 f4 f5 f6
  have g1 := hf.p
  have g2 := hf.k
  have g3 := hf.r
  have hR0 : RN w #[.int .i64 nd.id, .string nd.con, .int .i64 nd.par, .string nd.role, .slice Ap np cp, .slice Ak nk ck, .slice Ar nr cr] ((w.alloc (.cells #[.int .i64 nd.id, .string nd.con, .int .i64 nd.par, .string nd.role, .slice Ap np cp, .slice Ak nk ck, .slice Ar nr cr] 51)).alloc (.cells #[.int .i64 0, .string ⟨#[]⟩, .int .i64 0, .string ⟨#[]⟩, .slice none 0 0, .slice none 0 0, .slice none 0 0] 51)) := ⟨(Blk.new w _ _).alloc _, Blk.new' (by simp), below_more (below_more (Below.refl _ _) _) _⟩
  have HR0 := Lib.hid hR0
  have x0 := hR0.b5.cell 4
  have F4 := Lib.hid f4
  have F5 := Lib.hid f5
  have F6 := Lib.hid f6
  have HF1 := Lib.hid f1
  have HF2 := Lib.hid f2
  have HF3 := Lib.hid f3
  have HSZ := Lib.hid f7
  have b1 : np * 32 ≤ 140737488355328 := by omega
  have b2 : nk * 8 ≤ 140737488355328 := by omega
  have b3 : nr * 24 ≤ 140737488355328 := by omega
  obtain ⟨i1, hi1, hz1, hs1, hb1⟩ := info_parts propInfo
  obtain ⟨i2, hi2, hz2, hs2, hb2⟩ := info_parts intInfo
  obtain ⟨i3, hi3, hz3, hs3, hb3⟩ := info_parts refInfo
  clear hR0 x0 f1 f2 f3 f4 f5 f6 f7 g1 g2 g3 hf
  go_enter Try.func60, Try.ntmps60
  go_wp2_with (first | (at_builtin; with_reducible show wpList _ _ _ (⟨some 6, _, _, _, _, _⟩ :: _) _ _; go_must (refine wpList_app (o := ⟨some 6, _, _, _, _, _⟩) _ rfl (.tmp 3) (.tmp 5) _ rfl w.heap.size 63 i1 _ 2 32 Try.underlying47 hi1 hz1 hs1 hb1 rfl (by omega) _ 0 [] rfl (own_emptyB (Blk.new' (by simp)) (Nat.le_trans HR0.out.bel.size (Nat.le_of_eq (by simp)))) 0 hi Ap np cp (propCells nd.props) rfl (F4.out.below ((HR0.out.bel.trans ((below_more (Below.refl _ _) _).mono HR0.out.bel.size)).mono hh)) (propCells_one _) (by unfold maxLen; omega) (by omega) (Nat.le_trans HR0.out.bel.size (by simp)) ?_); go_must (intro v1 w1 hown1 hgr1 _; rw [Nat.zero_add, List.nil_append] at hown1; obtain ⟨A1, c1, rfl⟩ := own_form hown1; have hR1 := (HR0.out.after (below_more (Below.refl _ _) _)).kept (own_emptyB (size := 2) (e := 63) (B := w.heap.size) (Blk.new' (by simp)) (Nat.le_trans HR0.out.bel.size (Nat.le_of_eq (by simp)))) (by decide) hgr1; have HO1 := Lib.hid (own_other hown1 hR1.b5 (by decide) 4 (.slice A1 np c1)); have x1 := hR1.b5.cell 4; have y1 := hR1.b5.frozen 4; simp at x1; have hq1 := hR1.set 4 (.slice A1 np c1); have p1 : ((w1.setCell ⟨w.heap.size, 4, none⟩ (.slice A1 np c1)).alloc (.cells #[] 3)).cell? ⟨w.heap.size, 5, none⟩ = some (.slice Ak nk ck) := ((hq1.after (below_more (Below.refl _ _) _)).b5.cell 5).trans rfl; have HQ1 := Lib.hid hq1; clear hq1; clear hR1 hown1 hgr1)) | (at_builtin; with_reducible show wpList _ _ _ (⟨some 11, _, _, _, _, _⟩ :: _) _ _; go_must (refine wpList_app (o := ⟨some 11, _, _, _, _, _⟩) _ rfl (.tmp 8) (.tmp 10) _ rfl w.heap.size 3 i2 _ 1 8 Try.underlying48 hi2 hz2 hs2 hb2 rfl (by omega) _ 0 [] rfl (own_emptyB (Blk.new' (by simp)) (Nat.le_trans HQ1.out.bel.size (Nat.le_of_eq (by simp)))) 0 hi Ak nk ck (intCells nd.kids) rfl (F5.out.below ((HQ1.out.bel.trans ((below_more (Below.refl _ _) _).mono HQ1.out.bel.size)).mono hh)) (intCells_one _) (by unfold maxLen; omega) (by omega) (Nat.le_trans HQ1.out.bel.size (by simp)) ?_); go_must (intro v2 w2 hown2 hgr2 _; rw [Nat.zero_add, List.nil_append] at hown2; obtain ⟨A2, c2, rfl⟩ := own_form hown2; have hR2 := (HQ1.out.after (below_more (Below.refl _ _) _)).kept (own_emptyB (size := 1) (e := 3) (B := w.heap.size) (Blk.new' (by simp)) (Nat.le_trans HQ1.out.bel.size (Nat.le_of_eq (by simp)))) (by decide) hgr2; have HO12 := Lib.hid (own_other (own_kept (own_after HO1.out (below_more (Below.refl _ _) _)) (own_emptyB (size := 1) (e := 3) (B := w.heap.size) (Blk.new' (by simp)) (Nat.le_trans HQ1.out.bel.size (Nat.le_of_eq (by simp)))) (by decide) hgr2) hR2.b5 (by decide) 5 (.slice A2 nk c2)); have HO2 := Lib.hid (own_other hown2 hR2.b5 (by decide) 5 (.slice A2 nk c2)); have x2 := hR2.b5.cell 5; have y2 := hR2.b5.frozen 5; simp at x2; have hq2 := hR2.set 5 (.slice A2 nk c2); have p2 : ((w2.setCell ⟨w.heap.size, 5, none⟩ (.slice A2 nk c2)).alloc (.cells #[] 65)).cell? ⟨w.heap.size, 6, none⟩ = some (.slice Ar nr cr) := ((hq2.after (below_more (Below.refl _ _) _)).b5.cell 6).trans rfl; have HQ2 := Lib.hid hq2; clear hq2; clear hR2 hown2 hgr2)) | (at_builtin; with_reducible show wpList _ _ _ (⟨some 16, _, _, _, _, _⟩ :: _) _ _; go_must (refine wpList_app (o := ⟨some 16, _, _, _, _, _⟩) _ rfl (.tmp 13) (.tmp 15) _ rfl w.heap.size 65 i3 _ 2 24 Try.underlying49 hi3 hz3 hs3 hb3 rfl (by omega) _ 0 [] rfl (own_emptyB (Blk.new' (by simp)) (Nat.le_trans HQ2.out.bel.size (Nat.le_of_eq (by simp)))) 0 hi Ar nr cr (refCells nd.refs) rfl (F6.out.below ((HQ2.out.bel.trans ((below_more (Below.refl _ _) _).mono HQ2.out.bel.size)).mono hh)) (refCells_one _) (by unfold maxLen; omega) (by omega) (Nat.le_trans HQ2.out.bel.size (by simp)) ?_); go_must (intro v3 w3 hown3 hgr3 _; rw [Nat.zero_add, List.nil_append] at hown3; obtain ⟨A3, c3, rfl⟩ := own_form hown3; have hR3 := (HQ2.out.after (below_more (Below.refl _ _) _)).kept (own_emptyB (size := 2) (e := 65) (B := w.heap.size) (Blk.new' (by simp)) (Nat.le_trans HQ2.out.bel.size (Nat.le_of_eq (by simp)))) (by decide) hgr3; have HO13 := Lib.hid (own_other (own_kept (own_after HO12.out (below_more (Below.refl _ _) _)) (own_emptyB (size := 2) (e := 65) (B := w.heap.size) (Blk.new' (by simp)) (Nat.le_trans HQ2.out.bel.size (Nat.le_of_eq (by simp)))) (by decide) hgr3) hR3.b5 (by decide) 6 (.slice A3 nr c3)); have HO23 := Lib.hid (own_other (own_kept (own_after HO2.out (below_more (Below.refl _ _) _)) (own_emptyB (size := 2) (e := 65) (B := w.heap.size) (Blk.new' (by simp)) (Nat.le_trans HQ2.out.bel.size (Nat.le_of_eq (by simp)))) (by decide) hgr3) hR3.b5 (by decide) 6 (.slice A3 nr c3)); have HO3 := Lib.hid (own_other hown3 hR3.b5 (by decide) 6 (.slice A3 nr c3)); have x3 := hR3.b5.cell 6; have y3 := hR3.b5.frozen 6; simp at x3; have hq3 := hR3.set 6 (.slice A3 nr c3); have k0 := hq3.b5.cell 0; have k1 := hq3.b5.cell 1; have k2 := hq3.b5.cell 2; have k3 := hq3.b5.cell 3; have k4 := hq3.b5.cell 4; have k5 := hq3.b5.cell 5; have k6 := hq3.b5.cell 6; simp at k0 k1 k2 k3 k4 k5 k6; have m0 := hq3.b6.cell 0; have m1 := hq3.b6.cell 1; have m2 := hq3.b6.cell 2; have m3 := hq3.b6.cell 3; have m4 := hq3.b6.cell 4; have m5 := hq3.b6.cell 5; have m6 := hq3.b6.cell 6; simp at m0 m1 m2 m3 m4 m5 m6; have l0 := hq3.b6.frozen 0; have l1 := hq3.b6.frozen 1; have l2 := hq3.b6.frozen 2; have l3 := hq3.b6.frozen 3; have l4 := hq3.b6.frozen 4; have l5 := hq3.b6.frozen 5; have l6 := hq3.b6.frozen 6; have HQ3 := Lib.hid hq3; clear hq3; clear hR3 hown3 hgr3)))
  (try rw [Exit.noGoto_ret])
  (try simp only [Exit.inBlock, Exit.then])
  have hres : Try.f60.results = #[.cell 2 51] := by kernel_rfl
  refine bodyPost_ret (v := .agg #[.int .i64 nd.id, .string nd.con, .int .i64 nd.par, .string nd.role, .slice A1 np c1, .slice A2 nk c2, .slice A3 nr c3]) ?hr rfl ?_
  case hr =>
    simp only [results, hres]
    go_simp
  have hR : NodeR w nd ⟨⟨A1, np, c1⟩, ⟨A2, nk, c2⟩, ⟨A3, nr, c3⟩⟩ w.heap.size (w.heap.size + 1) (w3.setCell ⟨w.heap.size, 6, none⟩ (.slice A3 nr c3)) := ⟨⟨HF1.out, HF2.out, HF3.out, HO13.out, HO23.out, HO3.out, HSZ.out⟩, ⟨_, HQ3.out.b5⟩, ⟨_, HQ3.out.b6⟩, HQ3.out.bel⟩
  have hE := ((((((hR.s6 (by omega) 0 (.int .i64 nd.id)).s6 (by omega) 1 (.string nd.con)).s6 (by omega) 2 (.int .i64 nd.par)).s6 (by omega) 3 (.string nd.role)).s6 (by omega) 4 (.slice A1 np c1)).s6 (by omega) 5 (.slice A2 nk c2)).s6 (by omega) 6 (.slice A3 nr c3)
  exact ⟨⟨⟨A1, np, c1⟩, ⟨A2, nk, c2⟩, ⟨A3, nr, c3⟩⟩, rfl, hE.leaf, hE.bel⟩
end Go.Proofs.Ytmjkcbhkmkofjaa

/-
  WALKS: the document's: nodes and models in memory of their own.
  WALKS: how deep a node stands, the program's and the document's.
  WALKS: the document's: a node's kids in a role; the place ahead of which a place of a role is.
  WALKS: the roots; document order, what is below a node, who refers to it, as the program tells them.
  WALKS: what is below a node, who refers to it, as the program tells them.
  WALKS: how deep a node stands, its kids in a role, the node itself, as the program tells them.
-/
import Derived.Test.YtdeoblhdojbbbaaDoorZ21
namespace Go.Proofs.YtdeoblhdojbbbaaDoor
open Go Go.RowKit Go.Sort
set_option linter.unusedVariables false
attribute [local go_sem ↓] Go.wp_at_zero Go.wp_at_succ
theorem own_form {w : World} {B size n : Nat} {e : TypeId} {v : Value} {xs : List Value} (h : w.ownsRow B e size v n xs) : ∃ A c, v = .slice A n c := by
  rcases h.2 with ⟨rfl, rfl⟩ | ⟨g, cap, _, rfl, _⟩
  · exact ⟨none, 0, rfl⟩
  · exact ⟨_, _, rfl⟩
theorem own_emptyB {w : World} {B size g : Nat} {e : TypeId} (hg : Blk w g e #[]) (hB : B ≤ g) : w.ownsRow B e size (.slice (some ⟨g, 0, none⟩) 0 0) 0 [] := own_empty hg hB
/-- two boxes of nodes: what stands in the first one -/
structure RN (w : World) (cs : Array Value) (X : World) : Prop where
  b5 : Blk X w.heap.size 37 cs
  b6 : Blk X (w.heap.size + 1) 37 #[.int .i64 0, .string ⟨#[]⟩, .int .i64 0, .string ⟨#[]⟩, .slice none 0 0, .slice none 0 0, .slice none 0 0]
  bel : Below w.heap.size w X
section
variable {w X X' : World} {cs : Array Value}
theorem RN.after (h : RN w cs X) (hb : Below X.heap.size X X') : RN w cs X' := ⟨h.b5.after hb, h.b6.after hb, h.bel.trans (hb.mono h.bel.size)⟩
theorem RN.kept (h : RN w cs X) {e : TypeId} {size n : Nat} {v : Value} {xs : List Value} (hown : X.ownsRow w.heap.size e size v n xs) (hne : e ≠ 37) (hg : X.grownBy X' v.ownBlock) : RN w cs X' :=
  ⟨h.b5.grown hg (Ne.symm (own_blk_ne hown h.b5 hne)), h.b6.grown hg (Ne.symm (own_blk_ne hown h.b6 hne)), below_grows h.bel hg hown (Nat.le_refl _)⟩
theorem RN.set (h : RN w cs X) (i : Nat) (u : Value) : RN w (cs.setIfInBounds i u) (X.setCell ⟨w.heap.size, i, none⟩ u) :=
  ⟨h.b5.set_ i u, h.b6.far (p := ⟨w.heap.size, i, none⟩) (by simp) u, h.bel.setCell (p := ⟨w.heap.size, i, none⟩) (Nat.le_refl _) u⟩
end
set_option maxRecDepth 100000 in
set_option maxHeartbeats 3200000 in
theorem refNode_any (w : World) (hi : Nat) (nd : Nd) (L : Leaf) (h : LeafIn w 0 hi nd L) (hh : hi ≤ w.heap.size) (hf : Fits 1 nd) :
    Calls Tryd.prog 9 #[.agg #[.int .i64 nd.id, .string nd.con, .int .i64 nd.par, .string nd.role, .slice L.p.A L.p.n L.p.c, .slice L.k.A L.k.n L.k.c, .slice L.r.A L.r.n L.r.c]] w fun e w' => ∃ M : Leaf, e = .returned (.agg #[.int .i64 nd.id, .string nd.con, .int .i64 nd.par, .string nd.role, .slice M.p.A M.p.n M.p.c, .slice M.k.A M.k.n M.k.c, .slice M.r.A M.r.n M.r.c]) ∧ OwnLeaf w' w.heap.size nd M ∧ Below w.heap.size w w' := by
  obtain ⟨⟨Ap, np, cp⟩, ⟨Ak, nk, ck⟩, ⟨Ar, nr, cr⟩⟩ := L
  obtain ⟨f1, f2, f3, f4, f5, f6, f7⟩ := h
  simp only at f1 f2 f3 f4 f5 f6
  have g1 := hf.p
  have g2 := hf.k
  have g3 := hf.r
  have hR0 : RN w #[.int .i64 nd.id, .string nd.con, .int .i64 nd.par, .string nd.role, .slice Ap np cp, .slice Ak nk ck, .slice Ar nr cr] ((w.alloc (.cells #[.int .i64 nd.id, .string nd.con, .int .i64 nd.par, .string nd.role, .slice Ap np cp, .slice Ak nk ck, .slice Ar nr cr] 37)).alloc (.cells #[.int .i64 0, .string ⟨#[]⟩, .int .i64 0, .string ⟨#[]⟩, .slice none 0 0, .slice none 0 0, .slice none 0 0] 37)) := ⟨(Blk.new w _ _).alloc _, Blk.new' (by simp), below_more (below_more (Below.refl _ _) _) _⟩
  have HR0 := Lib.hid hR0
  have x0 := hR0.b5.cell 4
  have F4 := Lib.hid f4
  have F5 := Lib.hid f5
  have F6 := Lib.hid f6
  have HF1 := Lib.hid f1
  have HF2 := Lib.hid f2
  have HF3 := Lib.hid f3
  have HSZ := Lib.hid f7
  have b1 : np * 32 ≤ 140737488355328 := by omega
  have b2 : nk * 8 ≤ 140737488355328 := by omega
  have b3 : nr * 24 ≤ 140737488355328 := by omega
  obtain ⟨i1, hi1, hz1, hs1, hb1⟩ := info_parts propInfo
  obtain ⟨i2, hi2, hz2, hs2, hb2⟩ := info_parts intInfo
  obtain ⟨i3, hi3, hz3, hs3, hb3⟩ := info_parts refInfo
  clear hR0 x0 f1 f2 f3 f4 f5 f6 f7 g1 g2 g3 hf
  go_enter Tryd.func9, Tryd.ntmps9
  go_wp2_with (first | (at_builtin; with_reducible show wpList _ _ _ (⟨some 6, _, _, _, _, _⟩ :: _) _ _; go_must (refine wpList_app (o := ⟨some 6, _, _, _, _, _⟩) _ rfl (.tmp 3) (.tmp 5) _ rfl w.heap.size 56 i1 _ 2 32 Tryd.underlying33 hi1 hz1 hs1 hb1 rfl (by omega) _ 0 [] rfl (own_emptyB (Blk.new' (by simp)) (Nat.le_trans HR0.out.bel.size (Nat.le_of_eq (by simp)))) 0 hi Ap np cp (propCells nd.props) rfl (F4.out.below ((HR0.out.bel.trans ((below_more (Below.refl _ _) _).mono HR0.out.bel.size)).mono hh)) (propCells_one _) (by unfold maxLen; omega) (by omega) (Nat.le_trans HR0.out.bel.size (by simp)) ?_); go_must (intro v1 w1 hown1 hgr1 _; rw [Nat.zero_add, List.nil_append] at hown1; obtain ⟨A1, c1, rfl⟩ := own_form hown1; have hR1 := (HR0.out.after (below_more (Below.refl _ _) _)).kept (own_emptyB (size := 2) (e := 56) (B := w.heap.size) (Blk.new' (by simp)) (Nat.le_trans HR0.out.bel.size (Nat.le_of_eq (by simp)))) (by decide) hgr1; have HO1 := Lib.hid (own_other hown1 hR1.b5 (by decide) 4 (.slice A1 np c1)); have x1 := hR1.b5.cell 4; have y1 := hR1.b5.frozen 4; simp at x1; have hq1 := hR1.set 4 (.slice A1 np c1); have p1 : ((w1.setCell ⟨w.heap.size, 4, none⟩ (.slice A1 np c1)).alloc (.cells #[] 3)).cell? ⟨w.heap.size, 5, none⟩ = some (.slice Ak nk ck) := ((hq1.after (below_more (Below.refl _ _) _)).b5.cell 5).trans rfl; have HQ1 := Lib.hid hq1; clear hq1; clear hR1 hown1 hgr1)) | (at_builtin; with_reducible show wpList _ _ _ (⟨some 11, _, _, _, _, _⟩ :: _) _ _; go_must (refine wpList_app (o := ⟨some 11, _, _, _, _, _⟩) _ rfl (.tmp 8) (.tmp 10) _ rfl w.heap.size 3 i2 _ 1 8 Tryd.underlying34 hi2 hz2 hs2 hb2 rfl (by omega) _ 0 [] rfl (own_emptyB (Blk.new' (by simp)) (Nat.le_trans HQ1.out.bel.size (Nat.le_of_eq (by simp)))) 0 hi Ak nk ck (intCells nd.kids) rfl (F5.out.below ((HQ1.out.bel.trans ((below_more (Below.refl _ _) _).mono HQ1.out.bel.size)).mono hh)) (intCells_one _) (by unfold maxLen; omega) (by omega) (Nat.le_trans HQ1.out.bel.size (by simp)) ?_); go_must (intro v2 w2 hown2 hgr2 _; rw [Nat.zero_add, List.nil_append] at hown2; obtain ⟨A2, c2, rfl⟩ := own_form hown2; have hR2 := (HQ1.out.after (below_more (Below.refl _ _) _)).kept (own_emptyB (size := 1) (e := 3) (B := w.heap.size) (Blk.new' (by simp)) (Nat.le_trans HQ1.out.bel.size (Nat.le_of_eq (by simp)))) (by decide) hgr2; have HO12 := Lib.hid (own_other (own_kept (own_after HO1.out (below_more (Below.refl _ _) _)) (own_emptyB (size := 1) (e := 3) (B := w.heap.size) (Blk.new' (by simp)) (Nat.le_trans HQ1.out.bel.size (Nat.le_of_eq (by simp)))) (by decide) hgr2) hR2.b5 (by decide) 5 (.slice A2 nk c2)); have HO2 := Lib.hid (own_other hown2 hR2.b5 (by decide) 5 (.slice A2 nk c2)); have x2 := hR2.b5.cell 5; have y2 := hR2.b5.frozen 5; simp at x2; have hq2 := hR2.set 5 (.slice A2 nk c2); have p2 : ((w2.setCell ⟨w.heap.size, 5, none⟩ (.slice A2 nk c2)).alloc (.cells #[] 59)).cell? ⟨w.heap.size, 6, none⟩ = some (.slice Ar nr cr) := ((hq2.after (below_more (Below.refl _ _) _)).b5.cell 6).trans rfl; have HQ2 := Lib.hid hq2; clear hq2; clear hR2 hown2 hgr2)) | (at_builtin; with_reducible show wpList _ _ _ (⟨some 16, _, _, _, _, _⟩ :: _) _ _; go_must (refine wpList_app (o := ⟨some 16, _, _, _, _, _⟩) _ rfl (.tmp 13) (.tmp 15) _ rfl w.heap.size 59 i3 _ 2 24 Tryd.underlying35 hi3 hz3 hs3 hb3 rfl (by omega) _ 0 [] rfl (own_emptyB (Blk.new' (by simp)) (Nat.le_trans HQ2.out.bel.size (Nat.le_of_eq (by simp)))) 0 hi Ar nr cr (refCells nd.refs) rfl (F6.out.below ((HQ2.out.bel.trans ((below_more (Below.refl _ _) _).mono HQ2.out.bel.size)).mono hh)) (refCells_one _) (by unfold maxLen; omega) (by omega) (Nat.le_trans HQ2.out.bel.size (by simp)) ?_); go_must (intro v3 w3 hown3 hgr3 _; rw [Nat.zero_add, List.nil_append] at hown3; obtain ⟨A3, c3, rfl⟩ := own_form hown3; have hR3 := (HQ2.out.after (below_more (Below.refl _ _) _)).kept (own_emptyB (size := 2) (e := 59) (B := w.heap.size) (Blk.new' (by simp)) (Nat.le_trans HQ2.out.bel.size (Nat.le_of_eq (by simp)))) (by decide) hgr3; have HO13 := Lib.hid (own_other (own_kept (own_after HO12.out (below_more (Below.refl _ _) _)) (own_emptyB (size := 2) (e := 59) (B := w.heap.size) (Blk.new' (by simp)) (Nat.le_trans HQ2.out.bel.size (Nat.le_of_eq (by simp)))) (by decide) hgr3) hR3.b5 (by decide) 6 (.slice A3 nr c3)); have HO23 := Lib.hid (own_other (own_kept (own_after HO2.out (below_more (Below.refl _ _) _)) (own_emptyB (size := 2) (e := 59) (B := w.heap.size) (Blk.new' (by simp)) (Nat.le_trans HQ2.out.bel.size (Nat.le_of_eq (by simp)))) (by decide) hgr3) hR3.b5 (by decide) 6 (.slice A3 nr c3)); have HO3 := Lib.hid (own_other hown3 hR3.b5 (by decide) 6 (.slice A3 nr c3)); have x3 := hR3.b5.cell 6; have y3 := hR3.b5.frozen 6; simp at x3; have hq3 := hR3.set 6 (.slice A3 nr c3); have k0 := hq3.b5.cell 0; have k1 := hq3.b5.cell 1; have k2 := hq3.b5.cell 2; have k3 := hq3.b5.cell 3; have k4 := hq3.b5.cell 4; have k5 := hq3.b5.cell 5; have k6 := hq3.b5.cell 6; simp at k0 k1 k2 k3 k4 k5 k6; have m0 := hq3.b6.cell 0; have m1 := hq3.b6.cell 1; have m2 := hq3.b6.cell 2; have m3 := hq3.b6.cell 3; have m4 := hq3.b6.cell 4; have m5 := hq3.b6.cell 5; have m6 := hq3.b6.cell 6; simp at m0 m1 m2 m3 m4 m5 m6; have l0 := hq3.b6.frozen 0; have l1 := hq3.b6.frozen 1; have l2 := hq3.b6.frozen 2; have l3 := hq3.b6.frozen 3; have l4 := hq3.b6.frozen 4; have l5 := hq3.b6.frozen 5; have l6 := hq3.b6.frozen 6; have HQ3 := Lib.hid hq3; clear hq3; clear hR3 hown3 hgr3)))
  (try rw [Exit.noGoto_ret])
  (try simp only [Exit.inBlock, Exit.then])
  have hres : Tryd.f9.results = #[.cell 2 37] := by kernel_rfl
  refine bodyPost_ret (v := .agg #[.int .i64 nd.id, .string nd.con, .int .i64 nd.par, .string nd.role, .slice A1 np c1, .slice A2 nk c2, .slice A3 nr c3]) ?hr rfl ?_
  case hr =>
    simp only [results, hres]
    go_simp
  have hR : NodeR w nd ⟨⟨A1, np, c1⟩, ⟨A2, nk, c2⟩, ⟨A3, nr, c3⟩⟩ w.heap.size (w.heap.size + 1) (w3.setCell ⟨w.heap.size, 6, none⟩ (.slice A3 nr c3)) := ⟨⟨HF1.out, HF2.out, HF3.out, HO13.out, HO23.out, HO3.out, HSZ.out⟩, ⟨_, HQ3.out.b5⟩, ⟨_, HQ3.out.b6⟩, HQ3.out.bel⟩
  have hE := ((((((hR.s6 (by omega) 0 (.int .i64 nd.id)).s6 (by omega) 1 (.string nd.con)).s6 (by omega) 2 (.int .i64 nd.par)).s6 (by omega) 3 (.string nd.role)).s6 (by omega) 4 (.slice A1 np c1)).s6 (by omega) 5 (.slice A2 nk c2)).s6 (by omega) 6 (.slice A3 nr c3)
  exact ⟨⟨⟨A1, np, c1⟩, ⟨A2, nk, c2⟩, ⟨A3, nr, c3⟩⟩, rfl, hE.leaf, hE.bel⟩
end Go.Proofs.YtdeoblhdojbbbaaDoor
namespace Go.Proofs.YtdeoblhdojbbbaaDoor
open Go Go.RowKit Go.Sort
set_option linter.unusedVariables false
attribute [local go_sem ↓] Go.wp_at_zero Go.wp_at_succ
/-- the box of a model -/
structure M1 (w : World) (next : Int) (A : Option Addr) (n c : Nat) (wr : World) : Prop where
  a : Blk wr w.heap.size 24 #[.int .i64 next, .slice A n c]
  bel : Below w.heap.size w wr
theorem M1.start (w : World) (next : Int) (A : Option Addr) (n c : Nat) : M1 w next A n c (w.alloc (.cells #[.int .i64 next, .slice A n c] 24)) := ⟨Blk.new _ _ _, below_more (Below.refl _ _) _⟩
theorem M1.after {w X X' : World} {next : Int} {A : Option Addr} {n c : Nat} (h : M1 w next A n c X) (hb : Below X.heap.size X X') : M1 w next A n c X' := ⟨h.a.after hb, h.bel.trans (hb.mono h.bel.size)⟩
theorem ixOf_of_ndOf {nds : List Nd} {id : Int} {nd : Nd} (h : ndOf nds id = some nd) : ∃ i, ixOf nds id = some i ∧ nds[i]? = some nd := by
  obtain ⟨i, h1, h2, _⟩ := ndOf_some h
  exact ⟨i, h1, h2⟩
set_option maxRecDepth 20000 in
set_option maxHeartbeats 1600000 in
theorem refDepth_any (w : World) (hi : Nat) (next id : Int) (A : Option Addr) (n c : Nat) (nds : List Nd) (h : NodesIn w 0 hi A n c nds) (hh : hi ≤ w.heap.size) (hr : Rise nds) (hn : n ≤ 4096) (K : Nat) (hK : DepthIs nds id K) (hK6 : K ≤ 65) :
    Calls Tryd.prog 40 #[.agg #[.int .i64 next, .slice A n c], .int .i64 id] w (Ret w (.int .i64 K)) := by
  have hc := h.2.2.1
  have hnc := h.2.1
  have HL := Lib.hid h.1
  unfold maxLen at hc
  have HM0 := Lib.hid (M1.start w next A n c)
  go_enter Tryd.func40, Tryd.ntmps40
  go_wp2_with fail
  go_loopw [1, 5] (fun x d wr => ∃ (k : Nat) (y : Int), k ≤ K ∧ x = .int .i64 y ∧ d = .int .i64 k ∧ Hid (y = upI nds id k) ∧ M1 w next A n c wr) (fun _ d _ => K - (intOf d).toNat)
  case atStart => exact ⟨0, id, Nat.zero_le _, rfl, rfl, Lib.hid rfl, HM0.out⟩
  case round =>
    clear HM0
    obtain ⟨k, y, hk, rfl, rfl, HY, M⟩ := hrel
    have HM := Lib.hid M
    clear M
    by_cases hlt : k < K
    · obtain ⟨h0, nd, hnd⟩ := hK.way k hlt
      rw [← HY.out] at h0 hnd
      obtain ⟨i, hix, hgi⟩ := ixOf_of_ndOf hnd
      have hin := ixOf_lt hix
      rw [HL.out] at hin
      obtain ⟨b, o, hA, _, hb, V, hV⟩ := h.all (by omega)
      have hat := ((hV i nd hgi).1.below HM.out.bel (by omega)).c2
      subst hA
      have hav : atV nds y = i := by unfold atV; rw [hix]
      rename World => wr
      have HAt : Hid (∀ d os, Calls Tryd.prog 39 #[.agg #[.int .i64 next, .slice (some ⟨b, o, none⟩) n c], .int .i64 y] (grow (redrawn wr d) os) (Ret (grow (redrawn wr d) os) (.int .i64 i))) := Lib.hid fun d os => by
        have hz := HM.out.bel.trans ((below_regrown wr d os).mono HM.out.bel.size)
        rw [← hav]
        exact refAt_any _ hi next y _ n c nds (h.below (hz.mono hh)) (Nat.le_trans hh hz.size) hr hn
      have q0 := cell_regrown ((HM.out.a.cell 0).trans (show _ = some (.int .i64 next) from rfl))
      have q1 := cell_regrown ((HM.out.a.cell 1).trans (show _ = some (.slice (some ⟨b, o, none⟩) n c) from rfl))
      have q2 := cell_regrown hat
      have d0 : (y != 0) = true := by rw [bne_iff_ne]; exact h0
      have HUP : Hid (nd.par = upI nds id (k + 1)) := Lib.hid (by rw [upI_succ (by rw [← HY.out]; exact hnd)])
      clear hV hix hgi hnd h0 hat hav
      go_wp2_with fail
      refine wp_region_quiet_below (by kernel_rfl) (by kernel_rfl) ?_
      repeat (go_big_quiet_step ((go_at_call 39; exact regrown_ret (HAt.out _ _))))
      refine wpQuiet_nil ?_
      intro _ hw'
      obtain ⟨⟨dq, osq⟩, hw''⟩ := hw'
      subst hw''
      have HM2 := Lib.hid (HM.out.after (below_regrown wr dq osq))
      generalize grow (redrawn wr dq) osq = w2 at HM2 ⊢
      clear q0 q1 q2
      go_wp2_with fail
      go_roundw
      case measure => simp only [intOf]; omega
      case rel => exact ⟨k + 1, nd.par, by omega, by simp, rfl, HUP, HM2.out⟩
    · have hkk : k = K := by omega
      subst hkk
      have hy : y = 0 := by rw [HY.out]; exact hK.top
      subst hy
      clear h hK
      go_wp2_with fail
      go_ret
      exact ret_mk rfl HM.out.bel
end Go.Proofs.YtdeoblhdojbbbaaDoor
namespace Go.Proofs.YtdeoblhdojbbbaaDoor
open Go Go.RowKit Go.Sort
set_option linter.unusedVariables false
attribute [local go_sem ↓] Go.wp_at_zero Go.wp_at_succ
/-- the box of a model, and a list of numbers that grows -/
structure KW (w : World) (next : Int) (A : Option Addr) (n c : Nat) (ov : Value) (l : List Int) (wr : World) : Prop where
  m : M1 w next A n c wr
  own : wr.ownsRow w.heap.size 3 1 ov l.length (intCells l)
section
variable {w X X' : World} {next : Int} {A : Option Addr} {n c : Nat} {ov : Value} {l : List Int}
theorem KW.after (h : KW w next A n c ov l X) (hb : Below X.heap.size X X') : KW w next A n c ov l X' := ⟨h.m.after hb, own_after h.own hb⟩
theorem KW.push {x : Int} {v' : Value} (h : KW w next A n c ov l X) (hg : X.grownBy X' ov.ownBlock) (hown : X'.ownsRow w.heap.size 3 1 v' (l.length + 1) (intCells l ++ [.int .i64 x])) : KW w next A n c v' (l ++ [x]) X' := by
  refine ⟨⟨h.m.a.grown hg (Ne.symm (own_blk_ne h.own h.m.a (by decide))), below_grows h.m.bel hg h.own (Nat.le_refl _)⟩, ?_⟩
  rw [List.length_append, List.length_singleton, show intCells (l ++ [x]) = intCells l ++ [.int .i64 x] from by simp [intCells]]
  exact hown
end
end Go.Proofs.YtdeoblhdojbbbaaDoor
namespace Go.Proofs.YtdeoblhdojbbbaaDoor
open Go Go.RowKit Go.Sort
set_option linter.unusedVariables false
attribute [local go_sem ↓] Go.wp_at_zero Go.wp_at_succ
/-- a new list of numbers is answered -/
def ListR (w : World) (r : List Int) (e : Ending) (w' : World) : Prop := ∃ v, e = .returned v ∧ w'.ownsRow w.heap.size 3 1 v r.length (intCells r) ∧ Below w.heap.size w w'
theorem listR_nil {w w' : World} {v : Value} (hv : v = .slice none 0 0) (hb : Below w.heap.size w w') : ListR w [] (.returned v) w' := ⟨_, rfl, by subst hv; exact ⟨rfl, .inl ⟨rfl, rfl⟩⟩, hb⟩
theorem roots_take {nds : List Nd} {j : Nat} {nd : Nd} (h : nds[j]? = some nd) : rootsV (nds.take (j + 1)) = rootsV (nds.take j) ++ if nd.par == 0 then [nd.id] else [] := by
  unfold rootsV
  rw [List.take_add_one, h, List.filter_append, List.map_append]
  cases hp : (nd.par == 0) <;> simp [hp]
/-- document order, as it is answered -/
def orderR (next : Int) (nds : List Nd) : List Int := if rightB next nds = true then orderV nds else []
end Go.Proofs.YtdeoblhdojbbbaaDoor
namespace Go.Proofs.YtdeoblhdojbbbaaDoor
open Go Go.RowKit Go.Sort
set_option linter.unusedVariables false
attribute [local go_sem ↓] Go.wp_at_zero Go.wp_at_succ
/-- the boxes of a model and of a number -/
structure MI (w : World) (next : Int) (A : Option Addr) (n c : Nat) (z : Int) (X : World) : Prop where
  m : M1 w next A n c X
  i : Blk X (w.heap.size + 1) 3 #[.int .i64 z]
theorem MI.start (w : World) (next : Int) (A : Option Addr) (n c : Nat) (z : Int) : MI w next A n c z ((w.alloc (.cells #[.int .i64 next, .slice A n c] 24)).alloc (.cells #[.int .i64 z] 3)) :=
  ⟨⟨(Blk.new _ _ _).alloc _, below_more (below_more (Below.refl _ _) _) _⟩, Blk.new' (by simp)⟩
theorem MI.after {w X X' : World} {next z : Int} {A : Option Addr} {n c : Nat} (h : MI w next A n c z X) (hb : Below X.heap.size X X') : MI w next A n c z X' := ⟨h.m.after hb, h.i.after hb⟩
end Go.Proofs.YtdeoblhdojbbbaaDoor
namespace Go.Proofs.YtdeoblhdojbbbaaDoor
open Go Go.RowKit Go.Sort
set_option linter.unusedVariables false
attribute [local go_sem ↓] Go.wp_at_zero Go.wp_at_succ
def depthR (next : Int) (nds : List Nd) (id : Int) : Nat := if (rightB next nds && (ixOf nds id).isSome) = true then depthV nds id else 0
end Go.Proofs.YtdeoblhdojbbbaaDoor

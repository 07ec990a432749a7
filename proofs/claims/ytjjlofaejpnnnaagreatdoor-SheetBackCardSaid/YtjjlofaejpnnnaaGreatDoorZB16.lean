/-
  WALKS: Find of the program.
-/
import Derived.Test.YtjjlofaejpnnnaaGreatDoorZB15
namespace Go.Proofs.YtjjlofaejpnnnaaGreatDoor
open Go Go.RowKit Go.Sort
set_option linter.unusedVariables false
attribute [local go_sem ↓] Go.wp_at_zero Go.wp_at_succ
def zeroNd : Nd := ⟨0, ⟨#[]⟩, 0, ⟨#[]⟩, [], [], []⟩
def nilLeaf : Leaf := ⟨⟨none, 0, 0⟩, ⟨none, 0, 0⟩, ⟨none, 0, 0⟩⟩
theorem leafZ (w : World) (B : Nat) : OwnLeaf w B zeroNd nilLeaf :=
  ⟨rfl, rfl, rfl, ⟨by simp [zeroNd, propCells, nilLeaf], .inl ⟨rfl, rfl⟩⟩, ⟨by simp [zeroNd, intCells, nilLeaf], .inl ⟨rfl, rfl⟩⟩, ⟨by simp [zeroNd, refCells, nilLeaf], .inl ⟨rfl, rfl⟩⟩, ⟨by simp [zeroNd, ByteArray.size, maxLen], by simp [zeroNd, ByteArray.size, maxLen], by simp [zeroNd], by simp [zeroNd]⟩⟩
/-- the node with a number, and whether there is one -/
def findV (next : Int) (nds : List Nd) (id : Int) : Nd × Bool := if (rightB next nds && (ixOf nds id).isSome) = true then ((ndOf nds id).getD zeroNd, true) else (zeroNd, false)
def FindIs (w : World) (r : Nd × Bool) (e : Ending) (w' : World) : Prop := ∃ M : Leaf, e = .returned (.tuple #[.agg #[.int .i64 r.1.id, .string r.1.con, .int .i64 r.1.par, .string r.1.role, .slice M.p.A M.p.n M.p.c, .slice M.k.A M.k.n M.k.c, .slice M.r.A M.r.n M.r.c], .bool r.2]) ∧ OwnLeaf w' w.heap.size r.1 M ∧ Below w.heap.size w w'
/-- the boxes of a model and of a node -/
structure FB (w : World) (next : Int) (A : Option Addr) (n c : Nat) (X : World) : Prop where
  m : Blk X w.heap.size 25 #[.int .i64 next, .slice A n c]
  r : ∃ cs, cs.size = 7 ∧ Blk X (w.heap.size + 1) 55 cs
  bel : Below w.heap.size w X
section
variable {w X X' : World} {next : Int} {A : Option Addr} {n c : Nat}
theorem FB.start (w : World) (next : Int) (A : Option Addr) (n c : Nat) : FB w next A n c ((w.alloc (.cells #[.int .i64 next, .slice A n c] 25)).alloc (.cells #[.int .i64 0, .string ⟨#[]⟩, .int .i64 0, .string ⟨#[]⟩, .slice none 0 0, .slice none 0 0, .slice none 0 0] 55)) :=
  ⟨(Blk.new _ _ _).alloc _, ⟨_, by simp, Blk.new' (by simp)⟩, below_more (below_more (Below.refl _ _) _) _⟩
theorem FB.after (h : FB w next A n c X) (hb : Below X.heap.size X X') : FB w next A n c X' := by
  obtain ⟨h1, ⟨cs, h0, h2⟩, h3⟩ := h
  exact ⟨h1.after hb, ⟨cs, h0, h2.after hb⟩, h3.trans (hb.mono h3.size)⟩
theorem FB.room (h : FB w next A n c X) (j : Nat) (hj : j < 7) : (∃ u, X.cell? ⟨w.heap.size + 1, j, none⟩ = some u) ∧ X.frozen? ⟨w.heap.size + 1, j, none⟩ = false := by
  obtain ⟨h1, ⟨cs, h0, h2⟩, h3⟩ := h
  exact ⟨⟨cs[j]'(by omega), (h2.cell j).trans (Array.getElem?_eq_getElem (by omega))⟩, h2.frozen j⟩
theorem FB.set (h : FB w next A n c X) (i : Nat) (u : Value) : FB w next A n c (X.setCell ⟨w.heap.size + 1, i, none⟩ u) := by
  obtain ⟨h1, ⟨cs, h0, h2⟩, h3⟩ := h
  exact ⟨h1.far (p := ⟨w.heap.size + 1, i, none⟩) (by simp) u, ⟨_, by simpa using h0, h2.set_ i u⟩, h3.setCell (p := ⟨w.heap.size + 1, i, none⟩) (by simp) u⟩
theorem FB.leaf (h : FB w next A n c X) {nd : Nd} {M : Leaf} (hl : OwnLeaf X w.heap.size nd M) (i : Nat) (u : Value) : OwnLeaf (X.setCell ⟨w.heap.size + 1, i, none⟩ u) w.heap.size nd M := by
  obtain ⟨h1, ⟨cs, h0, h2⟩, h3⟩ := h
  exact hl.other h2 (by decide) (by decide) (by decide) i u
/-- a node is laid into the box -/
theorem FB.lay (h : FB w next A n c X) {nd : Nd} {M : Leaf} (hl : OwnLeaf X w.heap.size nd M) (u0 u1 u2 u3 u4 u5 u6 : Value) :
    OwnLeaf (((((((X.setCell ⟨w.heap.size + 1, 0, none⟩ u0).setCell ⟨w.heap.size + 1, 1, none⟩ u1).setCell ⟨w.heap.size + 1, 2, none⟩ u2).setCell ⟨w.heap.size + 1, 3, none⟩ u3).setCell ⟨w.heap.size + 1, 4, none⟩ u4).setCell ⟨w.heap.size + 1, 5, none⟩ u5).setCell ⟨w.heap.size + 1, 6, none⟩ u6) w.heap.size nd M ∧
    Below w.heap.size w (((((((X.setCell ⟨w.heap.size + 1, 0, none⟩ u0).setCell ⟨w.heap.size + 1, 1, none⟩ u1).setCell ⟨w.heap.size + 1, 2, none⟩ u2).setCell ⟨w.heap.size + 1, 3, none⟩ u3).setCell ⟨w.heap.size + 1, 4, none⟩ u4).setCell ⟨w.heap.size + 1, 5, none⟩ u5).setCell ⟨w.heap.size + 1, 6, none⟩ u6) :=
  ⟨((((((h.set 0 u0).set 1 u1).set 2 u2).set 3 u3).set 4 u4).set 5 u5).leaf ((((((h.set 0 u0).set 1 u1).set 2 u2).set 3 u3).set 4 u4).leaf (((((h.set 0 u0).set 1 u1).set 2 u2).set 3 u3).leaf ((((h.set 0 u0).set 1 u1).set 2 u2).leaf (((h.set 0 u0).set 1 u1).leaf ((h.set 0 u0).leaf (h.leaf hl 0 u0) 1 u1) 2 u2) 3 u3) 4 u4) 5 u5) 6 u6,
    (((((((h.set 0 u0).set 1 u1).set 2 u2).set 3 u3).set 4 u4).set 5 u5).set 6 u6).bel⟩
end
set_option maxRecDepth 20000 in
set_option maxHeartbeats 3200000 in
theorem find_any' (w : World) (hi : Nat) (next id : Int) (A : Option Addr) (n c : Nat) (nds : List Nd) (h : NodesIn w 0 hi A n c nds) (hh : hi ≤ w.heap.size) (hf : ∀ nd ∈ nds, Fits 1 nd) :
    Calls Tryz.prog 23 #[.agg #[.int .i64 next, .slice A n c], .int .i64 id] w (FindIs w (findV next nds id)) := by
  have HM0 := Lib.hid (FB.start w next A n c)
  have HCh := Lib.hid (check_any _ hi next A n c nds (h.below (HM0.out.bel.mono hh)) (Nat.le_trans hh HM0.out.bel.size))
  cases hrt : rightB next nds with
  | false =>
    have HX : Hid (findV next nds id = (zeroNd, false)) := Lib.hid (by unfold findV; rw [hrt]; rfl)
    have HV := Lib.hid (checkV_no hrt)
    clear hrt h
    go_enter Tryz.func23, Tryz.ntmps23
    go_wp2_with (go_at_call 13; go_must (refine HCh.out.mono ?_; rintro e w2 ⟨rfl, hb2⟩; rw [HV.out]; have HM2 := Lib.hid (HM0.out.after hb2); have a0 := (HM2.out.m.cell 0).trans (show _ = some (.int .i64 next) from rfl); have a1 := (HM2.out.m.cell 1).trans (show _ = some (.slice A n c) from rfl); obtain ⟨⟨u0, z0⟩, y0⟩ := HM2.out.room 0 (by omega); obtain ⟨⟨u1, z1⟩, y1⟩ := HM2.out.room 1 (by omega); obtain ⟨⟨u2, z2⟩, y2⟩ := HM2.out.room 2 (by omega); obtain ⟨⟨u3, z3⟩, y3⟩ := HM2.out.room 3 (by omega); obtain ⟨⟨u4, z4⟩, y4⟩ := HM2.out.room 4 (by omega); obtain ⟨⟨u5, z5⟩, y5⟩ := HM2.out.room 5 (by omega); obtain ⟨⟨u6, z6⟩, y6⟩ := HM2.out.room 6 (by omega); clear hb2))
    (try rw [Exit.noGoto_ret])
    (try simp only [Exit.inBlock, Exit.then])
    have hres : Tryz.f23.results = #[.cell 4 55, .tmp 5] := by kernel_rfl
    refine bodyPost_ret (v := .tuple #[.agg #[.int .i64 0, .string ⟨#[]⟩, .int .i64 0, .string ⟨#[]⟩, .slice none 0 0, .slice none 0 0, .slice none 0 0], .bool false]) ?hr rfl ?_
    case hr =>
      simp only [results, hres]
      go_simp
    rw [HX.out]
    have hE := HM2.out.lay (leafZ w2 w.heap.size) (.int .i64 0) (.string ⟨#[]⟩) (.int .i64 0) (.string ⟨#[]⟩) (.slice none 0 0) (.slice none 0 0) (.slice none 0 0)
    exact ⟨nilLeaf, rfl, hE.1, hE.2⟩
  | true =>
    have hR := rightM hrt
    have hn4 : n ≤ 4096 := by rw [← h.1]; exact hR.len
    have HV := Lib.hid (checkV_yes hrt)
    have HHa : Hid (∀ X, Below w.heap.size w X → Calls Tryz.prog 57 #[.agg #[.int .i64 next, .slice A n c], .int .i64 id] X (Ret X (.bool (ixOf nds id).isSome))) := Lib.hid fun X hX => has_any X hi next id A n c nds (h.below (hX.mono hh)) (Nat.le_trans hh hX.size) hR.rise hn4
    cases hix : ixOf nds id with
    | none =>
      have HX : Hid (findV next nds id = (zeroNd, false)) := Lib.hid (by unfold findV; rw [hix]; simp)
      have HIX : Hid ((ixOf nds id).isSome = false) := Lib.hid (by rw [hix]; rfl)
      clear hrt h hix
      go_enter Tryz.func23, Tryz.ntmps23
      go_wp2_with (first | (go_at_call 13; go_must (refine HCh.out.mono ?_; rintro e w2 ⟨rfl, hb2⟩; rw [HV.out]; have HM2 := Lib.hid (HM0.out.after hb2); have a0 := (HM2.out.m.cell 0).trans (show _ = some (.int .i64 next) from rfl); have a1 := (HM2.out.m.cell 1).trans (show _ = some (.slice A n c) from rfl); clear hb2)) | (go_at_call 57; go_must (refine (HHa.out _ HM2.out.bel).mono ?_; rintro e w3 ⟨rfl, hb3⟩; rw [HIX.out]; clear a0 a1; have HM3 := Lib.hid (HM2.out.after hb3); have b0 := (HM3.out.m.cell 0).trans (show _ = some (.int .i64 next) from rfl); have b1 := (HM3.out.m.cell 1).trans (show _ = some (.slice A n c) from rfl); obtain ⟨⟨u0, z0⟩, y0⟩ := HM3.out.room 0 (by omega); obtain ⟨⟨u1, z1⟩, y1⟩ := HM3.out.room 1 (by omega); obtain ⟨⟨u2, z2⟩, y2⟩ := HM3.out.room 2 (by omega); obtain ⟨⟨u3, z3⟩, y3⟩ := HM3.out.room 3 (by omega); obtain ⟨⟨u4, z4⟩, y4⟩ := HM3.out.room 4 (by omega); obtain ⟨⟨u5, z5⟩, y5⟩ := HM3.out.room 5 (by omega); obtain ⟨⟨u6, z6⟩, y6⟩ := HM3.out.room 6 (by omega); clear hb3)))
      (try rw [Exit.noGoto_ret])
      (try simp only [Exit.inBlock, Exit.then])
      have hres : Tryz.f23.results = #[.cell 4 55, .tmp 5] := by kernel_rfl
      refine bodyPost_ret (v := .tuple #[.agg #[.int .i64 0, .string ⟨#[]⟩, .int .i64 0, .string ⟨#[]⟩, .slice none 0 0, .slice none 0 0, .slice none 0 0], .bool false]) ?hr2 rfl ?_
      case hr2 =>
        simp only [results, hres]
        go_simp
      rw [HX.out]
      have hE := HM3.out.lay (leafZ w3 w.heap.size) (.int .i64 0) (.string ⟨#[]⟩) (.int .i64 0) (.string ⟨#[]⟩) (.slice none 0 0) (.slice none 0 0) (.slice none 0 0)
      exact ⟨nilLeaf, rfl, hE.1, hE.2⟩
    | some i =>
      have HIX : Hid ((ixOf nds id).isSome = true) := Lib.hid (by rw [hix]; rfl)
      obtain ⟨nd, hgi, hie⟩ := ixOf_some hix
      have hnd : ndOf nds id = some nd := by unfold ndOf; rw [hix]; exact hgi
      have HX : Hid (findV next nds id = (nd, true)) := Lib.hid (by unfold findV; rw [hrt, hix, hnd]; simp)
      have hin := ixOf_lt hix
      rw [h.1] at hin
      obtain ⟨b, o, hA, _, hb, V, hV⟩ := h.all (by omega)
      have hat := (hV i nd hgi).1
      have hlf := (hV i nd hgi).2
      generalize V i = L at hat hlf
      subst hA
      have hfi := hf nd (List.mem_of_getElem? hgi)
      have HNo : Hid (∀ X, Below w.heap.size w X → Calls Tryz.prog 59 #[.agg #[.int .i64 next, .slice (some ⟨b, o, none⟩) n c], .int .i64 id] X (Ret X (.pointer (some ⟨b, o + i * 7, none⟩)))) := Lib.hid fun X hX => node_any X hi next id (some ⟨b, o, none⟩) n c nds (h.below (hX.mono hh)) (Nat.le_trans hh hX.size) hR.rise hn4 _ (by rw [hix]; exact ⟨b, o, rfl, rfl⟩)
      have HON : Hid (∀ X, Below w.heap.size w X → Calls Tryz.prog 58 #[.agg #[.int .i64 nd.id, .string nd.con, .int .i64 nd.par, .string nd.role, .slice L.p.A L.p.n L.p.c, .slice L.k.A L.k.n L.k.c, .slice L.r.A L.r.n L.r.c]] X fun e w' => ∃ M : Leaf, e = .returned (.agg #[.int .i64 nd.id, .string nd.con, .int .i64 nd.par, .string nd.role, .slice M.p.A M.p.n M.p.c, .slice M.k.A M.k.n M.k.c, .slice M.r.A M.r.n M.r.c]) ∧ OwnLeaf w' X.heap.size nd M ∧ Below X.heap.size X w') := Lib.hid fun X hX => ownNode_any X hi nd L (hlf.below (hX.mono hh)) (Nat.le_trans hh hX.size) hfi
      have HAT : Hid (∀ X, Below w.heap.size w X → NodeAt X b (o + i * 7) nd L) := Lib.hid fun X hX => hat.below (hX.mono hh) hb
      obtain ⟨⟨Ap, np, cp⟩, ⟨Ak, nk, ck⟩, ⟨Ar, nr, cr⟩⟩ := L
      clear hrt h hix hgi hie hnd hat hlf hV hf hfi
      go_enter Tryz.func23, Tryz.ntmps23
      go_wp2_with (first | (go_at_call 13; go_must (refine HCh.out.mono ?_; rintro e w2 ⟨rfl, hb2⟩; rw [HV.out]; have HM2 := Lib.hid (HM0.out.after hb2); have a0 := (HM2.out.m.cell 0).trans (show _ = some (.int .i64 next) from rfl); have a1 := (HM2.out.m.cell 1).trans (show _ = some (.slice (some ⟨b, o, none⟩) n c) from rfl); clear hb2)) | (go_at_call 57; go_must (refine (HHa.out _ HM2.out.bel).mono ?_; rintro e w3 ⟨rfl, hb3⟩; rw [HIX.out]; clear a0 a1; have HM3 := Lib.hid (HM2.out.after hb3); have b0 := (HM3.out.m.cell 0).trans (show _ = some (.int .i64 next) from rfl); have b1 := (HM3.out.m.cell 1).trans (show _ = some (.slice (some ⟨b, o, none⟩) n c) from rfl); clear hb3)) | (go_at_call 59; go_must (refine (HNo.out _ HM3.out.bel).mono ?_; rintro e w4 ⟨rfl, hb4⟩; have HM4 := Lib.hid (HM3.out.after hb4); obtain ⟨k0, k1, k2, k3, k4, k5, k6⟩ := HAT.out _ HM4.out.bel; simp only at k4 k5 k6; clear hb4 b0 b1)) | (go_at_call 58; go_must (refine (HON.out _ HM4.out.bel).mono ?_; rintro e w5 ⟨⟨⟨A1, n1, c1⟩, ⟨A2, n2, c2⟩, ⟨A3, n3, c3⟩⟩, rfl, hl5, hb5⟩; have HM5 := Lib.hid (HM4.out.after hb5); have HL5 := Lib.hid (hl5.mono HM4.out.bel.size); clear k0 k1 k2 k3 k4 k5 k6; obtain ⟨⟨u0, z0⟩, y0⟩ := HM5.out.room 0 (by omega); obtain ⟨⟨u1, z1⟩, y1⟩ := HM5.out.room 1 (by omega); obtain ⟨⟨u2, z2⟩, y2⟩ := HM5.out.room 2 (by omega); obtain ⟨⟨u3, z3⟩, y3⟩ := HM5.out.room 3 (by omega); obtain ⟨⟨u4, z4⟩, y4⟩ := HM5.out.room 4 (by omega); obtain ⟨⟨u5, z5⟩, y5⟩ := HM5.out.room 5 (by omega); obtain ⟨⟨u6, z6⟩, y6⟩ := HM5.out.room 6 (by omega); clear hb5 hl5)))
      (try rw [Exit.noGoto_ret])
      (try simp only [Exit.inBlock, Exit.then])
      have hres : Tryz.f23.results = #[.cell 4 55, .tmp 5] := by kernel_rfl
      refine bodyPost_ret (v := .tuple #[.agg #[.int .i64 nd.id, .string nd.con, .int .i64 nd.par, .string nd.role, .slice A1 n1 c1, .slice A2 n2 c2, .slice A3 n3 c3], .bool true]) ?hr3 rfl ?_
      case hr3 =>
        simp only [results, hres]
        go_simp
      rw [HX.out]
      have hE := HM5.out.lay HL5.out (.int .i64 nd.id) (.string nd.con) (.int .i64 nd.par) (.string nd.role) (.slice A1 n1 c1) (.slice A2 n2 c2) (.slice A3 n3 c3)
      exact ⟨⟨⟨A1, n1, c1⟩, ⟨A2, n2, c2⟩, ⟨A3, n3, c3⟩⟩, rfl, hE.1, hE.2⟩
end Go.Proofs.YtjjlofaejpnnnaaGreatDoor

/-
  WALKS: the program's own: lists, nodes, models in memory of their own.
  WALKS: the program's own: a model in memory of its own.
  WALKS: the document's: nodes and models in memory of their own.
  WALKS: how deep a node stands, the program's and the document's.
  WALKS: the program's search for a place among a parent's kids.
  WALKS: the document's: a node's kids in a role; the place ahead of which a place of a role is.
-/
import Derived.Test.YtbkmdlfenbfdlaaGreatZC6
import Derived.Laws.CopyOwn
namespace Go.Proofs.YtbkmdlfenbfdlaaGreat
open Go Go.RowKit Go.Sort
set_option linter.unusedVariables false
attribute [local go_sem ↓] Go.wp_at_zero Go.wp_at_succ
/-- make of a row of elements, whatever their size: the cells are those of zero values, so many -/
theorem make_rows {P : Program} (t e : TypeId) (i : TypeInfo) (z : Value) (size bytes : Nat) (ht : P.underlying t = some (.slice e)) (hi : P.info? e = some i) (hz : i.zero = some z) (hs : i.size = size) (hb : i.bytes = bytes) (hzs : z.cells.size = size)
    (n : Nat) (hn : n * bytes ≤ 140737488355328) (hm : n ≤ 9223372036854775807) : ∃ cur : Array Value, cur.size = n * size ∧ ∀ w : World, (Instr.makeSlice t (.int .i64 (n : Int)) (.int .i64 (n : Int))).run P w = .ok (.slice (some ⟨w.heap.size, 0, none⟩) n n) (w.alloc (.cells cur e)) := by
  refine ⟨madeCells z.cells (n * i.size), ?_, fun w => ?_⟩
  · rw [hs]; simp [madeCells]
  · have h1 : (i.bytes : Int) * (n : Int) ≤ 281474976710656 := by
      have h2 : ((n * bytes : Nat) : Int) ≤ 281474976710656 := by omega
      rw [Int.natCast_mul] at h2
      rw [hb, Int.mul_comm]
      exact h2
    have hr := run_make (P := P) w t e i z ht hi hz .i64 .i64 n n (by omega) (by omega) h1 (by omega)
    simp only [Int.toNat_natCast] at hr
    exact hr
set_option maxHeartbeats 1600000 in
theorem ownProps_any (w : World) (lo hi : Nat) (A : Option Addr) (n c : Nat) (l : List (ByteArray × ByteArray)) (h : Row w lo hi 2 A n c (propCells l)) (hh : hi ≤ w.heap.size) (hl : n * 32 ≤ 140737488355328) :
    Calls Tryz.prog 78 #[.slice A n c] w fun e w' => ∃ A' c', e = .returned (.slice A' n c') ∧ w'.ownsRow w.heap.size 94 2 (.slice A' n c') n (propCells l) ∧ Below w.heap.size w w' := by
  have hc := h.2.2.1
  have hnc := h.2.1
  unfold maxLen at hc
  by_cases h0 : n = 0
  · subst h0
    have hx : propCells l = [] := List.eq_nil_of_length_eq_zero (by have := h.1; omega)
    rw [hx]
    clear h hx
    go_enter Tryz.func78, Tryz.ntmps78
    go_wp2_with fail
    go_ret
    exact ⟨none, 0, rfl, ⟨by simp, .inl ⟨rfl, rfl⟩⟩, Below.refl _ _⟩
  · obtain ⟨i0, hi0, hz0, hz1, hz2⟩ := info_parts propInfo
    obtain ⟨cur, hcs, hmk⟩ := make_rows 38 94 i0 _ 2 32 Tryz.underlying38 hi0 hz0 hz1 hz2 rfl n hl (by omega)
    have h' := h.mono (Nat.le_refl lo) hh
    have d0 : ((n : Int) == 0) = false := by rw [beq_eq_false_iff_ne]; omega
    have hcp := fun ty => run_copy_all (P := Tryz.prog) (w.alloc (.cells cur 94)) 38 38 ty 94 i0 2 Tryz.underlying38 hi0 hz1 w.heap.size n n 0 A c cur 94 (Blk.new w 94 cur) hcs lo w.heap.size (propCells l) (h'.keep (fun b o hb => (below_more (Below.refl _ _) _).cell (p := ⟨b, o, none⟩) hb)) (by omega) (propCells_one l)
    have hof : ((w.alloc (.cells cur 94)).setRow w.heap.size (propCells l).toArray).ownsRow w.heap.size 94 2 (.slice (some ⟨w.heap.size, 0, none⟩) n n) n (propCells l) := own_filled (w := w) (Blk.new w 94 cur) (Nat.le_refl _) (Nat.le_trans hnc (by unfold maxLen; omega)) h.1
    have hbl : Below w.heap.size w ((w.alloc (.cells cur 94)).setRow w.heap.size (propCells l).toArray) := below_setRow (below_more (Below.refl _ _) _) (Nat.le_refl _) _
    generalize (w.alloc (.cells cur 94)).setRow w.heap.size (propCells l).toArray = X at hcp hof hbl
    have HO := Lib.hid hof
    have HB := Lib.hid hbl
    clear h h' h0 hof hbl hcs
    go_enter Tryz.func78, Tryz.ntmps78
    go_wp2_with fail
    go_ret
    exact ⟨some ⟨w.heap.size, 0, none⟩, n, rfl, HO.out, HB.out⟩
set_option maxHeartbeats 1600000 in
theorem ownKids_any (w : World) (lo hi : Nat) (A : Option Addr) (n c : Nat) (l : List Int) (h : Row w lo hi 1 A n c (intCells l)) (hh : hi ≤ w.heap.size) (hl : n * 8 ≤ 140737488355328) :
    Calls Tryz.prog 79 #[.slice A n c] w fun e w' => ∃ A' c', e = .returned (.slice A' n c') ∧ w'.ownsRow w.heap.size 3 1 (.slice A' n c') n (intCells l) ∧ Below w.heap.size w w' := by
  have hc := h.2.2.1
  have hnc := h.2.1
  unfold maxLen at hc
  by_cases h0 : n = 0
  · subst h0
    have hx : intCells l = [] := List.eq_nil_of_length_eq_zero (by have := h.1; omega)
    rw [hx]
    clear h hx
    go_enter Tryz.func79, Tryz.ntmps79
    go_wp2_with fail
    go_ret
    exact ⟨none, 0, rfl, ⟨by simp, .inl ⟨rfl, rfl⟩⟩, Below.refl _ _⟩
  · obtain ⟨i0, hi0, hz0, hz1, hz2⟩ := info_parts intInfo
    obtain ⟨cur, hcs, hmk⟩ := make_rows 33 3 i0 _ 1 8 Tryz.underlying33 hi0 hz0 hz1 hz2 rfl n hl (by omega)
    have h' := h.mono (Nat.le_refl lo) hh
    have d0 : ((n : Int) == 0) = false := by rw [beq_eq_false_iff_ne]; omega
    have hcp := fun ty => run_copy_all (P := Tryz.prog) (w.alloc (.cells cur 3)) 33 33 ty 3 i0 1 Tryz.underlying33 hi0 hz1 w.heap.size n n 0 A c cur 3 (Blk.new w 3 cur) hcs lo w.heap.size (intCells l) (h'.keep (fun b o hb => (below_more (Below.refl _ _) _).cell (p := ⟨b, o, none⟩) hb)) (by omega) (intCells_one l)
    have hof : ((w.alloc (.cells cur 3)).setRow w.heap.size (intCells l).toArray).ownsRow w.heap.size 3 1 (.slice (some ⟨w.heap.size, 0, none⟩) n n) n (intCells l) := own_filled (w := w) (Blk.new w 3 cur) (Nat.le_refl _) (Nat.le_trans hnc (by unfold maxLen; omega)) h.1
    have hbl : Below w.heap.size w ((w.alloc (.cells cur 3)).setRow w.heap.size (intCells l).toArray) := below_setRow (below_more (Below.refl _ _) _) (Nat.le_refl _) _
    generalize (w.alloc (.cells cur 3)).setRow w.heap.size (intCells l).toArray = X at hcp hof hbl
    have HO := Lib.hid hof
    have HB := Lib.hid hbl
    clear h h' h0 hof hbl hcs
    go_enter Tryz.func79, Tryz.ntmps79
    go_wp2_with fail
    go_ret
    exact ⟨some ⟨w.heap.size, 0, none⟩, n, rfl, HO.out, HB.out⟩
set_option maxHeartbeats 1600000 in
theorem ownRefs_any (w : World) (lo hi : Nat) (A : Option Addr) (n c : Nat) (l : List (ByteArray × Int)) (h : Row w lo hi 2 A n c (refCells l)) (hh : hi ≤ w.heap.size) (hl : n * 24 ≤ 140737488355328) :
    Calls Tryz.prog 80 #[.slice A n c] w fun e w' => ∃ A' c', e = .returned (.slice A' n c') ∧ w'.ownsRow w.heap.size 60 2 (.slice A' n c') n (refCells l) ∧ Below w.heap.size w w' := by
  have hc := h.2.2.1
  have hnc := h.2.1
  unfold maxLen at hc
  by_cases h0 : n = 0
  · subst h0
    have hx : refCells l = [] := List.eq_nil_of_length_eq_zero (by have := h.1; omega)
    rw [hx]
    clear h hx
    go_enter Tryz.func80, Tryz.ntmps80
    go_wp2_with fail
    go_ret
    exact ⟨none, 0, rfl, ⟨by simp, .inl ⟨rfl, rfl⟩⟩, Below.refl _ _⟩
  · obtain ⟨i0, hi0, hz0, hz1, hz2⟩ := info_parts refInfo
    obtain ⟨cur, hcs, hmk⟩ := make_rows 39 60 i0 _ 2 24 Tryz.underlying39 hi0 hz0 hz1 hz2 rfl n hl (by omega)
    have h' := h.mono (Nat.le_refl lo) hh
    have d0 : ((n : Int) == 0) = false := by rw [beq_eq_false_iff_ne]; omega
    have hcp := fun ty => run_copy_all (P := Tryz.prog) (w.alloc (.cells cur 60)) 39 39 ty 60 i0 2 Tryz.underlying39 hi0 hz1 w.heap.size n n 0 A c cur 60 (Blk.new w 60 cur) hcs lo w.heap.size (refCells l) (h'.keep (fun b o hb => (below_more (Below.refl _ _) _).cell (p := ⟨b, o, none⟩) hb)) (by omega) (refCells_one l)
    have hof : ((w.alloc (.cells cur 60)).setRow w.heap.size (refCells l).toArray).ownsRow w.heap.size 60 2 (.slice (some ⟨w.heap.size, 0, none⟩) n n) n (refCells l) := own_filled (w := w) (Blk.new w 60 cur) (Nat.le_refl _) (Nat.le_trans hnc (by unfold maxLen; omega)) h.1
    have hbl : Below w.heap.size w ((w.alloc (.cells cur 60)).setRow w.heap.size (refCells l).toArray) := below_setRow (below_more (Below.refl _ _) _) (Nat.le_refl _) _
    generalize (w.alloc (.cells cur 60)).setRow w.heap.size (refCells l).toArray = X at hcp hof hbl
    have HO := Lib.hid hof
    have HB := Lib.hid hbl
    clear h h' h0 hof hbl hcs
    go_enter Tryz.func80, Tryz.ntmps80
    go_wp2_with fail
    go_ret
    exact ⟨some ⟨w.heap.size, 0, none⟩, n, rfl, HO.out, HB.out⟩
/-- a node's own lists, and two boxes of nodes -/
structure NodeR (w : World) (nd : Nd) (M : Leaf) (g5 g6 : Nat) (X : World) : Prop where
  leaf : OwnLeaf X w.heap.size nd M
  b5 : ∃ cs, Blk X g5 41 cs
  b6 : ∃ cs, Blk X g6 41 cs
  bel : Below w.heap.size w X
theorem NodeR.s5 {w X : World} {nd : Nd} {M : Leaf} {g5 g6 : Nat} (h : NodeR w nd M g5 g6 X) (hg : w.heap.size ≤ g5) (i : Nat) (u : Value) : NodeR w nd M g5 g6 (X.setCell ⟨g5, i, none⟩ u) := by
  obtain ⟨h1, ⟨c5, h2⟩, ⟨c6, h3⟩, h4⟩ := h
  refine ⟨h1.other h2 (by decide) (by decide) (by decide) i u, ⟨_, h2.set_ i u⟩, ?_, h4.setCell (p := ⟨g5, i, none⟩) hg u⟩
  by_cases e : g6 = g5
  · subst e; exact ⟨_, h3.set_ i u⟩
  · exact ⟨_, h3.far (p := ⟨g5, i, none⟩) e u⟩
theorem NodeR.s6 {w X : World} {nd : Nd} {M : Leaf} {g5 g6 : Nat} (h : NodeR w nd M g5 g6 X) (hg : w.heap.size ≤ g6) (i : Nat) (u : Value) : NodeR w nd M g5 g6 (X.setCell ⟨g6, i, none⟩ u) := by
  obtain ⟨h1, h2, h3, h4⟩ := h
  have := NodeR.s5 ⟨h1, h3, h2, h4⟩ hg i u
  exact ⟨this.leaf, this.b6, this.b5, this.bel⟩
set_option maxRecDepth 100000 in
set_option maxHeartbeats 3200000 in
theorem ownNode_any (w : World) (hi : Nat) (nd : Nd) (L : Leaf) (h : LeafIn w 0 hi nd L) (hh : hi ≤ w.heap.size) (hf : Fits 1 nd) :
    Calls Tryz.prog 41 #[.agg #[.int .i64 nd.id, .string nd.con, .int .i64 nd.par, .string nd.role, .slice L.p.A L.p.n L.p.c, .slice L.k.A L.k.n L.k.c, .slice L.r.A L.r.n L.r.c]] w fun e w' => ∃ M : Leaf, e = .returned (.agg #[.int .i64 nd.id, .string nd.con, .int .i64 nd.par, .string nd.role, .slice M.p.A M.p.n M.p.c, .slice M.k.A M.k.n M.k.c, .slice M.r.A M.r.n M.r.c]) ∧ OwnLeaf w' w.heap.size nd M ∧ Below w.heap.size w w' := by
  obtain ⟨⟨Ap, np, cp⟩, ⟨Ak, nk, ck⟩, ⟨Ar, nr, cr⟩⟩ := L
  obtain ⟨f1, f2, f3, f4, f5, f6, f7⟩ := h
  simp only at f1 f2 f3 f4 f5 f6
  have g1 := hf.p
  have g2 := hf.k
  have g3 := hf.r
  have hBx0 : Blk ((w.alloc (.cells #[.int .i64 nd.id, .string nd.con, .int .i64 nd.par, .string nd.role, .slice Ap np cp, .slice Ak nk ck, .slice Ar nr cr] 41)).alloc (.cells #[.int .i64 0, .string ⟨#[]⟩, .int .i64 0, .string ⟨#[]⟩, .slice none 0 0, .slice none 0 0, .slice none 0 0] 41)) w.heap.size 41 #[.int .i64 nd.id, .string nd.con, .int .i64 nd.par, .string nd.role, .slice Ap np cp, .slice Ak nk ck, .slice Ar nr cr] := (Blk.new w _ _).alloc _
  have hBz0 : Blk ((w.alloc (.cells #[.int .i64 nd.id, .string nd.con, .int .i64 nd.par, .string nd.role, .slice Ap np cp, .slice Ak nk ck, .slice Ar nr cr] 41)).alloc (.cells #[.int .i64 0, .string ⟨#[]⟩, .int .i64 0, .string ⟨#[]⟩, .slice none 0 0, .slice none 0 0, .slice none 0 0] 41)) (w.heap.size + 1) 41 #[.int .i64 0, .string ⟨#[]⟩, .int .i64 0, .string ⟨#[]⟩, .slice none 0 0, .slice none 0 0, .slice none 0 0] := Blk.new' (by simp)
  have hbw0 : Below w.heap.size w ((w.alloc (.cells #[.int .i64 nd.id, .string nd.con, .int .i64 nd.par, .string nd.role, .slice Ap np cp, .slice Ak nk ck, .slice Ar nr cr] 41)).alloc (.cells #[.int .i64 0, .string ⟨#[]⟩, .int .i64 0, .string ⟨#[]⟩, .slice none 0 0, .slice none 0 0, .slice none 0 0] 41)) := below_more (below_more (Below.refl _ _) _) _
  have HBx1 := Lib.hid hBx0
  have HBz1 := Lib.hid hBz0
  have HBW1 := Lib.hid hbw0
  clear hBx0 hBz0 hbw0
  have HF1 := Lib.hid f1
  have HF2 := Lib.hid f2
  have HF3 := Lib.hid f3
  have b1 : np * 32 ≤ 140737488355328 := by omega
  have b2 : nk * 8 ≤ 140737488355328 := by omega
  have b3 : nr * 24 ≤ 140737488355328 := by omega
  clear f1 f2 f3
  go_enter Tryz.func41, Tryz.ntmps41
  go_upto_region 1 with (fail)
  generalize ((w.alloc (.cells #[.int .i64 nd.id, .string nd.con, .int .i64 nd.par, .string nd.role, .slice Ap np cp, .slice Ak nk ck, .slice Ar nr cr] 41)).alloc (.cells #[.int .i64 0, .string ⟨#[]⟩, .int .i64 0, .string ⟨#[]⟩, .slice none 0 0, .slice none 0 0, .slice none 0 0] 41)) = W2 at HBx1 HBz1 HBW1 ⊢
  have HBx := HBx1
  have HBz := HBz1
  have HBw := HBW1
  clear HBx1 HBz1 HBW1
  have HSof : Hid (∀ X, Below W2.heap.size W2 X → Below W2.heap.size W2 X ∧ X.cell? ⟨w.heap.size, 4, none⟩ = some (.slice Ap np cp) ∧ X.cell? ⟨w.heap.size, 5, none⟩ = some (.slice Ak nk ck) ∧ X.cell? ⟨w.heap.size, 6, none⟩ = some (.slice Ar nr cr)) := Lib.hid fun X hb => ⟨hb, (hb.cell (p := ⟨_, _, none⟩) HBx.out.lt).trans ((HBx.out.cell 4).trans rfl), (hb.cell (p := ⟨_, _, none⟩) HBx.out.lt).trans ((HBx.out.cell 5).trans rfl), (hb.cell (p := ⟨_, _, none⟩) HBx.out.lt).trans ((HBx.out.cell 6).trans rfl)⟩
  have HCp := Lib.hid fun (X : World) (hb : Below W2.heap.size W2 X) => ownProps_any X 0 hi Ap np cp nd.props (f4.below ((HBw.out.trans (hb.mono HBw.out.size)).mono hh)) (Nat.le_trans hh (HBw.out.trans (hb.mono HBw.out.size)).size) (by omega)
  have HCk := Lib.hid fun (X : World) (hb : Below W2.heap.size W2 X) => ownKids_any X 0 hi Ak nk ck nd.kids (f5.below ((HBw.out.trans (hb.mono HBw.out.size)).mono hh)) (Nat.le_trans hh (HBw.out.trans (hb.mono HBw.out.size)).size) (by omega)
  have HCr := Lib.hid fun (X : World) (hb : Below W2.heap.size W2 X) => ownRefs_any X 0 hi Ar nr cr nd.refs (f6.below ((HBw.out.trans (hb.mono HBw.out.size)).mono hh)) (Nat.le_trans hh (HBw.out.trans (hb.mono HBw.out.size)).size) (by omega)
  have HSZ := Lib.hid f7
  have HBW := Lib.hid (Below.refl W2.heap.size W2)
  clear f4 f5 f6 f7 g1 g2 g3 hf b1 b2 b3
  refine wp_region_held_tail 10 (fun w' => Below W2.heap.size W2 w' ∧ w'.cell? ⟨w.heap.size, 4, none⟩ = some (.slice Ap np cp) ∧ w'.cell? ⟨w.heap.size, 5, none⟩ = some (.slice Ak nk ck) ∧ w'.cell? ⟨w.heap.size, 6, none⟩ = some (.slice Ar nr cr)) (by kernel_rfl) (by kernel_rfl) ?hSn (fun hHeld => ?qn0)
  case hSn => exact HSof.out _ (below_drew (Below.refl _ _))
  case qn0 =>
    replace HBW := Lib.hid (below_drew HBW.out)
    simp only [List.take_succ_cons, List.take_zero, List.drop_succ_cons, List.drop_zero]
    refine wpAnyH_take (i := 0) (v := (.pointer (some ⟨w.heap.size, 4, none⟩))) rfl (by kernel_rfl) (by kernel_rfl) (by kernel_rfl) (fun _ _ _ h => h) (Or.inl ⟨by rfl, ?yn_1⟩) (by assumption) ?qn_1
    case yn_1 => (intro w hSw; (try dsimp only at hSw); go_simp)
    case qn_1 =>
      (try simp only [Act.put]); (try simp only [List.setIfInBounds_toArray])
      refine wpAnyH_take (i := 1) (v := (.slice Ap np cp)) rfl (by kernel_rfl) (by kernel_rfl) (by kernel_rfl) (fun _ _ _ h => h) (Or.inl ⟨by rfl, ?yn_2⟩) (by assumption) ?qn_2
      case yn_2 => (intro w hSw; (try dsimp only at hSw); go_simp)
      case qn_2 =>
        (try simp only [Act.put]); (try simp only [List.setIfInBounds_toArray])
        refine wpAnyH_take (i := 3) (v := (.pointer (some ⟨w.heap.size, 5, none⟩))) rfl (by kernel_rfl) (by kernel_rfl) (by kernel_rfl) (fun _ _ _ h => h) (Or.inl ⟨by rfl, ?yn_3⟩) (by assumption) ?qn_3
        case yn_3 => (intro w hSw; (try dsimp only at hSw); go_simp)
        case qn_3 =>
          (try simp only [Act.put]); (try simp only [List.setIfInBounds_toArray])
          refine wpAnyH_take (i := 4) (v := (.slice Ak nk ck)) rfl (by kernel_rfl) (by kernel_rfl) (by kernel_rfl) (fun _ _ _ h => h) (Or.inl ⟨by rfl, ?yn_4⟩) (by assumption) ?qn_4
          case yn_4 => (intro w hSw; (try dsimp only at hSw); go_simp)
          case qn_4 =>
            (try simp only [Act.put]); (try simp only [List.setIfInBounds_toArray])
            refine wpAnyH_take (i := 6) (v := (.pointer (some ⟨w.heap.size, 6, none⟩))) rfl (by kernel_rfl) (by kernel_rfl) (by kernel_rfl) (fun _ _ _ h => h) (Or.inl ⟨by rfl, ?yn_5⟩) (by assumption) ?qn_5
            case yn_5 => (intro w hSw; (try dsimp only at hSw); go_simp)
            case qn_5 =>
              (try simp only [Act.put]); (try simp only [List.setIfInBounds_toArray])
              refine wpAnyH_take (i := 7) (v := (.slice Ar nr cr)) rfl (by kernel_rfl) (by kernel_rfl) (by kernel_rfl) (fun _ _ _ h => h) (Or.inl ⟨by rfl, ?yn_6⟩) (by assumption) ?qn_6
              case yn_6 => (intro w hSw; (try dsimp only at hSw); go_simp)
              case qn_6 =>
                (try simp only [Act.put]); (try simp only [List.setIfInBounds_toArray])
                refine wpAnyH_ready (rs := [2]) (by kernel_rfl) (by simp) ?_
                refine AllReadyH.cons rfl (fun K hK => ?sn_7) ?mn_7
                case sn_7 =>
                  (refine step_call _ (by rfl) 78 #[.slice Ap np cp] (by go_simp) (HCp.out _ HBW.out) ?_; rintro e Y1 ⟨A1, c1, rfl, ho1, hb1⟩; have hz1 := HBW.out.size; refine ⟨_, rfl, ?_⟩; replace HBW := Lib.hid (HBW.out.trans (hb1.mono HBW.out.size)); have HP := Lib.hid (own_mono ho1 hz1); clear ho1 hb1)
                  refine hK.out _ _ ?kn_7 (fun hHeld => ?qn_7)
                  case kn_7 => ((try dsimp only); exact HSof.out _ HBW.out)
                  case qn_7 =>
                    clear hK K
                    (try simp only [Act.put]); (try simp only [List.setIfInBounds_toArray])
                    refine wpAnyH_take (i := 9) (v := (.pointer (some ⟨w.heap.size, 4, none⟩))) rfl (by kernel_rfl) (by kernel_rfl) (by kernel_rfl) (fun _ _ _ h => h) (Or.inl ⟨by rfl, ?yn_8⟩) (by assumption) ?qn_8
                    case yn_8 => (intro w hSw; (try dsimp only at hSw); go_simp)
                    case qn_8 =>
                      (try simp only [Act.put]); (try simp only [List.setIfInBounds_toArray])
                      refine wpAnyH_ready (rs := [5]) (by kernel_rfl) (by simp) ?_
                      refine AllReadyH.cons rfl (fun K hK => ?sn_9) ?mn_9
                      case sn_9 =>
                        (refine step_call _ (by rfl) 79 #[.slice Ak nk ck] (by go_simp) (HCk.out _ HBW.out) ?_; rintro e Y2 ⟨A2, c2, rfl, ho2, hb2⟩; have hz2 := HBW.out.size; refine ⟨_, rfl, ?_⟩; replace HP := Lib.hid (own_after HP.out hb2); replace HBW := Lib.hid (HBW.out.trans (hb2.mono HBW.out.size)); have HK := Lib.hid (own_mono ho2 hz2); clear ho2 hb2)
                        refine hK.out _ _ ?kn_9 (fun hHeld => ?qn_9)
                        case kn_9 => ((try dsimp only); exact HSof.out _ HBW.out)
                        case qn_9 =>
                          clear hK K
                          (try simp only [Act.put]); (try simp only [List.setIfInBounds_toArray])
                          refine wpAnyH_ready (rs := [8]) (by kernel_rfl) (by simp) ?_
                          refine AllReadyH.cons rfl (fun K hK => ?sn_10) ?mn_10
                          case sn_10 =>
                            (refine step_call _ (by rfl) 80 #[.slice Ar nr cr] (by go_simp) (HCr.out _ HBW.out) ?_; rintro e Y3 ⟨A3, c3, rfl, ho3, hb3⟩; have hz3 := HBW.out.size; refine ⟨_, rfl, ?_⟩; replace HP := Lib.hid (own_after HP.out hb3); replace HK := Lib.hid (own_after HK.out hb3); replace HBW := Lib.hid (HBW.out.trans (hb3.mono HBW.out.size)); have HR := Lib.hid (own_mono ho3 hz3); clear ho3 hb3)
                            refine hK.out _ _ ?kn_10 (fun hHeld => ?qn_10)
                            case kn_10 => ((try dsimp only); exact HSof.out _ HBW.out)
                            case qn_10 =>
                              clear hK K
                              (try simp only [Act.put]); (try simp only [List.setIfInBounds_toArray])
                              refine wpAnyH_done (by kernel_rfl) ?_ _
                              obtain ⟨hBe, he0, he1, he2⟩ := hHeld
                              show wpList _ _ _ _ _ _
                              have hb5 := HBx.out.after HBW.out
                              have hb6 := HBz.out.after HBW.out
                              have x0 := hb5.cell 0
                              have x1 := hb5.cell 1
                              have x2 := hb5.cell 2
                              have x3 := hb5.cell 3
                              have x4 := hb5.frozen 4
                              have x5 := hb5.frozen 5
                              have x6 := hb5.frozen 6
                              have z0 := hb6.cell 0
                              have z1 := hb6.cell 1
                              have z2 := hb6.cell 2
                              have z3 := hb6.cell 3
                              have z4 := hb6.cell 4
                              have z5 := hb6.cell 5
                              have z6 := hb6.cell 6
                              have y0 := hb6.frozen 0
                              have y1 := hb6.frozen 1
                              have y2 := hb6.frozen 2
                              have y3 := hb6.frozen 3
                              have y4 := hb6.frozen 4
                              have y5 := hb6.frozen 5
                              have y6 := hb6.frozen 6
                              simp at x0 x1 x2 x3 z0 z1 z2 z3 z4 z5 z6
                              have HB5 := Lib.hid hb5
                              have HB6 := Lib.hid hb6
                              clear hb5 hb6
                              go_wp2_with fail
                              (try rw [Exit.noGoto_ret])
                              (try simp only [Exit.inBlock, Exit.then])
                              have hres : Tryz.f41.results = #[.cell 2 41] := by kernel_rfl
                              refine bodyPost_ret (v := .agg #[.int .i64 nd.id, .string nd.con, .int .i64 nd.par, .string nd.role, .slice A1 np c1, .slice A2 nk c2, .slice A3 nr c3]) ?hr rfl ?_
                              case hr =>
                                simp only [results, hres]
                                go_simp
                              have hle : w.heap.size ≤ W2.heap.size := HBw.out.size
                              have hR : NodeR w nd ⟨⟨A1, np, c1⟩, ⟨A2, nk, c2⟩, ⟨A3, nr, c3⟩⟩ w.heap.size (w.heap.size + 1) Y3 := ⟨⟨HF1.out, HF2.out, HF3.out, own_mono HP.out hle, own_mono HK.out hle, own_mono HR.out hle, HSZ.out⟩, ⟨_, HB5.out⟩, ⟨_, HB6.out⟩, HBw.out.trans (HBW.out.mono hle)⟩
                              have hE := (((((((((hR.s5 (Nat.le_refl _) 4 (.slice A1 np c1)).s5 (Nat.le_refl _) 5 (.slice A2 nk c2)).s5 (Nat.le_refl _) 6 (.slice A3 nr c3)).s6 (by omega) 0 (.int .i64 nd.id)).s6 (by omega) 1 (.string nd.con)).s6 (by omega) 2 (.int .i64 nd.par)).s6 (by omega) 3 (.string nd.role)).s6 (by omega) 4 (.slice A1 np c1)).s6 (by omega) 5 (.slice A2 nk c2)).s6 (by omega) 6 (.slice A3 nr c3)
                              exact ⟨⟨⟨A1, np, c1⟩, ⟨A2, nk, c2⟩, ⟨A3, nr, c3⟩⟩, rfl, hE.leaf, hE.bel⟩
                          case mn_10 =>
                            exact AllReadyH.nil
                      case mn_9 =>
                        exact AllReadyH.nil
                case mn_7 =>
                  exact AllReadyH.nil
end Go.Proofs.YtbkmdlfenbfdlaaGreat
namespace Go.Proofs.YtbkmdlfenbfdlaaGreat
open Go Go.RowKit Go.Sort
set_option linter.unusedVariables false
attribute [local go_sem ↓] Go.wp_at_zero Go.wp_at_succ
theorem take_set7 {α : Type} {xs : List α} {k : Nat} {c0 c1 c2 c3 c4 c5 c6 : α} (h : k * 7 + 7 ≤ xs.length) :
    (((((((xs.set (k * 7) c0).set (k * 7 + 1) c1).set (k * 7 + 2) c2).set (k * 7 + 3) c3).set (k * 7 + 4) c4).set (k * 7 + 5) c5).set (k * 7 + 6) c6).take ((k + 1) * 7) = xs.take (k * 7) ++ [c0, c1, c2, c3, c4, c5, c6] := by
  apply List.ext_getElem?
  intro j
  rcases Nat.lt_or_ge j (k * 7) with hj | hj
  · rw [List.getElem?_take_of_lt (by omega), List.getElem?_append_left (by rw [List.length_take]; omega), List.getElem?_take_of_lt hj]
    repeat rw [List.getElem?_set_ne (by omega)]
  · obtain ⟨r, rfl⟩ : ∃ r, j = k * 7 + r := ⟨j - k * 7, by omega⟩
    rw [List.getElem?_append_right (by rw [List.length_take]; omega), List.length_take, Nat.min_eq_left (by omega), Nat.add_sub_cancel_left]
    match r with
    | 0 => simp [List.getElem?_take, List.getElem?_set]; omega
    | 1 => simp [List.getElem?_take, List.getElem?_set]; omega
    | 2 => simp [List.getElem?_take, List.getElem?_set]; omega
    | 3 => simp [List.getElem?_take, List.getElem?_set]; omega
    | 4 => simp [List.getElem?_take, List.getElem?_set]; omega
    | 5 => simp [List.getElem?_take, List.getElem?_set]; omega
    | 6 => simp [List.getElem?_take, List.getElem?_set]; omega
    | r + 7 => rw [List.getElem?_take_eq_none (by omega)]; simp
/-- a row of nodes, of which the first ones are filled -/
structure Filling (w : World) (next : Int) (A : Option Addr) (n c k g : Nat) (xs : List Value) (l : List (Nd × Leaf)) (wr : World) : Prop where
  md : Blk wr w.heap.size 26 #[.int .i64 next, .slice A n c]
  rs : Blk wr (w.heap.size + 1) 26 #[.int .i64 0, .slice none 0 0]
  row : wr.ownsRow w.heap.size 41 7 (.slice (some ⟨g, 0, none⟩) n n) n xs
  fill : xs.take (k * 7) = allCells l
  leaf : ∀ p ∈ l, OwnLeaf wr w.heap.size p.1 p.2
  bel : Below w.heap.size w wr
section
variable {w X X' : World} {next : Int} {A : Option Addr} {n c k g : Nat} {xs : List Value} {l : List (Nd × Leaf)}
theorem Filling.after (h : Filling w next A n c k g xs l X) (hb : Below X.heap.size X X') : Filling w next A n c k g xs l X' :=
  ⟨h.md.after hb, h.rs.after hb, own_after h.row hb, h.fill, fun p hp => (h.leaf p hp).after hb, h.bel.trans (hb.mono h.bel.size)⟩
/-- what a store into the row leaves, but for what is filled -/
structure Filled (w : World) (next : Int) (A : Option Addr) (n c g : Nat) (xs : List Value) (l : List (Nd × Leaf)) (wr : World) : Prop where
  md : Blk wr w.heap.size 26 #[.int .i64 next, .slice A n c]
  rs : Blk wr (w.heap.size + 1) 26 #[.int .i64 0, .slice none 0 0]
  row : wr.ownsRow w.heap.size 41 7 (.slice (some ⟨g, 0, none⟩) n n) n xs
  leaf : ∀ p ∈ l, OwnLeaf wr w.heap.size p.1 p.2
  bel : Below w.heap.size w wr
theorem Filled.set (h : Filled w next A n c g xs l X) (j : Nat) (u : Value) : Filled w next A n c g (xs.set j u) l (X.setCell ⟨g, j, none⟩ u) := by
  obtain ⟨cs, hg, hB, _⟩ := own_blk h.row
  have hs := World.ownsRow.stored h.row j u
  refine ⟨h.md.far ?_ u, h.rs.far ?_ u, hs.1, fun p hp => (h.leaf p hp).other hg (by decide) (by decide) (by decide) j u, h.bel.setCell (p := ⟨g, j, none⟩) hB u⟩
  · exact h.md.ne_ hg (by decide)
  · exact h.rs.ne_ hg (by decide)
theorem Filling.push {p : Nd × Leaf} (h : Filling w next A n c k g xs l X) (hk : k < n) (hl : l.length = k) (hp : OwnLeaf X w.heap.size p.1 p.2) {u0 u1 u2 u3 u4 u5 u6 : Value} (hu : ndCells p = [u0, u1, u2, u3, u4, u5, u6]) :
    ∃ xs', Filling w next A n c (k + 1) g xs' (l ++ [p]) (((((((X.setCell ⟨g, k * 7, none⟩ u0).setCell ⟨g, k * 7 + 1, none⟩ u1).setCell ⟨g, k * 7 + 2, none⟩ u2).setCell ⟨g, k * 7 + 3, none⟩ u3).setCell ⟨g, k * 7 + 4, none⟩ u4).setCell ⟨g, k * 7 + 5, none⟩ u5).setCell ⟨g, k * 7 + 6, none⟩ u6) := by
  have h0 : Filled w next A n c g xs (l ++ [p]) X := ⟨h.md, h.rs, h.row, fun q hq => by
    rcases List.mem_append.1 hq with hq | hq
    · exact h.leaf q hq
    · obtain rfl : q = p := by simpa using hq
      exact hp, h.bel⟩
  have h7 := ((((((h0.set (k * 7) u0).set (k * 7 + 1) u1).set (k * 7 + 2) u2).set (k * 7 + 3) u3).set (k * 7 + 4) u4).set (k * 7 + 5) u5).set (k * 7 + 6) u6
  refine ⟨_, h7.md, h7.rs, h7.row, ?_, h7.leaf, h7.bel⟩
  rw [take_set7 (by rw [h.row.1]; omega), h.fill, ← hu]
  simp [allCells]
theorem Filling.room (h : Filling w next A n c k g xs l X) (hk : k < n) :
    (∃ u, X.cell? ⟨g, k * 7, none⟩ = some u ∧ X.frozen? ⟨g, k * 7, none⟩ = false) ∧ (∃ u, X.cell? ⟨g, k * 7 + 1, none⟩ = some u ∧ X.frozen? ⟨g, k * 7 + 1, none⟩ = false) ∧
    (∃ u, X.cell? ⟨g, k * 7 + 2, none⟩ = some u ∧ X.frozen? ⟨g, k * 7 + 2, none⟩ = false) ∧ (∃ u, X.cell? ⟨g, k * 7 + 3, none⟩ = some u ∧ X.frozen? ⟨g, k * 7 + 3, none⟩ = false) ∧
    (∃ u, X.cell? ⟨g, k * 7 + 4, none⟩ = some u ∧ X.frozen? ⟨g, k * 7 + 4, none⟩ = false) ∧ (∃ u, X.cell? ⟨g, k * 7 + 5, none⟩ = some u ∧ X.frozen? ⟨g, k * 7 + 5, none⟩ = false) ∧
    (∃ u, X.cell? ⟨g, k * 7 + 6, none⟩ = some u ∧ X.frozen? ⟨g, k * 7 + 6, none⟩ = false) := by
  have key : ∀ j, j < n * 7 → ∃ u, X.cell? ⟨g, j, none⟩ = some u ∧ X.frozen? ⟨g, j, none⟩ = false := fun j hj => by
    have h1 := World.ownsRow.cellAt h.row j hj
    rw [List.getElem?_eq_getElem (by rw [h.row.1]; exact hj)] at h1
    exact ⟨_, h1, World.ownsRow.frozenAt h.row j⟩
  exact ⟨key _ (by omega), key _ (by omega), key _ (by omega), key _ (by omega), key _ (by omega), key _ (by omega), key _ (by omega)⟩
theorem Filling.ownM {k : Nat} {xs : List Value} (h : Filling w next A k c k g xs l X) (hl : l.length = k) : OwnM X w.heap.size (.slice (some ⟨g, 0, none⟩) k k) l := by
  refine ⟨?_, h.leaf⟩
  have h1 := h.row
  have h2 := h.fill
  rw [List.take_of_length_le (by rw [h1.1]; exact Nat.le_refl _)] at h2
  unfold OwnN
  rw [hl, ← h2]
  exact h1
theorem filling_start (w : World) (next : Int) (A : Option Addr) (n c : Nat) (cur : Array Value) (hcs : cur.size = n * 7) (hn : n ≤ maxLen) : Filling w next A n c 0 (w.heap.size + 1 + 1) cur.toList []
    (((w.alloc (.cells #[.int .i64 next, .slice A n c] 26)).alloc (.cells #[.int .i64 0, .slice none 0 0] 26)).alloc (.cells cur 41)) := by
  refine ⟨?_, ?_, ?_, by simp [allCells], by simp, below_more (below_more (below_more (Below.refl _ _) _) _) _⟩
  · exact ((Blk.new w _ _).alloc _).alloc _
  · exact (Blk.new' (by simp)).alloc _
  · exact ⟨by simpa using hcs, .inr ⟨w.heap.size + 1 + 1, n, cur, rfl, by omega, Blk.new' (by simp), Nat.le_refl _, hn, hcs, List.take_of_length_le (by simp [hcs])⟩⟩
end
set_option maxRecDepth 100000 in
set_option maxHeartbeats 3200000 in
theorem own_any (w : World) (hi : Nat) (next : Int) (A : Option Addr) (n c : Nat) (nds : List Nd) (h : NodesIn w 0 hi A n c nds) (hh : hi ≤ w.heap.size) (hn : n ≤ 4096) (hf : ∀ nd ∈ nds, Fits 1 nd) :
    Calls Tryz.prog 46 #[.agg #[.int .i64 next, .slice A n c]] w fun e w' => ∃ g l, e = .returned (.agg #[.int .i64 next, .slice (some ⟨g, 0, none⟩) n n]) ∧ OwnM w' w.heap.size (.slice (some ⟨g, 0, none⟩) n n) l ∧ l.map (·.1) = nds ∧ Below w.heap.size w w' := by
  have hc := h.2.2.1
  have hnc := h.2.1
  have HL := Lib.hid h.1
  unfold maxLen at hc
  obtain ⟨i0, hi0, hz0, hz1, hz2⟩ := info_parts nodeInfo
  obtain ⟨cur, hcs, hmk⟩ := make_rows 24 41 i0 _ 7 120 Tryz.underlying24 hi0 hz0 hz1 hz2 rfl n (by omega) (by omega)
  have HCS := Lib.hid hcs
  clear hcs hz0 hz1 hz2 hi0
  go_enter Tryz.func46, Tryz.ntmps46
  go_wp2_with fail
  go_loopw [4, 11] (fun i4 i wr => ∃ (k : Nat) (xs : List Value) (l : List (Nd × Leaf)), k ≤ n ∧ i = .int .i64 k ∧ Filling w next A n c k (w.heap.size + 1 + 1) xs l wr ∧ Hid (l.map (·.1) = nds.take k)) (fun _ i _ => n - (intOf i).toNat)
  case atStart => exact ⟨0, cur.toList, [], Nat.zero_le _, rfl, filling_start w next A n c cur HCS.out (by unfold maxLen; omega), Lib.hid rfl⟩
  case round =>
    obtain ⟨k, xs, l, hk, rfl, F, HT⟩ := hrel
    have c1 := F.md.cell 1
    simp at c1
    have hbel := F.bel
    have hwz := hbel.size
    have HF := Lib.hid F
    clear F
    by_cases hlt : k < n
    · obtain ⟨b, o, hA, _, hb, V, hV⟩ := h.all (by omega)
      obtain ⟨nd, hnd⟩ : ∃ nd, nds[k]? = some nd := ⟨nds[k]'(by have := HL.out; omega), List.getElem?_eq_getElem _⟩
      have hat := (hV k nd hnd).1.below hbel (by omega)
      have hlf := (hV k nd hnd).2.below (hbel.mono hh)
      have hfi := hf nd (List.mem_of_getElem? hnd)
      generalize V k = Lk at hat hlf
      subst hA
      have HON := Lib.hid (ownNode_any wr hi nd Lk hlf (by omega) hfi)
      have HND := Lib.hid hnd
      obtain ⟨⟨Ap, np, cp⟩, ⟨Ak, nk, ck⟩, ⟨Ar, nr, cr⟩⟩ := Lk
      obtain ⟨a0, a1, a2, a3, a4, a5, a6⟩ := hat
      simp only at a4 a5 a6
      have hlk : l.length = k := by have := congrArg List.length HT.out; rw [List.length_map, List.length_take, HL.out] at this; omega
      have HLK := Lib.hid hlk
      clear hV hnd hfi hlf hlk
      go_wp2_with (go_at_call 41; go_must (refine HON.out.mono ?_; rintro e w2 ⟨⟨⟨A1, n1, k1⟩, ⟨A2, n2, k2⟩, ⟨A3, n3, k3⟩⟩, rfl, hl2, hb2⟩; have hF2 := HF.out.after hb2; obtain ⟨⟨u0, r0, s0⟩, ⟨u1, r1, s1⟩, ⟨u2, r2, s2⟩, ⟨u3, r3, s3⟩, ⟨u4, r4, s4⟩, ⟨u5, r5, s5⟩, ⟨u6, r6, s6⟩⟩ := hF2.room hlt; have HF2 := Lib.hid hF2; have HL2 := Lib.hid (hl2.mono hwz); clear hF2 hl2 hb2))
      obtain ⟨xs', hF'⟩ := HF2.out.push (p := (nd, ⟨⟨A1, n1, k1⟩, ⟨A2, n2, k2⟩, ⟨A3, n3, k3⟩⟩)) hlt HLK.out HL2.out rfl
      exact ⟨⟨k + 1, xs', l ++ [(nd, ⟨⟨A1, n1, k1⟩, ⟨A2, n2, k2⟩, ⟨A3, n3, k3⟩⟩)], by omega, by simp, hF', Lib.hid (by rw [List.map_append, HT.out, List.take_add_one, HND.out]; rfl)⟩, by simp only [intOf]; omega⟩
    · have hkn : k = n := by omega
      subst hkn
      have m0 := HF.out.md.cell 0
      have m1 := HF.out.md.frozen 1
      have t0 := HF.out.rs.cell 0
      have t1 := HF.out.rs.cell 1
      have t2 := HF.out.rs.frozen 0
      have t3 := HF.out.rs.frozen 1
      simp at m0 t0 t1
      have hnn : l.map (·.1) = nds := by rw [HT.out, List.take_of_length_le (by rw [HL.out]; omega)]
      have HNN := Lib.hid hnn
      have HLN : Hid (l.length = k) := Lib.hid (by have := congrArg List.length hnn; rw [List.length_map, HL.out] at this; exact this)
      clear h hf hnn
      go_wp2_with fail
      (try rw [Exit.noGoto_ret])
      (try simp only [Exit.inBlock, Exit.then])
      have hres : Tryz.f46.results = #[.cell 2 26] := by kernel_rfl
      refine bodyPost_ret (v := .agg #[.int .i64 next, .slice (some ⟨w.heap.size + 1 + 1, 0, none⟩) k k]) ?hr rfl ?_
      case hr =>
        simp only [results, hres]
        go_simp
      have hm : OwnM wr w.heap.size (.slice (some ⟨w.heap.size + 1 + 1, 0, none⟩) k k) l := HF.out.ownM HLN.out
      refine ⟨_, l, rfl, ?_, HNN.out, ?_⟩
      · exact ((hm.other HF.out.md 1 _).other (HF.out.rs.far (p := ⟨w.heap.size, 1, none⟩) (by simp) _) 0 _).other ((HF.out.rs.far (p := ⟨w.heap.size, 1, none⟩) (by simp) _).set_ 0 _) 1 _
      · exact ((HF.out.bel.setCell (p := ⟨w.heap.size, 1, none⟩) (by simp) _).setCell (p := ⟨w.heap.size + 1, 0, none⟩) (by simp) _).setCell (p := ⟨w.heap.size + 1, 1, none⟩) (by simp) _
end Go.Proofs.YtbkmdlfenbfdlaaGreat
namespace Go.Proofs.YtbkmdlfenbfdlaaGreat
open Go Go.RowKit Go.Sort
set_option linter.unusedVariables false
attribute [local go_sem ↓] Go.wp_at_zero Go.wp_at_succ
theorem own_form {w : World} {B size n : Nat} {e : TypeId} {v : Value} {xs : List Value} (h : w.ownsRow B e size v n xs) : ∃ A c, v = .slice A n c := by
  rcases h.2 with ⟨rfl, rfl⟩ | ⟨g, cap, _, rfl, _⟩
  · exact ⟨none, 0, rfl⟩
  · exact ⟨_, _, rfl⟩
/-- two boxes of nodes: what stands in the first one -/
structure RN (w : World) (cs : Array Value) (X : World) : Prop where
  b5 : Blk X w.heap.size 41 cs
  b6 : Blk X (w.heap.size + 1) 41 #[.int .i64 0, .string ⟨#[]⟩, .int .i64 0, .string ⟨#[]⟩, .slice none 0 0, .slice none 0 0, .slice none 0 0]
  bel : Below w.heap.size w X
section
variable {w X X' : World} {cs : Array Value}
theorem RN.after (h : RN w cs X) (hb : Below X.heap.size X X') : RN w cs X' := ⟨h.b5.after hb, h.b6.after hb, h.bel.trans (hb.mono h.bel.size)⟩
theorem RN.kept (h : RN w cs X) {e : TypeId} {size n : Nat} {v : Value} {xs : List Value} (hown : X.ownsRow w.heap.size e size v n xs) (hne : e ≠ 41) (hg : X.grownBy X' v.ownBlock) : RN w cs X' :=
  ⟨h.b5.grown hg (Ne.symm (own_blk_ne hown h.b5 hne)), h.b6.grown hg (Ne.symm (own_blk_ne hown h.b6 hne)), below_grows h.bel hg hown (Nat.le_refl _)⟩
theorem RN.set (h : RN w cs X) (i : Nat) (u : Value) : RN w (cs.setIfInBounds i u) (X.setCell ⟨w.heap.size, i, none⟩ u) :=
  ⟨h.b5.set_ i u, h.b6.far (p := ⟨w.heap.size, i, none⟩) (by simp) u, h.bel.setCell (p := ⟨w.heap.size, i, none⟩) (Nat.le_refl _) u⟩
end
end Go.Proofs.YtbkmdlfenbfdlaaGreat
namespace Go.Proofs.YtbkmdlfenbfdlaaGreat
open Go Go.RowKit Go.Sort
set_option linter.unusedVariables false
attribute [local go_sem ↓] Go.wp_at_zero Go.wp_at_succ
/-- the box of a model -/
structure M1 (w : World) (next : Int) (A : Option Addr) (n c : Nat) (wr : World) : Prop where
  a : Blk wr w.heap.size 26 #[.int .i64 next, .slice A n c]
  bel : Below w.heap.size w wr
theorem M1.start (w : World) (next : Int) (A : Option Addr) (n c : Nat) : M1 w next A n c (w.alloc (.cells #[.int .i64 next, .slice A n c] 26)) := ⟨Blk.new _ _ _, below_more (Below.refl _ _) _⟩
theorem M1.after {w X X' : World} {next : Int} {A : Option Addr} {n c : Nat} (h : M1 w next A n c X) (hb : Below X.heap.size X X') : M1 w next A n c X' := ⟨h.a.after hb, h.bel.trans (hb.mono h.bel.size)⟩
theorem ixOf_of_ndOf {nds : List Nd} {id : Int} {nd : Nd} (h : ndOf nds id = some nd) : ∃ i, ixOf nds id = some i ∧ nds[i]? = some nd := by
  obtain ⟨i, h1, h2, _⟩ := ndOf_some h
  exact ⟨i, h1, h2⟩
set_option maxRecDepth 20000 in
set_option maxHeartbeats 1600000 in
theorem depth_any (w : World) (hi : Nat) (next id : Int) (A : Option Addr) (n c : Nat) (nds : List Nd) (h : NodesIn w 0 hi A n c nds) (hh : hi ≤ w.heap.size) (hr : Rise nds) (hn : n ≤ 4096) (K : Nat) (hK : DepthIs nds id K) (hK6 : K ≤ 65) :
    Calls Tryz.prog 60 #[.agg #[.int .i64 next, .slice A n c], .int .i64 id] w (Ret w (.int .i64 K)) := by
  have hc := h.2.2.1
  have hnc := h.2.1
  have HL := Lib.hid h.1
  unfold maxLen at hc
  have HM0 := Lib.hid (M1.start w next A n c)
  go_enter Tryz.func60, Tryz.ntmps60
  go_wp2_with fail
  go_loopw [1, 5] (fun x d wr => ∃ (k : Nat) (y : Int), k ≤ K ∧ x = .int .i64 y ∧ d = .int .i64 k ∧ Hid (y = upI nds id k) ∧ M1 w next A n c wr) (fun _ d _ => K - (intOf d).toNat)
  case atStart => exact ⟨0, id, Nat.zero_le _, rfl, rfl, Lib.hid rfl, HM0.out⟩
  case round =>
    clear HM0
    obtain ⟨k, y, hk, rfl, rfl, HY, M⟩ := hrel
    have c0 := M.a.cell 0
    have c1 := M.a.cell 1
    simp at c0 c1
    have HM := Lib.hid M
    clear M
    by_cases hlt : k < K
    · obtain ⟨h0, nd, hnd⟩ := hK.way k hlt
      rw [← HY.out] at h0 hnd
      obtain ⟨i, hix, hgi⟩ := ixOf_of_ndOf hnd
      have hin := ixOf_lt hix
      rw [HL.out] at hin
      obtain ⟨b, o, hA, _, hb, V, hV⟩ := h.all (by omega)
      have hat := ((hV i nd hgi).1.below HM.out.bel (by omega)).c2
      subst hA
      have HNo := Lib.hid (node_any _ hi next y _ n c nds (h.below (HM.out.bel.mono hh)) (Nat.le_trans hh HM.out.bel.size) hr hn (.pointer (some ⟨b, o + i * 7, none⟩)) (by rw [hix]; exact ⟨b, o, rfl, rfl⟩))
      have d0 : (y != 0) = true := by rw [bne_iff_ne]; exact h0
      have hup : nd.par = upI nds id (k + 1) := by rw [upI_succ (by rw [← HY.out]; exact hnd)]
      have HUP := Lib.hid hup
      rename World => wr
      have hbr : b < wr.heap.size := by have := HM.out.bel.size; omega
      have HAT := Lib.hid hat
      clear hV hix hgi hnd h0 hup hat
      go_wp2_with (go_at_call 42; go_must (refine HNo.out.mono ?_; rintro e w2 ⟨rfl, hb2⟩; have ha2 := (hb2.cell (p := ⟨b, _, none⟩) hbr).trans HAT.out; have HM2 := Lib.hid (HM.out.after hb2); clear hb2))
      go_roundw
      case measure => simp only [intOf]; omega
      case rel => exact ⟨k + 1, nd.par, by omega, rfl, by simp, HUP, HM2.out⟩
    · have hkk : k = K := by omega
      subst hkk
      have hy : y = 0 := by rw [HY.out]; exact hK.top
      subst hy
      clear h hK
      go_wp2_with fail
      go_ret
      exact ret_mk rfl HM.out.bel
end Go.Proofs.YtbkmdlfenbfdlaaGreat
namespace Go.Proofs.YtbkmdlfenbfdlaaGreat
open Go Go.RowKit Go.Sort
set_option linter.unusedVariables false
attribute [local go_sem ↓] Go.wp_at_zero Go.wp_at_succ
/-- is a node's role that one? -/
def inRoleB (nds : List Nd) (role : ByteArray) (k : Int) : Bool := match ndOf nds k with
  | some x => x.role.toList == role.toList
  | none => false
/-- the boxes of a spot and of a model -/
structure SM (w : World) (parent : Int) (role : ByteArray) (at_ next : Int) (A : Option Addr) (n c : Nat) (wr : World) : Prop where
  s : Blk wr w.heap.size 78 #[.int .i64 parent, .string role, .int .i64 at_]
  m : Blk wr (w.heap.size + 1) 26 #[.int .i64 next, .slice A n c]
  bel : Below w.heap.size w wr
section
variable {w wr w' : World} {parent at_ next : Int} {role : ByteArray} {A : Option Addr} {n c : Nat}
theorem SM.start (w : World) (parent : Int) (role : ByteArray) (at_ next : Int) (A : Option Addr) (n c : Nat) : SM w parent role at_ next A n c ((w.alloc (.cells #[.int .i64 parent, .string role, .int .i64 at_] 78)).alloc (.cells #[.int .i64 next, .slice A n c] 26)) :=
  ⟨(Blk.new _ _ _).alloc _, Blk.new' (by simp), below_more (below_more (Below.refl _ _) _) _⟩
theorem SM.after (h : SM w parent role at_ next A n c wr) (hb : Below wr.heap.size wr w') : SM w parent role at_ next A n c w' := ⟨h.s.after hb, h.m.after hb, h.bel.trans (hb.mono h.bel.size)⟩
end
set_option maxRecDepth 20000 in
set_option maxHeartbeats 1600000 in
theorem among_root (w : World) (next at_ : Int) (role : ByteArray) (A : Option Addr) (n c : Nat) (v : Bool) (hv : (role.toList.isEmpty && at_ == 0) = v) :
    Calls Tryz.prog 83 #[.agg #[.int .i64 0, .string role, .int .i64 at_], .agg #[.int .i64 next, .slice A n c]] w (Ret w (.tuple #[.int .i64 0, .bool v])) := by
  have HM0 := Lib.hid (SM.start w 0 role at_ next A n c)
  have HV := Lib.hid hv
  cases d1 : role.toList.isEmpty with
  | true =>
    have HX : Hid ((at_ == 0) = v) := Lib.hid (by rw [← hv, d1]; rfl)
    have d2 : (role.toList == ([] : List UInt8)) = true := by rw [beq_iff_eq]; exact List.isEmpty_iff.1 d1
    clear hv HV d1
    go_enter Tryz.func83, Tryz.ntmps83
    go_wp2_with fail
    go_quiet (fail)
    go_wp2_with fail
    go_ret2
    obtain rfl := HX.out
    exact ret_mk rfl (below_drewN HM0.out.bel _)
  | false =>
    have HX : Hid (v = false) := Lib.hid (by rw [← hv, d1]; rfl)
    have d2 : (role.toList == ([] : List UInt8)) = false := by rw [beq_eq_false_iff_ne]; intro e; rw [e] at d1; cases d1
    clear hv HV d1
    go_enter Tryz.func83, Tryz.ntmps83
    go_wp2_with fail
    go_quiet (fail)
    go_wp2_with fail
    go_ret2
    obtain rfl := HX.out
    exact ret_mk rfl (below_drewN HM0.out.bel _)
set_option maxRecDepth 20000 in
set_option maxHeartbeats 3200000 in
theorem among_any (w : World) (hi : Nat) (next parent at_ : Int) (role : ByteArray) (A : Option Addr) (n c : Nat) (nds : List Nd) (h : NodesIn w 0 hi A n c nds) (hh : hi ≤ w.heap.size)
    (nd : Nd) (hr : KOk nds nd) (hnd : ndOf nds parent = some nd) (h0 : parent ≠ 0) (r : Int × Bool) (hrr : amongF (inRoleB nds role) at_ 0 nd.kids.length 0 nd.kids = r) :
    Calls Tryz.prog 83 #[.agg #[.int .i64 parent, .string role, .int .i64 at_], .agg #[.int .i64 next, .slice A n c]] w (Ret w (.tuple #[.int .i64 r.1, .bool r.2])) := by
  have hc := h.2.2.1
  have hnc := h.2.1
  have HL := Lib.hid h.1
  have hn : n ≤ 4096 := by rw [← h.1]; exact hr.len
  unfold maxLen at hc
  obtain ⟨i, hix, hgi⟩ := ixOf_of_ndOf hnd
  have hin := ixOf_lt hix
  rw [HL.out] at hin
  have hkl := hr.kl
  have hkids := hr.kids
  obtain ⟨b, o, hA, _, hb, V, hV⟩ := h.all (by omega)
  have hat0 := (hV i nd hgi).1.c5
  have hlf := (hV i nd hgi).2
  generalize V i = L at hat0 hlf
  obtain ⟨_, ⟨Ak, nk, ck⟩, _⟩ := L
  have hkn : nk = nd.kids.length := hlf.kn
  have hrow := hlf.k
  simp only at hat0 hrow
  subst hA
  have hnk := hrow.2.1
  have hck := hrow.2.2.1
  unfold maxLen at hck
  have HM0 := Lib.hid (SM.start w parent role at_ next (some ⟨b, o, none⟩) n c)
  have hat : ∀ X, Below w.heap.size w X → X.cell? ⟨b, o + i * 7 + 5, none⟩ = some (.slice Ak nk ck) := fun X hX => (hX.cell (p := ⟨b, _, none⟩) (Nat.lt_of_lt_of_le hb hh)).trans hat0
  have HAT := Lib.hid hat
  have HNo := Lib.hid (node_any _ hi next parent _ n c nds (h.below (HM0.out.bel.mono hh)) (Nat.le_trans hh HM0.out.bel.size) hr.rise hn (.pointer (some ⟨b, o + i * 7, none⟩)) (by rw [hix]; exact ⟨b, o, rfl, rfl⟩))
  have d0 : (parent == 0) = false := by rw [beq_eq_false_iff_ne]; exact h0
  have HROW := Lib.hid hrow
  have HKN := Lib.hid hkn
  have HR := Lib.hid hrr
  have HKS := Lib.hid hkids
  have hnk4 : nk ≤ 4096 := by omega
  clear hat0 hlf hat hrow hkn hrr hkids hnd hix hgi h0
  go_enter Tryz.func83, Tryz.ntmps83
  go_wp2_with (go_at_call 42; go_must (refine HNo.out.mono ?_; rintro e w2 ⟨rfl, hb2⟩; have hm2 := HM0.out.after hb2; have ha2 := HAT.out w2 hm2.bel; have HM2 := Lib.hid hm2; clear hb2 hm2))
  go_loopw [7, 8, 9, 10, 33] (fun v7 v8 v9 v10 v33 wr => ∃ (j behind places : Nat), j ≤ nk ∧ behind ≤ nk ∧ places ≤ j ∧ v7 = .int .i64 behind ∧ v8 = .int .i64 places ∧ v33 = .int .i64 j ∧ Hid (r = amongF (inRoleB nds role) at_ j behind places (nd.kids.drop j)) ∧ SM w parent role at_ next (some ⟨b, o, none⟩) n c wr) (fun _ _ _ _ v _ => nk - (intOf v).toNat)
  case atStart =>
    exact ⟨0, nk, 0, Nat.zero_le _, Nat.le_refl _, Nat.le_refl _, rfl, rfl, rfl, Lib.hid (by rw [← HR.out, HKN.out]; rfl), HM2.out⟩
  case round =>
    clear HM2 HM0 HNo
    obtain ⟨j, behind, places, hj, hbe, hpl, rfl, rfl, rfl, HAM, M⟩ := hrel
    have HM := Lib.hid M
    clear M
    rename World => wr
    by_cases hlt : j < nk
    · obtain ⟨kid, hkid⟩ : ∃ kid, nd.kids[j]? = some kid := ⟨nd.kids[j]'(by have := HKN.out; omega), List.getElem?_eq_getElem _⟩
      obtain ⟨bk, ok, rfl, _, hbk, hcells⟩ := HROW.out.at_ (by omega)
      have hkc := (HM.out.bel.cell (p := ⟨bk, _, none⟩) (Nat.lt_of_lt_of_le hbk hh)).trans (hcells j _ (intCells_get hkid))
      have hkd : nd.kids.drop j = kid :: nd.kids.drop (j + 1) := by
        obtain ⟨hl', rfl⟩ := List.getElem?_eq_some_iff.1 hkid
        exact List.drop_eq_getElem_cons hl'
      obtain ⟨x, hx⟩ := HKS.out kid (List.mem_of_getElem? hkid)
      obtain ⟨q, hqx, hgq⟩ := ixOf_of_ndOf hx
      have hqn := ixOf_lt hqx
      rw [HL.out] at hqn
      have hxr : wr.cell? ⟨b, o + q * 7 + 3, none⟩ = some (.string x.role) := (HM.out.bel.cell (p := ⟨b, _, none⟩) (Nat.lt_of_lt_of_le hb hh)).trans (hV q x hgq).1.c3
      have HNq : Hid (∀ d os, Calls Tryz.prog 42 #[.agg #[.int .i64 next, .slice (some ⟨b, o, none⟩) n c], .int .i64 kid] (grow (redrawn wr d) os) (Ret (grow (redrawn wr d) os) (.pointer (some ⟨b, o + q * 7, none⟩)))) := Lib.hid fun d os => by
        have hz := HM.out.bel.trans ((below_regrown wr d os).mono HM.out.bel.size)
        exact node_any _ hi next kid _ n c nds (h.below (hz.mono hh)) (Nat.le_trans hh hz.size) hr.rise hn _ (by rw [hqx]; exact ⟨b, o, rfl, rfl⟩)
      have hf : inRoleB nds role kid = (x.role.toList == role.toList) := by unfold inRoleB; rw [hx]
      have hst := HAM.out
      rw [hkd, amongF, hf] at hst
      have p0 := cell_regrown ((HM.out.m.cell 0).trans (show _ = some (.int .i64 next) from rfl))
      have p1 := cell_regrown ((HM.out.m.cell 1).trans (show _ = some (.slice (some ⟨b, o, none⟩) n c) from rfl))
      have p2 := cell_regrown ((HM.out.s.cell 1).trans (show _ = some (.string role) from rfl))
      have p3 := cell_regrown hxr
      clear HAM hkid hcells hkd hx hqx hgq hf hxr
      cases d1 : (x.role.toList == role.toList) with
      | false =>
        rw [d1] at hst
        have HAM : Hid (r = amongF (inRoleB nds role) at_ (j + 1) behind places (nd.kids.drop (j + 1))) := Lib.hid hst
        clear hst
        go_wp2_with fail
        refine wp_region_quiet_below (by kernel_rfl) (by kernel_rfl) ?_
        repeat (go_big_quiet_step ((go_at_call 42; exact regrown_ret (HNq.out _ _))))
        refine wpQuiet_nil ?_
        intro _ hw'
        obtain ⟨⟨dq, osq⟩, hw''⟩ := hw'
        subst hw''
        have HM3 := Lib.hid (HM.out.after (below_regrown wr dq osq))
        generalize grow (redrawn wr dq) osq = w3 at HM3 ⊢
        clear p0 p1 p2 p3
        have s2 := HM3.out.s.cell 2
        simp at s2
        go_wp2_with fail
        go_roundw
        case measure => simp only [intOf]; omega
        case rel => exact ⟨j + 1, behind, places, by omega, hbe, by omega, rfl, rfl, by simp, HAM, HM3.out⟩
      | true =>
        rw [d1, if_pos rfl] at hst
        by_cases e2 : (places : Int) = at_
        · rw [if_pos e2] at hst
          have d2 : ((places : Int) == at_) = true := by rw [beq_iff_eq]; exact e2
          have HX := Lib.hid hst
          clear hst e2
          go_wp2_with fail
          refine wp_region_quiet_below (by kernel_rfl) (by kernel_rfl) ?_
          repeat (go_big_quiet_step ((go_at_call 42; exact regrown_ret (HNq.out _ _))))
          refine wpQuiet_nil ?_
          intro _ hw'
          obtain ⟨⟨dq, osq⟩, hw''⟩ := hw'
          subst hw''
          have HM3 := Lib.hid (HM.out.after (below_regrown wr dq osq))
          generalize grow (redrawn wr dq) osq = w3 at HM3 ⊢
          clear p0 p1 p2 p3
          have s2 := HM3.out.s.cell 2
          simp at s2
          go_wp2_with fail
          go_ret2
          obtain rfl := HX.out
          exact ret_mk rfl HM3.out.bel
        · rw [if_neg e2] at hst
          have d2 : ((places : Int) == at_) = false := by rw [beq_eq_false_iff_ne]; exact e2
          have HAM : Hid (r = amongF (inRoleB nds role) at_ (j + 1) (j + 1) (places + 1) (nd.kids.drop (j + 1))) := Lib.hid hst
          clear hst e2
          go_wp2_with fail
          refine wp_region_quiet_below (by kernel_rfl) (by kernel_rfl) ?_
          repeat (go_big_quiet_step ((go_at_call 42; exact regrown_ret (HNq.out _ _))))
          refine wpQuiet_nil ?_
          intro _ hw'
          obtain ⟨⟨dq, osq⟩, hw''⟩ := hw'
          subst hw''
          have HM3 := Lib.hid (HM.out.after (below_regrown wr dq osq))
          generalize grow (redrawn wr dq) osq = w3 at HM3 ⊢
          clear p0 p1 p2 p3
          have s2 := HM3.out.s.cell 2
          simp at s2
          go_wp2_with fail
          go_roundw
          case measure => simp only [intOf]; omega
          case rel => exact ⟨j + 1, j + 1, places + 1, by omega, by omega, by omega, by simp, by simp, by simp, HAM, HM3.out⟩
    · have hjn : j = nk := by omega
      subst hjn
      have hst := HAM.out
      rw [List.drop_eq_nil_of_le (by have := HKN.out; omega), amongF] at hst
      have HX := Lib.hid hst
      have s2 := HM.out.s.cell 2
      simp at s2
      clear hst HAM h
      go_wp2_with fail
      go_quiet (fail)
      go_wp2_with fail
      go_ret2
      obtain rfl := HX.out
      exact ret_mk rfl (below_drewN HM.out.bel _)
end Go.Proofs.YtbkmdlfenbfdlaaGreat
namespace Go.Proofs.YtbkmdlfenbfdlaaGreat
open Go Go.RowKit Go.Sort
set_option linter.unusedVariables false
attribute [local go_sem ↓] Go.wp_at_zero Go.wp_at_succ
/-- the box of a model, and a list of numbers that grows -/
structure KW (w : World) (next : Int) (A : Option Addr) (n c : Nat) (ov : Value) (l : List Int) (wr : World) : Prop where
  m : M1 w next A n c wr
  own : wr.ownsRow w.heap.size 3 1 ov l.length (intCells l)
section
variable {w X X' : World} {next : Int} {A : Option Addr} {n c : Nat} {ov : Value} {l : List Int}
theorem KW.after (h : KW w next A n c ov l X) (hb : Below X.heap.size X X') : KW w next A n c ov l X' := ⟨h.m.after hb, own_after h.own hb⟩
theorem KW.push {x : Int} {v' : Value} (h : KW w next A n c ov l X) (hg : X.grownBy X' ov.ownBlock) (hown : X'.ownsRow w.heap.size 3 1 v' (l.length + 1) (intCells l ++ [.int .i64 x])) : KW w next A n c v' (l ++ [x]) X' := by
  refine ⟨⟨h.m.a.grown hg (Ne.symm (own_blk_ne h.own h.m.a (by decide))), below_grows h.m.bel hg h.own (Nat.le_refl _)⟩, ?_⟩
  rw [List.length_append, List.length_singleton, show intCells (l ++ [x]) = intCells l ++ [.int .i64 x] from by simp [intCells]]
  exact hown
end
end Go.Proofs.YtbkmdlfenbfdlaaGreat

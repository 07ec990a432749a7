/-
  WALKS: the program's own: lists, nodes, models in memory of their own.
  WALKS: the program's own: a model in memory of its own.
  WALKS: the document's: nodes and models in memory of their own.
  WALKS: how deep a node stands, the program's and the document's.
  WALKS: the document's: a node's kids in a role; the place ahead of which a place of a role is.
  WALKS: the roots; document order, what is below a node, who refers to it, as the program tells them.
  WALKS: what is below a node, who refers to it, as the program tells them.
  WALKS: the document's: what is below a node, by a stack.
-/
import Derived.Test.YtjjlofaejpnnnaaGreatDoorZB14
import Derived.Laws.CopyOwn
namespace Go.Proofs.YtjjlofaejpnnnaaGreatDoor
open Go Go.RowKit Go.Sort
set_option linter.unusedVariables false
attribute [local go_sem ↓] Go.wp_at_zero Go.wp_at_succ
/-- make of a row of elements, whatever their size: the cells are those of zero values, so many -/
theorem make_rows {P : Program} (t e : TypeId) (i : TypeInfo) (z : Value) (size bytes : Nat) (ht : P.underlying t = some (.slice e)) (hi : P.info? e = some i) (hz : i.zero = some z) (hs : i.size = size) (hb : i.bytes = bytes) (hzs : z.cells.size = size)
    (n : Nat) (hn : n * bytes ≤ 140737488355328) (hm : n ≤ 9223372036854775807) : ∃ cur : Array Value, cur.size = n * size ∧ ∀ w : World, (Instr.makeSlice t (.int .i64 (n : Int)) (.int .i64 (n : Int))).run P w = .ok (.slice (some ⟨w.heap.size, 0, none⟩) n n) (w.alloc (.cells cur e)) := by
  refine ⟨madeCells z.cells (n * i.size), ?_, fun w => ?_⟩
  · rw [hs]; simp [madeCells]
  · have h1 : (i.bytes : Int) * (n : Int) ≤ 281474976710656 := by
      have h2 : ((n * bytes : Nat) : Int) ≤ 281474976710656 := by omega
      rw [Int.natCast_mul] at h2
      rw [hb, Int.mul_comm]
      exact h2
    have hr := run_make (P := P) w t e i z ht hi hz .i64 .i64 n n (by omega) (by omega) h1 (by omega)
    simp only [Int.toNat_natCast] at hr
    exact hr
set_option maxHeartbeats 1600000 in
theorem ownProps_any (w : World) (lo hi : Nat) (A : Option Addr) (n c : Nat) (l : List (ByteArray × ByteArray)) (h : Row w lo hi 2 A n c (propCells l)) (hh : hi ≤ w.heap.size) (hl : n * 32 ≤ 140737488355328) :
    Calls Tryz.prog 92 #[.slice A n c] w fun e w' => ∃ A' c', e = .returned (.slice A' n c') ∧ w'.ownsRow w.heap.size 60 2 (.slice A' n c') n (propCells l) ∧ Below w.heap.size w w' := by
  have hc := h.2.2.1
  have hnc := h.2.1
  unfold maxLen at hc
  by_cases h0 : n = 0
  · subst h0
    have hx : propCells l = [] := List.eq_nil_of_length_eq_zero (by have := h.1; omega)
    rw [hx]
    clear h hx
    go_enter Tryz.func92, Tryz.ntmps92
    go_wp2_with fail
    go_ret
    exact ⟨none, 0, rfl, ⟨by simp, .inl ⟨rfl, rfl⟩⟩, Below.refl _ _⟩
  · obtain ⟨i0, hi0, hz0, hz1, hz2⟩ := info_parts propInfo
    obtain ⟨cur, hcs, hmk⟩ := make_rows 52 60 i0 _ 2 32 Tryz.underlying52 hi0 hz0 hz1 hz2 rfl n hl (by omega)
    have h' := h.mono (Nat.le_refl lo) hh
    have d0 : ((n : Int) == 0) = false := by rw [beq_eq_false_iff_ne]; omega
    have hcp := fun ty => run_copy_all (P := Tryz.prog) (w.alloc (.cells cur 60)) 52 52 ty 60 i0 2 Tryz.underlying52 hi0 hz1 w.heap.size n n 0 A c cur 60 (Blk.new w 60 cur) hcs lo w.heap.size (propCells l) (h'.keep (fun b o hb => (below_more (Below.refl _ _) _).cell (p := ⟨b, o, none⟩) hb)) (by omega) (propCells_one l)
    have hof : ((w.alloc (.cells cur 60)).setRow w.heap.size (propCells l).toArray).ownsRow w.heap.size 60 2 (.slice (some ⟨w.heap.size, 0, none⟩) n n) n (propCells l) := own_filled (w := w) (Blk.new w 60 cur) (Nat.le_refl _) (Nat.le_trans hnc (by unfold maxLen; omega)) h.1
    have hbl : Below w.heap.size w ((w.alloc (.cells cur 60)).setRow w.heap.size (propCells l).toArray) := below_setRow (below_more (Below.refl _ _) _) (Nat.le_refl _) _
    generalize (w.alloc (.cells cur 60)).setRow w.heap.size (propCells l).toArray = X at hcp hof hbl
    have HO := Lib.hid hof
    have HB := Lib.hid hbl
    clear h h' h0 hof hbl hcs
    go_enter Tryz.func92, Tryz.ntmps92
    go_wp2_with fail
    go_ret
    exact ⟨some ⟨w.heap.size, 0, none⟩, n, rfl, HO.out, HB.out⟩
set_option maxHeartbeats 1600000 in
theorem ownKids_any (w : World) (lo hi : Nat) (A : Option Addr) (n c : Nat) (l : List Int) (h : Row w lo hi 1 A n c (intCells l)) (hh : hi ≤ w.heap.size) (hl : n * 8 ≤ 140737488355328) :
    Calls Tryz.prog 93 #[.slice A n c] w fun e w' => ∃ A' c', e = .returned (.slice A' n c') ∧ w'.ownsRow w.heap.size 3 1 (.slice A' n c') n (intCells l) ∧ Below w.heap.size w w' := by
  have hc := h.2.2.1
  have hnc := h.2.1
  unfold maxLen at hc
  by_cases h0 : n = 0
  · subst h0
    have hx : intCells l = [] := List.eq_nil_of_length_eq_zero (by have := h.1; omega)
    rw [hx]
    clear h hx
    go_enter Tryz.func93, Tryz.ntmps93
    go_wp2_with fail
    go_ret
    exact ⟨none, 0, rfl, ⟨by simp, .inl ⟨rfl, rfl⟩⟩, Below.refl _ _⟩
  · obtain ⟨i0, hi0, hz0, hz1, hz2⟩ := info_parts intInfo
    obtain ⟨cur, hcs, hmk⟩ := make_rows 40 3 i0 _ 1 8 Tryz.underlying40 hi0 hz0 hz1 hz2 rfl n hl (by omega)
    have h' := h.mono (Nat.le_refl lo) hh
    have d0 : ((n : Int) == 0) = false := by rw [beq_eq_false_iff_ne]; omega
    have hcp := fun ty => run_copy_all (P := Tryz.prog) (w.alloc (.cells cur 3)) 40 40 ty 3 i0 1 Tryz.underlying40 hi0 hz1 w.heap.size n n 0 A c cur 3 (Blk.new w 3 cur) hcs lo w.heap.size (intCells l) (h'.keep (fun b o hb => (below_more (Below.refl _ _) _).cell (p := ⟨b, o, none⟩) hb)) (by omega) (intCells_one l)
    have hof : ((w.alloc (.cells cur 3)).setRow w.heap.size (intCells l).toArray).ownsRow w.heap.size 3 1 (.slice (some ⟨w.heap.size, 0, none⟩) n n) n (intCells l) := own_filled (w := w) (Blk.new w 3 cur) (Nat.le_refl _) (Nat.le_trans hnc (by unfold maxLen; omega)) h.1
    have hbl : Below w.heap.size w ((w.alloc (.cells cur 3)).setRow w.heap.size (intCells l).toArray) := below_setRow (below_more (Below.refl _ _) _) (Nat.le_refl _) _
    generalize (w.alloc (.cells cur 3)).setRow w.heap.size (intCells l).toArray = X at hcp hof hbl
    have HO := Lib.hid hof
    have HB := Lib.hid hbl
    clear h h' h0 hof hbl hcs
    go_enter Tryz.func93, Tryz.ntmps93
    go_wp2_with fail
    go_ret
    exact ⟨some ⟨w.heap.size, 0, none⟩, n, rfl, HO.out, HB.out⟩
set_option maxHeartbeats 1600000 in
theorem ownRefs_any (w : World) (lo hi : Nat) (A : Option Addr) (n c : Nat) (l : List (ByteArray × Int)) (h : Row w lo hi 2 A n c (refCells l)) (hh : hi ≤ w.heap.size) (hl : n * 24 ≤ 140737488355328) :
    Calls Tryz.prog 94 #[.slice A n c] w fun e w' => ∃ A' c', e = .returned (.slice A' n c') ∧ w'.ownsRow w.heap.size 62 2 (.slice A' n c') n (refCells l) ∧ Below w.heap.size w w' := by
  have hc := h.2.2.1
  have hnc := h.2.1
  unfold maxLen at hc
  by_cases h0 : n = 0
  · subst h0
    have hx : refCells l = [] := List.eq_nil_of_length_eq_zero (by have := h.1; omega)
    rw [hx]
    clear h hx
    go_enter Tryz.func94, Tryz.ntmps94
    go_wp2_with fail
    go_ret
    exact ⟨none, 0, rfl, ⟨by simp, .inl ⟨rfl, rfl⟩⟩, Below.refl _ _⟩
  · obtain ⟨i0, hi0, hz0, hz1, hz2⟩ := info_parts refInfo
    obtain ⟨cur, hcs, hmk⟩ := make_rows 53 62 i0 _ 2 24 Tryz.underlying53 hi0 hz0 hz1 hz2 rfl n hl (by omega)
    have h' := h.mono (Nat.le_refl lo) hh
    have d0 : ((n : Int) == 0) = false := by rw [beq_eq_false_iff_ne]; omega
    have hcp := fun ty => run_copy_all (P := Tryz.prog) (w.alloc (.cells cur 62)) 53 53 ty 62 i0 2 Tryz.underlying53 hi0 hz1 w.heap.size n n 0 A c cur 62 (Blk.new w 62 cur) hcs lo w.heap.size (refCells l) (h'.keep (fun b o hb => (below_more (Below.refl _ _) _).cell (p := ⟨b, o, none⟩) hb)) (by omega) (refCells_one l)
    have hof : ((w.alloc (.cells cur 62)).setRow w.heap.size (refCells l).toArray).ownsRow w.heap.size 62 2 (.slice (some ⟨w.heap.size, 0, none⟩) n n) n (refCells l) := own_filled (w := w) (Blk.new w 62 cur) (Nat.le_refl _) (Nat.le_trans hnc (by unfold maxLen; omega)) h.1
    have hbl : Below w.heap.size w ((w.alloc (.cells cur 62)).setRow w.heap.size (refCells l).toArray) := below_setRow (below_more (Below.refl _ _) _) (Nat.le_refl _) _
    generalize (w.alloc (.cells cur 62)).setRow w.heap.size (refCells l).toArray = X at hcp hof hbl
    have HO := Lib.hid hof
    have HB := Lib.hid hbl
    clear h h' h0 hof hbl hcs
    go_enter Tryz.func94, Tryz.ntmps94
    go_wp2_with fail
    go_ret
    exact ⟨some ⟨w.heap.size, 0, none⟩, n, rfl, HO.out, HB.out⟩
/-- a node's own lists, and two boxes of nodes -/
structure NodeR (w : World) (nd : Nd) (M : Leaf) (g5 g6 : Nat) (X : World) : Prop where
  leaf : OwnLeaf X w.heap.size nd M
  b5 : ∃ cs, Blk X g5 55 cs
  b6 : ∃ cs, Blk X g6 55 cs
  bel : Below w.heap.size w X
theorem NodeR.s5 {w X : World} {nd : Nd} {M : Leaf} {g5 g6 : Nat} (h : NodeR w nd M g5 g6 X) (hg : w.heap.size ≤ g5) (i : Nat) (u : Value) : NodeR w nd M g5 g6 (X.setCell ⟨g5, i, none⟩ u) := by
  obtain ⟨h1, ⟨c5, h2⟩, ⟨c6, h3⟩, h4⟩ := h
  refine ⟨h1.other h2 (by decide) (by decide) (by decide) i u, ⟨_, h2.set_ i u⟩, ?_, h4.setCell (p := ⟨g5, i, none⟩) hg u⟩
  by_cases e : g6 = g5
  · subst e; exact ⟨_, h3.set_ i u⟩
  · exact ⟨_, h3.far (p := ⟨g5, i, none⟩) e u⟩
theorem NodeR.s6 {w X : World} {nd : Nd} {M : Leaf} {g5 g6 : Nat} (h : NodeR w nd M g5 g6 X) (hg : w.heap.size ≤ g6) (i : Nat) (u : Value) : NodeR w nd M g5 g6 (X.setCell ⟨g6, i, none⟩ u) := by
  obtain ⟨h1, h2, h3, h4⟩ := h
  have := NodeR.s5 ⟨h1, h3, h2, h4⟩ hg i u
  exact ⟨this.leaf, this.b6, this.b5, this.bel⟩
set_option maxRecDepth 100000 in
set_option maxHeartbeats 3200000 in
theorem ownNode_any (w : World) (hi : Nat) (nd : Nd) (L : Leaf) (h : LeafIn w 0 hi nd L) (hh : hi ≤ w.heap.size) (hf : Fits 1 nd) :
    Calls Tryz.prog 58 #[.agg #[.int .i64 nd.id, .string nd.con, .int .i64 nd.par, .string nd.role, .slice L.p.A L.p.n L.p.c, .slice L.k.A L.k.n L.k.c, .slice L.r.A L.r.n L.r.c]] w fun e w' => ∃ M : Leaf, e = .returned (.agg #[.int .i64 nd.id, .string nd.con, .int .i64 nd.par, .string nd.role, .slice M.p.A M.p.n M.p.c, .slice M.k.A M.k.n M.k.c, .slice M.r.A M.r.n M.r.c]) ∧ OwnLeaf w' w.heap.size nd M ∧ Below w.heap.size w w' := by
  obtain ⟨⟨Ap, np, cp⟩, ⟨Ak, nk, ck⟩, ⟨Ar, nr, cr⟩⟩ := L
  obtain ⟨f1, f2, f3, f4, f5, f6, f7⟩ := h
  simp only at f1 f2 f3 f4 f5 f6
  have g1 := hf.p
  have g2 := hf.k
  have g3 := hf.r
  have hBx0 : Blk ((w.alloc (.cells #[.int .i64 nd.id, .string nd.con, .int .i64 nd.par, .string nd.role, .slice Ap np cp, .slice Ak nk ck, .slice Ar nr cr] 55)).alloc (.cells #[.int .i64 0, .string ⟨#[]⟩, .int .i64 0, .string ⟨#[]⟩, .slice none 0 0, .slice none 0 0, .slice none 0 0] 55)) w.heap.size 55 #[.int .i64 nd.id, .string nd.con, .int .i64 nd.par, .string nd.role, .slice Ap np cp, .slice Ak nk ck, .slice Ar nr cr] := (Blk.new w _ _).alloc _
  have hBz0 : Blk ((w.alloc (.cells #[.int .i64 nd.id, .string nd.con, .int .i64 nd.par, .string nd.role, .slice Ap np cp, .slice Ak nk ck, .slice Ar nr cr] 55)).alloc (.cells #[.int .i64 0, .string ⟨#[]⟩, .int .i64 0, .string ⟨#[]⟩, .slice none 0 0, .slice none 0 0, .slice none 0 0] 55)) (w.heap.size + 1) 55 #[.int .i64 0, .string ⟨#[]⟩, .int .i64 0, .string ⟨#[]⟩, .slice none 0 0, .slice none 0 0, .slice none 0 0] := Blk.new' (by simp)
  have hbw0 : Below w.heap.size w ((w.alloc (.cells #[.int .i64 nd.id, .string nd.con, .int .i64 nd.par, .string nd.role, .slice Ap np cp, .slice Ak nk ck, .slice Ar nr cr] 55)).alloc (.cells #[.int .i64 0, .string ⟨#[]⟩, .int .i64 0, .string ⟨#[]⟩, .slice none 0 0, .slice none 0 0, .slice none 0 0] 55)) := below_more (below_more (Below.refl _ _) _) _
  have HBx1 := Lib.hid hBx0
  have HBz1 := Lib.hid hBz0
  have HBW1 := Lib.hid hbw0
  clear hBx0 hBz0 hbw0
  have HF1 := Lib.hid f1
  have HF2 := Lib.hid f2
  have HF3 := Lib.hid f3
  have b1 : np * 32 ≤ 140737488355328 := by omega
  have b2 : nk * 8 ≤ 140737488355328 := by omega
  have b3 : nr * 24 ≤ 140737488355328 := by omega
  clear f1 f2 f3
  go_enter Tryz.func58, Tryz.ntmps58
  go_upto_region 1 with (fail)
  generalize ((w.alloc (.cells #[.int .i64 nd.id, .string nd.con, .int .i64 nd.par, .string nd.role, .slice Ap np cp, .slice Ak nk ck, .slice Ar nr cr] 55)).alloc (.cells #[.int .i64 0, .string ⟨#[]⟩, .int .i64 0, .string ⟨#[]⟩, .slice none 0 0, .slice none 0 0, .slice none 0 0] 55)) = W2 at HBx1 HBz1 HBW1 ⊢
  have HBx := HBx1
  have HBz := HBz1
  have HBw := HBW1
  clear HBx1 HBz1 HBW1
  have HSof : Hid (∀ X, Below W2.heap.size W2 X → Below W2.heap.size W2 X ∧ X.cell? ⟨w.heap.size, 4, none⟩ = some (.slice Ap np cp) ∧ X.cell? ⟨w.heap.size, 5, none⟩ = some (.slice Ak nk ck) ∧ X.cell? ⟨w.heap.size, 6, none⟩ = some (.slice Ar nr cr)) := Lib.hid fun X hb => ⟨hb, (hb.cell (p := ⟨_, _, none⟩) HBx.out.lt).trans ((HBx.out.cell 4).trans rfl), (hb.cell (p := ⟨_, _, none⟩) HBx.out.lt).trans ((HBx.out.cell 5).trans rfl), (hb.cell (p := ⟨_, _, none⟩) HBx.out.lt).trans ((HBx.out.cell 6).trans rfl)⟩
  have HCp := Lib.hid fun (X : World) (hb : Below W2.heap.size W2 X) => ownProps_any X 0 hi Ap np cp nd.props (f4.below ((HBw.out.trans (hb.mono HBw.out.size)).mono hh)) (Nat.le_trans hh (HBw.out.trans (hb.mono HBw.out.size)).size) (by omega)
  have HCk := Lib.hid fun (X : World) (hb : Below W2.heap.size W2 X) => ownKids_any X 0 hi Ak nk ck nd.kids (f5.below ((HBw.out.trans (hb.mono HBw.out.size)).mono hh)) (Nat.le_trans hh (HBw.out.trans (hb.mono HBw.out.size)).size) (by omega)
  have HCr := Lib.hid fun (X : World) (hb : Below W2.heap.size W2 X) => ownRefs_any X 0 hi Ar nr cr nd.refs (f6.below ((HBw.out.trans (hb.mono HBw.out.size)).mono hh)) (Nat.le_trans hh (HBw.out.trans (hb.mono HBw.out.size)).size) (by omega)
  have HSZ := Lib.hid f7
  have HBW := Lib.hid (Below.refl W2.heap.size W2)
  clear f4 f5 f6 f7 g1 g2 g3 hf b1 b2 b3
  refine wp_region_held_tail 10 (fun w' => Below W2.heap.size W2 w' ∧ w'.cell? ⟨w.heap.size, 4, none⟩ = some (.slice Ap np cp) ∧ w'.cell? ⟨w.heap.size, 5, none⟩ = some (.slice Ak nk ck) ∧ w'.cell? ⟨w.heap.size, 6, none⟩ = some (.slice Ar nr cr)) (by kernel_rfl) (by kernel_rfl) ?hSn (fun hHeld => ?qn0)
  case hSn => exact HSof.out _ (below_drew (Below.refl _ _))
  case qn0 =>
    replace HBW := Lib.hid (below_drew HBW.out)
    simp only [List.take_succ_cons, List.take_zero, List.drop_succ_cons, List.drop_zero]
    refine wpAnyH_take (i := 0) (v := (.pointer (some ⟨w.heap.size, 4, none⟩))) rfl (by kernel_rfl) (by kernel_rfl) (by kernel_rfl) (fun _ _ _ h => h) (Or.inl ⟨by rfl, ?yn_1⟩) (by assumption) ?qn_1
    case yn_1 => (intro w hSw; (try dsimp only at hSw); go_simp)
    case qn_1 =>
      (try simp only [Act.put]); (try simp only [List.setIfInBounds_toArray])
      refine wpAnyH_take (i := 1) (v := (.slice Ap np cp)) rfl (by kernel_rfl) (by kernel_rfl) (by kernel_rfl) (fun _ _ _ h => h) (Or.inl ⟨by rfl, ?yn_2⟩) (by assumption) ?qn_2
      case yn_2 => (intro w hSw; (try dsimp only at hSw); go_simp)
      case qn_2 =>
        (try simp only [Act.put]); (try simp only [List.setIfInBounds_toArray])
        refine wpAnyH_take (i := 3) (v := (.pointer (some ⟨w.heap.size, 5, none⟩))) rfl (by kernel_rfl) (by kernel_rfl) (by kernel_rfl) (fun _ _ _ h => h) (Or.inl ⟨by rfl, ?yn_3⟩) (by assumption) ?qn_3
        case yn_3 => (intro w hSw; (try dsimp only at hSw); go_simp)
        case qn_3 =>
          (try simp only [Act.put]); (try simp only [List.setIfInBounds_toArray])
          refine wpAnyH_take (i := 4) (v := (.slice Ak nk ck)) rfl (by kernel_rfl) (by kernel_rfl) (by kernel_rfl) (fun _ _ _ h => h) (Or.inl ⟨by rfl, ?yn_4⟩) (by assumption) ?qn_4
          case yn_4 => (intro w hSw; (try dsimp only at hSw); go_simp)
          case qn_4 =>
            (try simp only [Act.put]); (try simp only [List.setIfInBounds_toArray])
            refine wpAnyH_take (i := 6) (v := (.pointer (some ⟨w.heap.size, 6, none⟩))) rfl (by kernel_rfl) (by kernel_rfl) (by kernel_rfl) (fun _ _ _ h => h) (Or.inl ⟨by rfl, ?yn_5⟩) (by assumption) ?qn_5
            case yn_5 => (intro w hSw; (try dsimp only at hSw); go_simp)
            case qn_5 =>
              (try simp only [Act.put]); (try simp only [List.setIfInBounds_toArray])
              refine wpAnyH_take (i := 7) (v := (.slice Ar nr cr)) rfl (by kernel_rfl) (by kernel_rfl) (by kernel_rfl) (fun _ _ _ h => h) (Or.inl ⟨by rfl, ?yn_6⟩) (by assumption) ?qn_6
              case yn_6 => (intro w hSw; (try dsimp only at hSw); go_simp)
              case qn_6 =>
                (try simp only [Act.put]); (try simp only [List.setIfInBounds_toArray])
                refine wpAnyH_ready (rs := [2]) (by kernel_rfl) (by simp) ?_
                refine AllReadyH.cons rfl (fun K hK => ?sn_7) ?mn_7
                case sn_7 =>
                  (refine step_call _ (by rfl) 92 #[.slice Ap np cp] (by go_simp) (HCp.out _ HBW.out) ?_; rintro e Y1 ⟨A1, c1, rfl, ho1, hb1⟩; have hz1 := HBW.out.size; refine ⟨_, rfl, ?_⟩; replace HBW := Lib.hid (HBW.out.trans (hb1.mono HBW.out.size)); have HP := Lib.hid (own_mono ho1 hz1); clear ho1 hb1)
                  refine hK.out _ _ ?kn_7 (fun hHeld => ?qn_7)
                  case kn_7 => ((try dsimp only); exact HSof.out _ HBW.out)
                  case qn_7 =>
                    clear hK K
                    (try simp only [Act.put]); (try simp only [List.setIfInBounds_toArray])
                    refine wpAnyH_take (i := 9) (v := (.pointer (some ⟨w.heap.size, 4, none⟩))) rfl (by kernel_rfl) (by kernel_rfl) (by kernel_rfl) (fun _ _ _ h => h) (Or.inl ⟨by rfl, ?yn_8⟩) (by assumption) ?qn_8
                    case yn_8 => (intro w hSw; (try dsimp only at hSw); go_simp)
                    case qn_8 =>
                      (try simp only [Act.put]); (try simp only [List.setIfInBounds_toArray])
                      refine wpAnyH_ready (rs := [5]) (by kernel_rfl) (by simp) ?_
                      refine AllReadyH.cons rfl (fun K hK => ?sn_9) ?mn_9
                      case sn_9 =>
                        (refine step_call _ (by rfl) 93 #[.slice Ak nk ck] (by go_simp) (HCk.out _ HBW.out) ?_; rintro e Y2 ⟨A2, c2, rfl, ho2, hb2⟩; have hz2 := HBW.out.size; refine ⟨_, rfl, ?_⟩; replace HP := Lib.hid (own_after HP.out hb2); replace HBW := Lib.hid (HBW.out.trans (hb2.mono HBW.out.size)); have HK := Lib.hid (own_mono ho2 hz2); clear ho2 hb2)
                        refine hK.out _ _ ?kn_9 (fun hHeld => ?qn_9)
                        case kn_9 => ((try dsimp only); exact HSof.out _ HBW.out)
                        case qn_9 =>
                          clear hK K
                          (try simp only [Act.put]); (try simp only [List.setIfInBounds_toArray])
                          refine wpAnyH_ready (rs := [8]) (by kernel_rfl) (by simp) ?_
                          refine AllReadyH.cons rfl (fun K hK => ?sn_10) ?mn_10
                          case sn_10 =>
                            (refine step_call _ (by rfl) 94 #[.slice Ar nr cr] (by go_simp) (HCr.out _ HBW.out) ?_; rintro e Y3 ⟨A3, c3, rfl, ho3, hb3⟩; have hz3 := HBW.out.size; refine ⟨_, rfl, ?_⟩; replace HP := Lib.hid (own_after HP.out hb3); replace HK := Lib.hid (own_after HK.out hb3); replace HBW := Lib.hid (HBW.out.trans (hb3.mono HBW.out.size)); have HR := Lib.hid (own_mono ho3 hz3); clear ho3 hb3)
                            refine hK.out _ _ ?kn_10 (fun hHeld => ?qn_10)
                            case kn_10 => ((try dsimp only); exact HSof.out _ HBW.out)
                            case qn_10 =>
                              clear hK K
                              (try simp only [Act.put]); (try simp only [List.setIfInBounds_toArray])
                              refine wpAnyH_done (by kernel_rfl) ?_ _
                              obtain ⟨hBe, he0, he1, he2⟩ := hHeld
                              show wpList _ _ _ _ _ _
                              have hb5 := HBx.out.after HBW.out
                              have hb6 := HBz.out.after HBW.out
                              have x0 := hb5.cell 0
                              have x1 := hb5.cell 1
                              have x2 := hb5.cell 2
                              have x3 := hb5.cell 3
                              have x4 := hb5.frozen 4
                              have x5 := hb5.frozen 5
                              have x6 := hb5.frozen 6
                              have z0 := hb6.cell 0
                              have z1 := hb6.cell 1
                              have z2 := hb6.cell 2
                              have z3 := hb6.cell 3
                              have z4 := hb6.cell 4
                              have z5 := hb6.cell 5
                              have z6 := hb6.cell 6
                              have y0 := hb6.frozen 0
                              have y1 := hb6.frozen 1
                              have y2 := hb6.frozen 2
                              have y3 := hb6.frozen 3
                              have y4 := hb6.frozen 4
                              have y5 := hb6.frozen 5
                              have y6 := hb6.frozen 6
                              simp at x0 x1 x2 x3 z0 z1 z2 z3 z4 z5 z6
                              have HB5 := Lib.hid hb5
                              have HB6 := Lib.hid hb6
                              clear hb5 hb6
                              go_wp2_with fail
                              (try rw [Exit.noGoto_ret])
                              (try simp only [Exit.inBlock, Exit.then])
                              have hres : Tryz.f58.results = #[.cell 2 55] := by kernel_rfl
                              refine bodyPost_ret (v := .agg #[.int .i64 nd.id, .string nd.con, .int .i64 nd.par, .string nd.role, .slice A1 np c1, .slice A2 nk c2, .slice A3 nr c3]) ?hr rfl ?_
                              case hr =>
                                simp only [results, hres]
                                go_simp
                              have hle : w.heap.size ≤ W2.heap.size := HBw.out.size
                              have hR : NodeR w nd ⟨⟨A1, np, c1⟩, ⟨A2, nk, c2⟩, ⟨A3, nr, c3⟩⟩ w.heap.size (w.heap.size + 1) Y3 := ⟨⟨HF1.out, HF2.out, HF3.out, own_mono HP.out hle, own_mono HK.out hle, own_mono HR.out hle, HSZ.out⟩, ⟨_, HB5.out⟩, ⟨_, HB6.out⟩, HBw.out.trans (HBW.out.mono hle)⟩
                              have hE := (((((((((hR.s5 (Nat.le_refl _) 4 (.slice A1 np c1)).s5 (Nat.le_refl _) 5 (.slice A2 nk c2)).s5 (Nat.le_refl _) 6 (.slice A3 nr c3)).s6 (by omega) 0 (.int .i64 nd.id)).s6 (by omega) 1 (.string nd.con)).s6 (by omega) 2 (.int .i64 nd.par)).s6 (by omega) 3 (.string nd.role)).s6 (by omega) 4 (.slice A1 np c1)).s6 (by omega) 5 (.slice A2 nk c2)).s6 (by omega) 6 (.slice A3 nr c3)
                              exact ⟨⟨⟨A1, np, c1⟩, ⟨A2, nk, c2⟩, ⟨A3, nr, c3⟩⟩, rfl, hE.leaf, hE.bel⟩
                          case mn_10 =>
                            exact AllReadyH.nil
                      case mn_9 =>
                        exact AllReadyH.nil
                case mn_7 =>
                  exact AllReadyH.nil
end Go.Proofs.YtjjlofaejpnnnaaGreatDoor
namespace Go.Proofs.YtjjlofaejpnnnaaGreatDoor
open Go Go.RowKit Go.Sort
set_option linter.unusedVariables false
attribute [local go_sem ↓] Go.wp_at_zero Go.wp_at_succ
theorem take_set7 {α : Type} {xs : List α} {k : Nat} {c0 c1 c2 c3 c4 c5 c6 : α} (h : k * 7 + 7 ≤ xs.length) :
    (((((((xs.set (k * 7) c0).set (k * 7 + 1) c1).set (k * 7 + 2) c2).set (k * 7 + 3) c3).set (k * 7 + 4) c4).set (k * 7 + 5) c5).set (k * 7 + 6) c6).take ((k + 1) * 7) = xs.take (k * 7) ++ [c0, c1, c2, c3, c4, c5, c6] := by
  apply List.ext_getElem?
  intro j
  rcases Nat.lt_or_ge j (k * 7) with hj | hj
  · rw [List.getElem?_take_of_lt (by omega), List.getElem?_append_left (by rw [List.length_take]; omega), List.getElem?_take_of_lt hj]
    repeat rw [List.getElem?_set_ne (by omega)]
  · obtain ⟨r, rfl⟩ : ∃ r, j = k * 7 + r := ⟨j - k * 7, by omega⟩
    rw [List.getElem?_append_right (by rw [List.length_take]; omega), List.length_take, Nat.min_eq_left (by omega), Nat.add_sub_cancel_left]
    match r with
    | 0 => simp [List.getElem?_take, List.getElem?_set]; omega
    | 1 => simp [List.getElem?_take, List.getElem?_set]; omega
    | 2 => simp [List.getElem?_take, List.getElem?_set]; omega
    | 3 => simp [List.getElem?_take, List.getElem?_set]; omega
    | 4 => simp [List.getElem?_take, List.getElem?_set]; omega
    | 5 => simp [List.getElem?_take, List.getElem?_set]; omega
    | 6 => simp [List.getElem?_take, List.getElem?_set]; omega
    | r + 7 => rw [List.getElem?_take_eq_none (by omega)]; simp
/-- a row of nodes, of which the first ones are filled -/
structure Filling (w : World) (next : Int) (A : Option Addr) (n c k g : Nat) (xs : List Value) (l : List (Nd × Leaf)) (wr : World) : Prop where
  md : Blk wr w.heap.size 25 #[.int .i64 next, .slice A n c]
  rs : Blk wr (w.heap.size + 1) 25 #[.int .i64 0, .slice none 0 0]
  row : wr.ownsRow w.heap.size 55 7 (.slice (some ⟨g, 0, none⟩) n n) n xs
  fill : xs.take (k * 7) = allCells l
  leaf : ∀ p ∈ l, OwnLeaf wr w.heap.size p.1 p.2
  bel : Below w.heap.size w wr
section
variable {w X X' : World} {next : Int} {A : Option Addr} {n c k g : Nat} {xs : List Value} {l : List (Nd × Leaf)}
theorem Filling.after (h : Filling w next A n c k g xs l X) (hb : Below X.heap.size X X') : Filling w next A n c k g xs l X' :=
  ⟨h.md.after hb, h.rs.after hb, own_after h.row hb, h.fill, fun p hp => (h.leaf p hp).after hb, h.bel.trans (hb.mono h.bel.size)⟩
/-- what a store into the row leaves, but for what is filled -/
structure Filled (w : World) (next : Int) (A : Option Addr) (n c g : Nat) (xs : List Value) (l : List (Nd × Leaf)) (wr : World) : Prop where
  md : Blk wr w.heap.size 25 #[.int .i64 next, .slice A n c]
  rs : Blk wr (w.heap.size + 1) 25 #[.int .i64 0, .slice none 0 0]
  row : wr.ownsRow w.heap.size 55 7 (.slice (some ⟨g, 0, none⟩) n n) n xs
  leaf : ∀ p ∈ l, OwnLeaf wr w.heap.size p.1 p.2
  bel : Below w.heap.size w wr
theorem Filled.set (h : Filled w next A n c g xs l X) (j : Nat) (u : Value) : Filled w next A n c g (xs.set j u) l (X.setCell ⟨g, j, none⟩ u) := by
  obtain ⟨cs, hg, hB, _⟩ := own_blk h.row
  have hs := World.ownsRow.stored h.row j u
  refine ⟨h.md.far ?_ u, h.rs.far ?_ u, hs.1, fun p hp => (h.leaf p hp).other hg (by decide) (by decide) (by decide) j u, h.bel.setCell (p := ⟨g, j, none⟩) hB u⟩
  · exact h.md.ne_ hg (by decide)
  · exact h.rs.ne_ hg (by decide)
theorem Filling.push {p : Nd × Leaf} (h : Filling w next A n c k g xs l X) (hk : k < n) (hl : l.length = k) (hp : OwnLeaf X w.heap.size p.1 p.2) {u0 u1 u2 u3 u4 u5 u6 : Value} (hu : ndCells p = [u0, u1, u2, u3, u4, u5, u6]) :
    ∃ xs', Filling w next A n c (k + 1) g xs' (l ++ [p]) (((((((X.setCell ⟨g, k * 7, none⟩ u0).setCell ⟨g, k * 7 + 1, none⟩ u1).setCell ⟨g, k * 7 + 2, none⟩ u2).setCell ⟨g, k * 7 + 3, none⟩ u3).setCell ⟨g, k * 7 + 4, none⟩ u4).setCell ⟨g, k * 7 + 5, none⟩ u5).setCell ⟨g, k * 7 + 6, none⟩ u6) := by
  have h0 : Filled w next A n c g xs (l ++ [p]) X := ⟨h.md, h.rs, h.row, fun q hq => by
    rcases List.mem_append.1 hq with hq | hq
    · exact h.leaf q hq
    · obtain rfl : q = p := by simpa using hq
      exact hp, h.bel⟩
  have h7 := ((((((h0.set (k * 7) u0).set (k * 7 + 1) u1).set (k * 7 + 2) u2).set (k * 7 + 3) u3).set (k * 7 + 4) u4).set (k * 7 + 5) u5).set (k * 7 + 6) u6
  refine ⟨_, h7.md, h7.rs, h7.row, ?_, h7.leaf, h7.bel⟩
  rw [take_set7 (by rw [h.row.1]; omega), h.fill, ← hu]
  simp [allCells]
theorem Filling.room (h : Filling w next A n c k g xs l X) (hk : k < n) :
    (∃ u, X.cell? ⟨g, k * 7, none⟩ = some u ∧ X.frozen? ⟨g, k * 7, none⟩ = false) ∧ (∃ u, X.cell? ⟨g, k * 7 + 1, none⟩ = some u ∧ X.frozen? ⟨g, k * 7 + 1, none⟩ = false) ∧
    (∃ u, X.cell? ⟨g, k * 7 + 2, none⟩ = some u ∧ X.frozen? ⟨g, k * 7 + 2, none⟩ = false) ∧ (∃ u, X.cell? ⟨g, k * 7 + 3, none⟩ = some u ∧ X.frozen? ⟨g, k * 7 + 3, none⟩ = false) ∧
    (∃ u, X.cell? ⟨g, k * 7 + 4, none⟩ = some u ∧ X.frozen? ⟨g, k * 7 + 4, none⟩ = false) ∧ (∃ u, X.cell? ⟨g, k * 7 + 5, none⟩ = some u ∧ X.frozen? ⟨g, k * 7 + 5, none⟩ = false) ∧
    (∃ u, X.cell? ⟨g, k * 7 + 6, none⟩ = some u ∧ X.frozen? ⟨g, k * 7 + 6, none⟩ = false) := by
  have key : ∀ j, j < n * 7 → ∃ u, X.cell? ⟨g, j, none⟩ = some u ∧ X.frozen? ⟨g, j, none⟩ = false := fun j hj => by
    have h1 := World.ownsRow.cellAt h.row j hj
    rw [List.getElem?_eq_getElem (by rw [h.row.1]; exact hj)] at h1
    exact ⟨_, h1, World.ownsRow.frozenAt h.row j⟩
  exact ⟨key _ (by omega), key _ (by omega), key _ (by omega), key _ (by omega), key _ (by omega), key _ (by omega), key _ (by omega)⟩
end
end Go.Proofs.YtjjlofaejpnnnaaGreatDoor
namespace Go.Proofs.YtjjlofaejpnnnaaGreatDoor
open Go Go.RowKit Go.Sort
set_option linter.unusedVariables false
attribute [local go_sem ↓] Go.wp_at_zero Go.wp_at_succ
/-- two boxes of nodes: what stands in the first one -/
structure RN (w : World) (cs : Array Value) (X : World) : Prop where
  b5 : Blk X w.heap.size 55 cs
  b6 : Blk X (w.heap.size + 1) 55 #[.int .i64 0, .string ⟨#[]⟩, .int .i64 0, .string ⟨#[]⟩, .slice none 0 0, .slice none 0 0, .slice none 0 0]
  bel : Below w.heap.size w X
section
variable {w X X' : World} {cs : Array Value}
theorem RN.after (h : RN w cs X) (hb : Below X.heap.size X X') : RN w cs X' := ⟨h.b5.after hb, h.b6.after hb, h.bel.trans (hb.mono h.bel.size)⟩
theorem RN.kept (h : RN w cs X) {e : TypeId} {size n : Nat} {v : Value} {xs : List Value} (hown : X.ownsRow w.heap.size e size v n xs) (hne : e ≠ 55) (hg : X.grownBy X' v.ownBlock) : RN w cs X' :=
  ⟨h.b5.grown hg (Ne.symm (own_blk_ne hown h.b5 hne)), h.b6.grown hg (Ne.symm (own_blk_ne hown h.b6 hne)), below_grows h.bel hg hown (Nat.le_refl _)⟩
theorem RN.set (h : RN w cs X) (i : Nat) (u : Value) : RN w (cs.setIfInBounds i u) (X.setCell ⟨w.heap.size, i, none⟩ u) :=
  ⟨h.b5.set_ i u, h.b6.far (p := ⟨w.heap.size, i, none⟩) (by simp) u, h.bel.setCell (p := ⟨w.heap.size, i, none⟩) (Nat.le_refl _) u⟩
end
end Go.Proofs.YtjjlofaejpnnnaaGreatDoor
namespace Go.Proofs.YtjjlofaejpnnnaaGreatDoor
open Go Go.RowKit Go.Sort
set_option linter.unusedVariables false
attribute [local go_sem ↓] Go.wp_at_zero Go.wp_at_succ
/-- the box of a model -/
structure M1 (w : World) (next : Int) (A : Option Addr) (n c : Nat) (wr : World) : Prop where
  a : Blk wr w.heap.size 25 #[.int .i64 next, .slice A n c]
  bel : Below w.heap.size w wr
theorem M1.start (w : World) (next : Int) (A : Option Addr) (n c : Nat) : M1 w next A n c (w.alloc (.cells #[.int .i64 next, .slice A n c] 25)) := ⟨Blk.new _ _ _, below_more (Below.refl _ _) _⟩
theorem M1.after {w X X' : World} {next : Int} {A : Option Addr} {n c : Nat} (h : M1 w next A n c X) (hb : Below X.heap.size X X') : M1 w next A n c X' := ⟨h.a.after hb, h.bel.trans (hb.mono h.bel.size)⟩
end Go.Proofs.YtjjlofaejpnnnaaGreatDoor
namespace Go.Proofs.YtjjlofaejpnnnaaGreatDoor
open Go Go.RowKit Go.Sort
set_option linter.unusedVariables false
attribute [local go_sem ↓] Go.wp_at_zero Go.wp_at_succ
/-- the box of a model, and a list of numbers that grows -/
structure KW (w : World) (next : Int) (A : Option Addr) (n c : Nat) (ov : Value) (l : List Int) (wr : World) : Prop where
  m : M1 w next A n c wr
  own : wr.ownsRow w.heap.size 3 1 ov l.length (intCells l)
section
variable {w X X' : World} {next : Int} {A : Option Addr} {n c : Nat} {ov : Value} {l : List Int}
theorem KW.after (h : KW w next A n c ov l X) (hb : Below X.heap.size X X') : KW w next A n c ov l X' := ⟨h.m.after hb, own_after h.own hb⟩
theorem KW.push {x : Int} {v' : Value} (h : KW w next A n c ov l X) (hg : X.grownBy X' ov.ownBlock) (hown : X'.ownsRow w.heap.size 3 1 v' (l.length + 1) (intCells l ++ [.int .i64 x])) : KW w next A n c v' (l ++ [x]) X' := by
  refine ⟨⟨h.m.a.grown hg (Ne.symm (own_blk_ne h.own h.m.a (by decide))), below_grows h.m.bel hg h.own (Nat.le_refl _)⟩, ?_⟩
  rw [List.length_append, List.length_singleton, show intCells (l ++ [x]) = intCells l ++ [.int .i64 x] from by simp [intCells]]
  exact hown
end
end Go.Proofs.YtjjlofaejpnnnaaGreatDoor
namespace Go.Proofs.YtjjlofaejpnnnaaGreatDoor
open Go Go.RowKit Go.Sort
set_option linter.unusedVariables false
attribute [local go_sem ↓] Go.wp_at_zero Go.wp_at_succ
theorem checkV_no {next : Int} {nds : List Nd} (h : rightB next nds = false) : checkV next nds = 29 := by unfold checkV; rw [h]; rfl
theorem checkV_yes {next : Int} {nds : List Nd} (h : rightB next nds = true) : checkV next nds = 0 := by unfold checkV; rw [h]; rfl
end Go.Proofs.YtjjlofaejpnnnaaGreatDoor
namespace Go.Proofs.YtjjlofaejpnnnaaGreatDoor
open Go Go.RowKit Go.Sort
set_option linter.unusedVariables false
attribute [local go_sem ↓] Go.wp_at_zero Go.wp_at_succ
/-- the boxes of a model and of a number -/
structure MI (w : World) (next : Int) (A : Option Addr) (n c : Nat) (z : Int) (X : World) : Prop where
  m : M1 w next A n c X
  i : Blk X (w.heap.size + 1) 3 #[.int .i64 z]
theorem MI.start (w : World) (next : Int) (A : Option Addr) (n c : Nat) (z : Int) : MI w next A n c z ((w.alloc (.cells #[.int .i64 next, .slice A n c] 25)).alloc (.cells #[.int .i64 z] 3)) :=
  ⟨⟨(Blk.new _ _ _).alloc _, below_more (below_more (Below.refl _ _) _) _⟩, Blk.new' (by simp)⟩
theorem MI.after {w X X' : World} {next z : Int} {A : Option Addr} {n c : Nat} (h : MI w next A n c z X) (hb : Below X.heap.size X X') : MI w next A n c z X' := ⟨h.m.after hb, h.i.after hb⟩
end Go.Proofs.YtjjlofaejpnnnaaGreatDoor
namespace Go.Proofs.YtjjlofaejpnnnaaGreatDoor
open Go Go.RowKit Go.Sort
set_option linter.unusedVariables false
attribute [local go_sem ↓] Go.wp_at_zero Go.wp_at_succ
/-- the box of a model, and two lists of numbers that grow -/
structure DW (w : World) (next : Int) (A : Option Addr) (n c : Nat) (ov : Value) (out : List Int) (sv : Value) (st : List Int) (X : World) : Prop where
  m : M1 w next A n c X
  o : X.ownsRow w.heap.size 3 1 ov out.length (intCells out)
  s : X.ownsRow w.heap.size 3 1 sv st.length (intCells st)
  ne : ov.ownBlock = none ∨ ov.ownBlock ≠ sv.ownBlock
section
variable {w X X' : World} {next : Int} {A : Option Addr} {n c : Nat} {ov sv : Value} {out st : List Int}
theorem DW.after (h : DW w next A n c ov out sv st X) (hb : Below X.heap.size X X') : DW w next A n c ov out sv st X' := ⟨h.m.after hb, own_after h.o hb, own_after h.s hb, h.ne⟩
end
end Go.Proofs.YtjjlofaejpnnnaaGreatDoor

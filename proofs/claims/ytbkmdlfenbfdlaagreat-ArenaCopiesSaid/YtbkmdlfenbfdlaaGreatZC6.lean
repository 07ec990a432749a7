/-
  WALKS: two nodes are the same, told by the document and by the program.
  WALKS: two models are the same, told by the document and by the program.
  WALKS: is a lent model as it was, with its marks?
  WALKS: great, check, New; and laws for a call and an alloc as steps of a region that draws its order.
  MODELS OF THE CALL's OWN: nodes and their lists in memory that the call made; a cell of a node turned; copy of a whole row.
-/
import Derived.Test.YtbkmdlfenbfdlaaGreatZC5
import Derived.Laws.OwnMore
import Derived.Laws.CopyRow
import Derived.Laws.IdiomCopy
namespace Go.Proofs.YtbkmdlfenbfdlaaGreat
open Go Go.RowKit Go.Sort
set_option linter.unusedVariables false
def nodeE (x y : Nd) : Bool := (x.id == y.id) && (x.con.toList == y.con.toList) && (x.par == y.par) && (x.role.toList == y.role.toList) && eqL propE x.props y.props && eqL intE x.kids y.kids && eqL refE x.refs y.refs
theorem nodeE_refl (x : Nd) : nodeE x x = true := by
  unfold nodeE
  rw [eqL_refl propE_refl, eqL_refl intE_refl, eqL_refl refE_refl]
  simp
/-- the boxes of two nodes -/
structure NW (w : World) (x : Nd) (L : Leaf) (y : Nd) (M : Leaf) (wr : World) : Prop where
  a : Blk wr w.heap.size 41 #[.int .i64 x.id, .string x.con, .int .i64 x.par, .string x.role, .slice L.p.A L.p.n L.p.c, .slice L.k.A L.k.n L.k.c, .slice L.r.A L.r.n L.r.c]
  b : Blk wr (w.heap.size + 1) 41 #[.int .i64 y.id, .string y.con, .int .i64 y.par, .string y.role, .slice M.p.A M.p.n M.p.c, .slice M.k.A M.k.n M.k.c, .slice M.r.A M.r.n M.r.c]
  bel : Below w.heap.size w wr
section
variable {w wr w' : World} {x y : Nd} {L M : Leaf}
theorem NW.start (w : World) (x : Nd) (L : Leaf) (y : Nd) (M : Leaf) : NW w x L y M ((w.alloc (.cells #[.int .i64 x.id, .string x.con, .int .i64 x.par, .string x.role, .slice L.p.A L.p.n L.p.c, .slice L.k.A L.k.n L.k.c, .slice L.r.A L.r.n L.r.c] 41)).alloc (.cells #[.int .i64 y.id, .string y.con, .int .i64 y.par, .string y.role, .slice M.p.A M.p.n M.p.c, .slice M.k.A M.k.n M.k.c, .slice M.r.A M.r.n M.r.c] 41)) :=
  ⟨(Blk.new _ _ _).alloc _, Blk.new' (by simp), (below_box _ _).alloc (by simp) _⟩
theorem NW.after (h : NW w x L y M wr) (hb : Below wr.heap.size wr w') : NW w x L y M w' := ⟨h.a.after hb, h.b.after hb, h.bel.trans (hb.mono h.bel.size)⟩
theorem NW.drewN (h : NW w x L y M wr) (q : Nat) : NW w x L y M (wr.drewN q) := ⟨h.a, h.b, below_drewN h.bel q⟩
theorem NW.size (h : NW w x L y M wr) : w.heap.size + 1 < wr.heap.size := h.b.lt
end
set_option maxRecDepth 100000 in
set_option maxHeartbeats 6400000 in
theorem refSameNode_any (w : World) (hi : Nat) (x y : Nd) (L M : Leaf) (hx : LeafIn w 0 hi x L) (hy : LeafIn w 0 hi y M) (hh : hi ≤ w.heap.size) :
    Calls Tryz.prog 54 #[.agg #[.int .i64 x.id, .string x.con, .int .i64 x.par, .string x.role, .slice L.p.A L.p.n L.p.c, .slice L.k.A L.k.n L.k.c, .slice L.r.A L.r.n L.r.c], .agg #[.int .i64 y.id, .string y.con, .int .i64 y.par, .string y.role, .slice M.p.A M.p.n M.p.c, .slice M.k.A M.k.n M.k.c, .slice M.r.A M.r.n M.r.c]] w (Ret w (.bool (nodeE x y))) := by
  have HN : Hid (nodeE x y = ((x.id == y.id) && (x.con.toList == y.con.toList) && (x.par == y.par) && (x.role.toList == y.role.toList) && eqL propE x.props y.props && eqL intE x.kids y.kids && eqL refE x.refs y.refs)) := Lib.hid rfl
  have HW0 := Lib.hid (NW.start w x L y M)
  obtain ⟨⟨Apa, npa, cpa⟩, ⟨Aka, nka, cka⟩, ⟨Ara, nra, cra⟩⟩ := L
  obtain ⟨⟨Apb, npb, cpb⟩, ⟨Akb, nkb, ckb⟩, ⟨Arb, nrb, crb⟩⟩ := M
  obtain ⟨h1, h2, h3, h4, h5, h6, h7⟩ := hx
  obtain ⟨g1, g2, g3, g4, g5, g6, g7⟩ := hy
  simp only at h1 h2 h3 h4 h5 h6 g1 g2 g3 g4 g5 g6 HW0 ⊢
  have HL1 := Lib.hid h1
  have HL2 := Lib.hid g1
  have HL3 := Lib.hid h3
  have HL4 := Lib.hid g3
  have z1 := h4.2.2.1
  have z2 := h4.2.1
  have z3 := h6.2.2.1
  have z4 := h6.2.1
  have z5 := g4.2.2.1
  have z6 := g4.2.1
  have z7 := g6.2.2.1
  have z8 := g6.2.1
  unfold maxLen at z1 z3 z5 z7
  have HRPa := Lib.hid h4
  have HRRa := Lib.hid h6
  have HRPb := Lib.hid g4
  have HRRb := Lib.hid g6
  have HIn : Hid (∀ w2, Below w.heap.size w w2 → Calls Tryz.prog 22 #[.slice Aka nka cka, .slice Akb nkb ckb] w2 (DrewV w2 (.bool (eqL intE x.kids y.kids)))) := Lib.hid (fun w2 hb2 => refInts_any w2 0 hi 0 hi Aka Akb nka cka nkb ckb x.kids y.kids (h5.below (hb2.mono hh)) (g5.below (hb2.mono hh)))
  clear h1 h2 h3 h4 h5 h6 h7 g1 g2 g3 g4 g5 g6 g7
  by_cases e0 : x.id = y.id
  · have d0 : (x.id == y.id) = true := by rw [beq_iff_eq]; exact e0
    have n0 : (x.id != y.id) = false := by rw [bne_eq_false_iff_eq]; exact e0
    clear e0
    cases d1 : (x.con.toList == y.con.toList) with
    | true =>
      by_cases e2 : x.par = y.par
      · have d2 : (x.par == y.par) = true := by rw [beq_iff_eq]; exact e2
        have n2 : (x.par != y.par) = false := by rw [bne_eq_false_iff_eq]; exact e2
        clear e2
        cases d3 : (x.role.toList == y.role.toList) with
        | true =>
          have hN : nodeE x y = (eqL propE x.props y.props && eqL intE x.kids y.kids && eqL refE x.refs y.refs) := by rw [HN.out, d0, d1, d2, d3]; rfl
          have HN := Lib.hid hN
          clear hN
          by_cases l1 : npa = npb
          · by_cases l2 : nra = nrb
            · have f1 : ((npa : Int) != (npb : Int)) = false := by rw [bne_eq_false_iff_eq]; omega
              have f2 : ((nra : Int) != (nrb : Int)) = false := by rw [bne_eq_false_iff_eq]; omega
              subst l1 l2
              go_enter Tryz.func54, Tryz.ntmps54
              go_wp2_with fail
              go_loopw [5] (fun i wr => ∃ k : Nat, k ≤ npa ∧ i = .int .i64 k ∧ NW w x ⟨⟨Apa, npa, cpa⟩, ⟨Aka, nka, cka⟩, ⟨Ara, nra, cra⟩⟩ y ⟨⟨Apb, npa, cpb⟩, ⟨Akb, nkb, ckb⟩, ⟨Arb, nra, crb⟩⟩ wr ∧ Hid (eqL propE x.props y.props = eqL propE (x.props.drop k) (y.props.drop k))) (fun i _ => npa - (intOf i).toNat)
              case atStart => exact ⟨0, by omega, rfl, HW0.out, Lib.hid rfl⟩
              case round =>
                clear HW0
                obtain ⟨k, hk, rfl, NWh, HK⟩ := hrel
                have a4 := NWh.a.cell 4
                have a5 := NWh.a.cell 5
                have a6 := NWh.a.cell 6
                have b4 := NWh.b.cell 4
                have b5 := NWh.b.cell 5
                have b6 := NWh.b.cell 6
                simp at a4 a5 a6 b4 b5 b6
                have hbel := NWh.bel
                have HW := Lib.hid NWh
                clear NWh
                by_cases hlt : k < npa
                · obtain ⟨b1, o1, rfl, _, _, hcells1⟩ := (HRPa.out.below (hbel.mono hh)).at_ (by omega)
                  obtain ⟨b2, o2, rfl, _, _, hcells2⟩ := (HRPb.out.below (hbel.mono hh)).at_ (by omega)
                  obtain ⟨a, ha⟩ : ∃ a, x.props[k]? = some a := ⟨x.props[k]'(by have := HL1.out; have := HL3.out; omega), List.getElem?_eq_getElem _⟩
                  obtain ⟨b, hb⟩ : ∃ b, y.props[k]? = some b := ⟨y.props[k]'(by have := HL2.out; have := HL4.out; omega), List.getElem?_eq_getElem _⟩
                  have q1 := hcells1 _ _ (propCells_get ha).1
                  have q1' := hcells1 _ _ (propCells_get ha).2
                  have q1' : wr.cell? ⟨b1, o1 + k * 2 + 1, none⟩ = some (.string a.2) := by rw [Nat.add_assoc]; exact q1'
                  have q2 := hcells2 _ _ (propCells_get hb).1
                  have q2' := hcells2 _ _ (propCells_get hb).2
                  have q2' : wr.cell? ⟨b2, o2 + k * 2 + 1, none⟩ = some (.string b.2) := by rw [Nat.add_assoc]; exact q2'
                  have HD : Hid (eqL propE x.props y.props = (propE a b && eqL propE (x.props.drop (k + 1)) (y.props.drop (k + 1)))) := Lib.hid (by
                    obtain ⟨hl1, e1⟩ := List.getElem?_eq_some_iff.1 ha
                    obtain ⟨hl2, e2⟩ := List.getElem?_eq_some_iff.1 hb
                    rw [HK.out, List.drop_eq_getElem_cons hl1, List.drop_eq_getElem_cons hl2, e1, e2]; rfl)
                  clear HK ha hb hcells1 hcells2
                  cases e1 : (a.1.toList == b.1.toList) with
                  | false =>
                    have HZ : Hid (nodeE x y = false) := Lib.hid (by rw [HN.out, HD.out]; simp only [propE, e1]; simp)
                    clear HD
                    go_wp2_with fail
                    go_quiet (fail)
                    go_wp2_with fail
                    go_ret
                    exact ret_b HZ.out rfl (HW.out.drewN _).bel
                  | true =>
                    cases e2 : (a.2.toList == b.2.toList) with
                    | false =>
                      have HZ : Hid (nodeE x y = false) := Lib.hid (by rw [HN.out, HD.out]; simp only [propE, e1, e2]; simp)
                      clear HD
                      go_wp2_with fail
                      go_quiet (fail)
                      go_wp2_with fail
                      go_ret
                      exact ret_b HZ.out rfl (HW.out.drewN _).bel
                    | true =>
                      have HZ : Hid (eqL propE x.props y.props = eqL propE (x.props.drop (k + 1)) (y.props.drop (k + 1))) := Lib.hid (by rw [HD.out]; simp only [propE, e1, e2]; rfl)
                      clear HD
                      go_wp2_with fail
                      go_quiet (fail)
                      go_wp2_with fail
                      go_roundw
                      case rel => exact ⟨k + 1, by omega, by go_num, HW.out.drewN _, HZ⟩
                      case measure => simp [intOf]; omega
                · have HY : Hid (eqL propE x.props y.props = true) := Lib.hid (by rw [HK.out, List.drop_eq_nil_of_le (by have := HL1.out; have := HL3.out; omega), List.drop_eq_nil_of_le (by have := HL2.out; have := HL4.out; omega)]; rfl)
                  have hN := HN.out
                  rw [HY.out] at hN
                  have HN := Lib.hid hN
                  have HW0 := HW
                  clear hN HY HK HW
                  go_wp2_with fail
                  go_loopw [6] (fun i wr => ∃ k : Nat, k ≤ nra ∧ i = .int .i64 k ∧ NW w x ⟨⟨Apa, npa, cpa⟩, ⟨Aka, nka, cka⟩, ⟨Ara, nra, cra⟩⟩ y ⟨⟨Apb, npa, cpb⟩, ⟨Akb, nkb, ckb⟩, ⟨Arb, nra, crb⟩⟩ wr ∧ Hid (eqL refE x.refs y.refs = eqL refE (x.refs.drop k) (y.refs.drop k))) (fun i _ => nra - (intOf i).toNat)
                  case atStart => exact ⟨0, by omega, rfl, HW0.out, Lib.hid rfl⟩
                  case round =>
                    clear HW0
                    obtain ⟨k, hk, rfl, NWh, HK⟩ := hrel
                    have a4 := NWh.a.cell 4
                    have a5 := NWh.a.cell 5
                    have a6 := NWh.a.cell 6
                    have b4 := NWh.b.cell 4
                    have b5 := NWh.b.cell 5
                    have b6 := NWh.b.cell 6
                    simp at a4 a5 a6 b4 b5 b6
                    have hbel := NWh.bel
                    have HW := Lib.hid NWh
                    clear NWh
                    by_cases hlt : k < nra
                    · obtain ⟨b1, o1, rfl, _, _, hcells1⟩ := (HRRa.out.below (hbel.mono hh)).at_ (by omega)
                      obtain ⟨b2, o2, rfl, _, _, hcells2⟩ := (HRRb.out.below (hbel.mono hh)).at_ (by omega)
                      obtain ⟨a, ha⟩ : ∃ a, x.refs[k]? = some a := ⟨x.refs[k]'(by have := HL1.out; have := HL3.out; omega), List.getElem?_eq_getElem _⟩
                      obtain ⟨b, hb⟩ : ∃ b, y.refs[k]? = some b := ⟨y.refs[k]'(by have := HL2.out; have := HL4.out; omega), List.getElem?_eq_getElem _⟩
                      have q1 := hcells1 _ _ (refCells_get ha).1
                      have q1' := hcells1 _ _ (refCells_get ha).2
                      have q1' : wr.cell? ⟨b1, o1 + k * 2 + 1, none⟩ = some (.int .i64 a.2) := by rw [Nat.add_assoc]; exact q1'
                      have q2 := hcells2 _ _ (refCells_get hb).1
                      have q2' := hcells2 _ _ (refCells_get hb).2
                      have q2' : wr.cell? ⟨b2, o2 + k * 2 + 1, none⟩ = some (.int .i64 b.2) := by rw [Nat.add_assoc]; exact q2'
                      have HD : Hid (eqL refE x.refs y.refs = (refE a b && eqL refE (x.refs.drop (k + 1)) (y.refs.drop (k + 1)))) := Lib.hid (by
                        obtain ⟨hl1, e1⟩ := List.getElem?_eq_some_iff.1 ha
                        obtain ⟨hl2, e2⟩ := List.getElem?_eq_some_iff.1 hb
                        rw [HK.out, List.drop_eq_getElem_cons hl1, List.drop_eq_getElem_cons hl2, e1, e2]; rfl)
                      clear HK ha hb hcells1 hcells2
                      cases e1 : (a.1.toList == b.1.toList) with
                      | false =>
                        have HZ : Hid (nodeE x y = false) := Lib.hid (by rw [HN.out, HD.out]; simp only [refE, e1]; simp)
                        clear HD
                        go_wp2_with fail
                        go_quiet (fail)
                        go_wp2_with fail
                        go_ret
                        exact ret_b HZ.out rfl (HW.out.drewN _).bel
                      | true =>
                        cases e2 : (a.2 == b.2) with
                        | false =>
                          have HZ : Hid (nodeE x y = false) := Lib.hid (by rw [HN.out, HD.out]; simp only [refE, e1, e2]; simp)
                          clear HD
                          go_wp2_with fail
                          go_quiet (fail)
                          go_wp2_with fail
                          go_ret
                          exact ret_b HZ.out rfl (HW.out.drewN _).bel
                        | true =>
                          have HZ : Hid (eqL refE x.refs y.refs = eqL refE (x.refs.drop (k + 1)) (y.refs.drop (k + 1))) := Lib.hid (by rw [HD.out]; simp only [refE, e1, e2]; rfl)
                          clear HD
                          go_wp2_with fail
                          go_quiet (fail)
                          go_wp2_with fail
                          go_roundw
                          case rel => exact ⟨k + 1, by omega, by go_num, HW.out.drewN _, HZ⟩
                          case measure => simp [intOf]; omega
                    · have HY : Hid (eqL refE x.refs y.refs = true) := Lib.hid (by rw [HK.out, List.drop_eq_nil_of_le (by have := HL1.out; have := HL3.out; omega), List.drop_eq_nil_of_le (by have := HL2.out; have := HL4.out; omega)]; rfl)
                      have hN := HN.out
                      rw [HY.out] at hN
                      have HN := Lib.hid hN
                      have HW0 := HW
                      clear hN HY HK HW
                      go_wp2_with (go_at_call 22; refine (HIn.out _ (HW0.out.bel)).mono ?_; rintro e w2 ⟨rfl, hq2⟩; have HQ2 := Lib.hid hq2; clear hq2)
                      go_ret
                      exact ret_b (by rw [HN.out]; simp) rfl (HW0.out.bel.trans (drew_below HQ2.out))
            · have f1 : ((npa : Int) != (npb : Int)) = false := by rw [bne_eq_false_iff_eq]; omega
              have f2 : ((nra : Int) != (nrb : Int)) = true := by rw [bne_iff_ne]; omega
              have HZ : Hid (nodeE x y = false) := Lib.hid (by rw [HN.out, eqL_len refE (by have := HL3.out; have := HL4.out; omega)]; simp)
              clear l1 l2
              go_enter Tryz.func54, Tryz.ntmps54
              go_wp2_with fail
              go_ret
              exact ret_b HZ.out rfl HW0.out.bel
          · have f1 : ((npa : Int) != (npb : Int)) = true := by rw [bne_iff_ne]; omega
            have HZ : Hid (nodeE x y = false) := Lib.hid (by rw [HN.out, eqL_len propE (by have := HL1.out; have := HL2.out; omega)]; simp)
            clear l1
            go_enter Tryz.func54, Tryz.ntmps54
            go_wp2_with fail
            go_ret
            exact ret_b HZ.out rfl HW0.out.bel
        | false =>
          have HZ : Hid (nodeE x y = false) := Lib.hid (by rw [HN.out, d3]; simp)
          go_enter Tryz.func54, Tryz.ntmps54
          go_wp2_with fail
          go_ret
          exact ret_b HZ.out rfl HW0.out.bel
      · have d2 : (x.par == y.par) = false := by rw [beq_eq_false_iff_ne]; exact e2
        have n2 : (x.par != y.par) = true := by rw [bne_iff_ne]; exact e2
        clear e2
        have HZ : Hid (nodeE x y = false) := Lib.hid (by rw [HN.out, d2]; simp)
        go_enter Tryz.func54, Tryz.ntmps54
        go_wp2_with fail
        go_ret
        exact ret_b HZ.out rfl HW0.out.bel
    | false =>
      have HZ : Hid (nodeE x y = false) := Lib.hid (by rw [HN.out, d1]; simp)
      go_enter Tryz.func54, Tryz.ntmps54
      go_wp2_with fail
      go_ret
      exact ret_b HZ.out rfl HW0.out.bel
  · have d0 : (x.id == y.id) = false := by rw [beq_eq_false_iff_ne]; exact e0
    have n0 : (x.id != y.id) = true := by rw [bne_iff_ne]; exact e0
    clear e0
    have HZ : Hid (nodeE x y = false) := Lib.hid (by rw [HN.out, d0]; simp)
    go_enter Tryz.func54, Tryz.ntmps54
    go_wp2_with fail
    go_ret
    exact ret_b HZ.out rfl HW0.out.bel
end Go.Proofs.YtbkmdlfenbfdlaaGreat
namespace Go.Proofs.YtbkmdlfenbfdlaaGreat
open Go Go.RowKit Go.Sort
set_option linter.unusedVariables false
def mdE (next next' : Int) (nds nds' : List Nd) : Bool := (next == next') && eqL nodeE nds nds'
theorem mdE_refl (next : Int) (nds : List Nd) : mdE next next nds nds = true := by unfold mdE; rw [eqL_refl nodeE_refl]; simp
/-- the boxes of two models -/
structure M2 (w : World) (next next' : Int) (A A' : Option Addr) (n c n' c' : Nat) (wr : World) : Prop where
  a : Blk wr w.heap.size 26 #[.int .i64 next, .slice A n c]
  b : Blk wr (w.heap.size + 1) 26 #[.int .i64 next', .slice A' n' c']
  bel : Below w.heap.size w wr
section
variable {w wr w' : World} {next next' : Int} {A A' : Option Addr} {n c n' c' : Nat}
theorem M2.start (w : World) (next next' : Int) (A A' : Option Addr) (n c n' c' : Nat) : M2 w next next' A A' n c n' c' ((w.alloc (.cells #[.int .i64 next, .slice A n c] 26)).alloc (.cells #[.int .i64 next', .slice A' n' c'] 26)) :=
  ⟨(Blk.new _ _ _).alloc _, Blk.new' (by simp), (below_box _ _).alloc (by simp) _⟩
theorem M2.after (h : M2 w next next' A A' n c n' c' wr) (hb : Below wr.heap.size wr w') : M2 w next next' A A' n c n' c' w' := ⟨h.a.after hb, h.b.after hb, h.bel.trans (hb.mono h.bel.size)⟩
theorem M2.size (h : M2 w next next' A A' n c n' c' wr) : w.heap.size + 1 < wr.heap.size := h.b.lt
end
set_option maxRecDepth 100000 in
set_option maxHeartbeats 3200000 in
theorem refSame_any (w : World) (hi : Nat) (next next' : Int) (A A' : Option Addr) (n c n' c' : Nat) (nds nds' : List Nd) (h : NodesIn w 0 hi A n c nds) (h' : NodesIn w 0 hi A' n' c' nds') (hh : hi ≤ w.heap.size) :
    Calls Tryz.prog 20 #[.agg #[.int .i64 next, .slice A n c], .agg #[.int .i64 next', .slice A' n' c']] w (Ret w (.bool (mdE next next' nds nds'))) := by
  have hc := h.2.2.1
  have hnc := h.2.1
  have HL1 := Lib.hid h.1
  have hc' := h'.2.2.1
  have hnc' := h'.2.1
  have HL2 := Lib.hid h'.1
  unfold maxLen at hc hc'
  have HM0 := Lib.hid (M2.start w next next' A A' n c n' c')
  have HN : Hid (mdE next next' nds nds' = ((next == next') && eqL nodeE nds nds')) := Lib.hid rfl
  by_cases e1 : next = next'
  · have d1 : (next != next') = false := by rw [bne_eq_false_iff_eq]; exact e1
    have HN : Hid (mdE next next' nds nds' = eqL nodeE nds nds') := Lib.hid (by rw [HN.out, beq_iff_eq.2 e1]; rfl)
    clear e1
    by_cases e2 : n = n'
    · have d2 : ((n : Int) != (n' : Int)) = false := by rw [bne_eq_false_iff_eq]; omega
      subst e2
      go_enter Tryz.func20, Tryz.ntmps20
      go_wp2_with fail
      go_loopw [5] (fun i wr => ∃ k : Nat, k ≤ n ∧ i = .int .i64 k ∧ M2 w next next' A A' n c n c' wr ∧ Hid (eqL nodeE nds nds' = eqL nodeE (nds.drop k) (nds'.drop k))) (fun i _ => n - (intOf i).toNat)
      case atStart => exact ⟨0, by omega, rfl, HM0.out, Lib.hid rfl⟩
      case round =>
        clear HM0
        obtain ⟨k, hk, rfl, M, HK⟩ := hrel
        have c1 := M.a.cell 1
        have c2 := M.b.cell 1
        simp at c1 c2
        have hbel := M.bel
        have hsz := M.size
        have HM := Lib.hid M
        clear M
        by_cases hlt : k < n
        · obtain ⟨b1, o1, hA1, _, hb1, V1, hV1⟩ := h.all (by omega)
          obtain ⟨b2, o2, hA2, _, hb2', V2, hV2⟩ := h'.all (by omega)
          subst hA1 hA2
          obtain ⟨x, hx⟩ : ∃ x, nds[k]? = some x := ⟨nds[k]'(by have := HL1.out; omega), List.getElem?_eq_getElem _⟩
          obtain ⟨y, hy⟩ : ∃ y, nds'[k]? = some y := ⟨nds'[k]'(by have := HL2.out; omega), List.getElem?_eq_getElem _⟩
          have hat1 := (hV1 k x hx).1.below hbel (by omega)
          have hlf1 := (hV1 k x hx).2
          have hat2 := (hV2 k y hy).1.below hbel (by omega)
          have hlf2 := (hV2 k y hy).2
          have HD : Hid (eqL nodeE nds nds' = (nodeE x y && eqL nodeE (nds.drop (k + 1)) (nds'.drop (k + 1)))) := Lib.hid (by
            obtain ⟨hl1, e1⟩ := List.getElem?_eq_some_iff.1 hx
            obtain ⟨hl2, e2⟩ := List.getElem?_eq_some_iff.1 hy
            rw [HK.out, List.drop_eq_getElem_cons hl1, List.drop_eq_getElem_cons hl2, e1, e2]; rfl)
          generalize V1 k = L1 at hat1 hlf1
          generalize V2 k = L2 at hat2 hlf2
          obtain ⟨⟨Ap1, np1, cp1⟩, ⟨Ak1, nk1, ck1⟩, ⟨Ar1, nr1, cr1⟩⟩ := L1
          obtain ⟨⟨Ap2, np2, cp2⟩, ⟨Ak2, nk2, ck2⟩, ⟨Ar2, nr2, cr2⟩⟩ := L2
          obtain ⟨a0, a1, a2, a3, a4, a5, a6⟩ := hat1
          obtain ⟨g0, g1, g2, g3, g4, g5, g6⟩ := hat2
          simp only at a4 a5 a6 g4 g5 g6
          obtain ⟨r, hr⟩ : ∃ b, nodeE x y = b := ⟨_, rfl⟩
          rw [hr] at HD
          have hS : ∀ d os, Calls Tryz.prog 54 #[.agg #[.int .i64 x.id, .string x.con, .int .i64 x.par, .string x.role, .slice Ap1 np1 cp1, .slice Ak1 nk1 ck1, .slice Ar1 nr1 cr1], .agg #[.int .i64 y.id, .string y.con, .int .i64 y.par, .string y.role, .slice Ap2 np2 cp2, .slice Ak2 nk2 ck2, .slice Ar2 nr2 cr2]] (grow (redrawn wr d) os) (Ret (grow (redrawn wr d) os) (.bool (nodeE x y))) := fun d os =>
            refSameNode_any _ hi x y ⟨⟨Ap1, np1, cp1⟩, ⟨Ak1, nk1, ck1⟩, ⟨Ar1, nr1, cr1⟩⟩ ⟨⟨Ap2, np2, cp2⟩, ⟨Ak2, nk2, ck2⟩, ⟨Ar2, nr2, cr2⟩⟩ ((hlf1.below (hbel.mono hh)).below ((below_regrown wr d os).mono (by omega))) ((hlf2.below (hbel.mono hh)).below ((below_regrown wr d os).mono (by omega))) (by have := (below_regrown wr d os).size; omega)
          rw [hr] at hS
          have HS := Lib.hid hS
          have z0 := cell_regrown c1
          have z1 := cell_regrown c2
          have u0 := cell_regrown a0
          have v0 := cell_regrown g0
          have u1 := cell_regrown a1
          have v1 := cell_regrown g1
          have u2 := cell_regrown a2
          have v2 := cell_regrown g2
          have u3 := cell_regrown a3
          have v3 := cell_regrown g3
          have u4 := cell_regrown a4
          have v4 := cell_regrown g4
          have u5 := cell_regrown a5
          have v5 := cell_regrown g5
          have u6 := cell_regrown a6
          have v6 := cell_regrown g6
          clear hS hr hx hy hV1 hV2 hlf1 hlf2 HK a0 a1 a2 a3 a4 a5 a6 g0 g1 g2 g3 g4 g5 g6
          cases r with
          | false =>
            have HZ : Hid (mdE next next' nds nds' = false) := Lib.hid (by rw [HN.out, HD.out]; rfl)
            clear HD
            go_wp2_with fail
            refine wp_region_quiet_below (by kernel_rfl) (by kernel_rfl) ?_
            repeat (go_big_quiet_step ((go_at_call 54; exact regrown_ret (HS.out _ _))))
            refine wpQuiet_nil ?_
            intro _ hw'
            obtain ⟨⟨dq, osq⟩, hw''⟩ := hw'
            subst hw''
            have hb2 := below_regrown wr dq osq
            generalize grow (redrawn wr dq) osq = w2 at hb2 ⊢
            go_wp2_with fail
            go_ret
            exact ret_b HZ.out rfl (HM.out.after hb2).bel
          | true =>
            have HZ : Hid (eqL nodeE nds nds' = eqL nodeE (nds.drop (k + 1)) (nds'.drop (k + 1))) := Lib.hid (by rw [HD.out]; rfl)
            clear HD
            go_wp2_with fail
            refine wp_region_quiet_below (by kernel_rfl) (by kernel_rfl) ?_
            repeat (go_big_quiet_step ((go_at_call 54; exact regrown_ret (HS.out _ _))))
            refine wpQuiet_nil ?_
            intro _ hw'
            obtain ⟨⟨dq, osq⟩, hw''⟩ := hw'
            subst hw''
            have hb2 := below_regrown wr dq osq
            generalize grow (redrawn wr dq) osq = w2 at hb2 ⊢
            clear z0 z1 u0 u1 u2 u3 u4 u5 u6 v0 v1 v2 v3 v4 v5 v6
            go_wp2_with fail
            go_roundw
            case rel => exact ⟨k + 1, by omega, by go_num, HM.out.after hb2, HZ⟩
            case measure => simp [intOf]; omega
        · have HZ : Hid (mdE next next' nds nds' = true) := Lib.hid (by rw [HN.out, HK.out, List.drop_eq_nil_of_le (by have := HL1.out; omega), List.drop_eq_nil_of_le (by have := HL2.out; omega)]; rfl)
          clear HK
          go_wp2_with fail
          go_ret
          exact ret_b HZ.out rfl hbel
    · have d2 : ((n : Int) != (n' : Int)) = true := by rw [bne_iff_ne]; omega
      have HZ : Hid (mdE next next' nds nds' = false) := Lib.hid (by rw [HN.out, eqL_len nodeE (by have := HL1.out; have := HL2.out; omega)])
      clear e2
      go_enter Tryz.func20, Tryz.ntmps20
      go_wp2_with fail
      go_ret
      exact ret_b HZ.out rfl HM0.out.bel
  · have d1 : (next != next') = true := by rw [bne_iff_ne]; exact e1
    have HZ : Hid (mdE next next' nds nds' = false) := Lib.hid (by rw [HN.out, beq_eq_false_iff_ne.2 e1]; rfl)
    clear e1
    go_enter Tryz.func20, Tryz.ntmps20
    go_wp2_with fail
    go_ret
    exact ret_b HZ.out rfl HM0.out.bel
end Go.Proofs.YtbkmdlfenbfdlaaGreat
namespace Go.Proofs.YtbkmdlfenbfdlaaGreat
open Go Go.RowKit Go.Sort
set_option linter.unusedVariables false
attribute [local go_sem ↓] Go.wp_at_zero Go.wp_at_succ
theorem MarkIn.row {w : World} {B : Nat} {e : TypeId} {size n : Nat} {s : Sl} {xs mark : List Value} (h : MarkIn w B e size s n xs mark) (hx : xs.length = n * size) : Row w B w.heap.size size s.A s.n s.c xs := by
  have h1 := own_row (own_take h.2.2 (Nat.le_succ n) h.2.1)
  rw [show (xs ++ mark).take (n * size) = xs from by rw [← hx]; simp] at h1
  rw [h.1]
  exact h1
/-- the mark behind the end: the room is there, and what lies in it -/
theorem MarkIn.mark {w : World} {B : Nat} {e : TypeId} {size n : Nat} {s : Sl} {xs : List Value} {m0 : Value} {ms : List Value} (h : MarkIn w B e size s n xs (m0 :: ms)) (hx : xs.length = n * size) :
    ∃ b o, s.A = some ⟨b, o, none⟩ ∧ b < w.heap.size ∧ s.n + 1 ≤ s.c ∧ s.c ≤ maxLen ∧ w.cell? ⟨b, o + s.n * size, none⟩ = some m0 := by
  have h1 := own_row h.2.2
  obtain ⟨b, o, hA, _, hb, hc⟩ := h1.2.2.2 (Nat.succ_pos _)
  refine ⟨b, o, hA, hb, ?_, h1.2.2.1, hc _ _ ?_⟩
  · rw [h.1]; exact h1.2.1
  · rw [h.1, ← hx]; simp
theorem LentLeaf.leafIn {w : World} {B : Nat} {nd : Nd} {L : Leaf} (h : LentLeaf w B nd L) : LeafIn w B w.heap.size nd L :=
  ⟨h.p.1, h.k.1, h.r.1, h.p.row (propCells_length _), h.k.row (by rw [intCells_length]; omega), h.r.row (refCells_length _), h.sz⟩
theorem LentAt.ownN {w : World} {B n c : Nat} {A : Option Addr} {nds : List Nd} {l : List (Nd × Leaf)} (h : LentAt w B A n c nds l) : OwnN w B (.slice A n c) l := by
  have h1 := own_take h.own (Nat.le_succ n) h.some_
  rw [show (allCells l ++ markNd).take (n * 7) = allCells l from by rw [← h.len, ← allCells_len]; simp] at h1
  unfold OwnN
  rw [h.len]
  exact h1
theorem LentAt.nodesIn {w : World} {B n c : Nat} {A : Option Addr} {nds : List Nd} {l : List (Nd × Leaf)} (h : LentAt w B A n c nds l) : NodesIn w B w.heap.size A n c nds := by
  rw [← h.nds_]
  exact h.ownN.nodesIn h.len (fun p hp => (h.leaf p hp).leafIn) (Nat.le_refl _) (Nat.le_refl _)
theorem LentAt.after {w w' : World} {B n c : Nat} {A : Option Addr} {nds : List Nd} {l : List (Nd × Leaf)} (h : LentAt w B A n c nds l) (hb : Below w.heap.size w w') : LentAt w' B A n c nds l :=
  ⟨h.nds_, h.len, fun p hp => (h.leaf p hp).after hb, h.some_, own_after h.own hb, h.le, h.max⟩
/-- where the nodes lie, each with its marks, and the last mark -/
theorem LentAt.all {w : World} {B n c : Nat} {A : Option Addr} {nds : List Nd} {l : List (Nd × Leaf)} (h : LentAt w B A n c nds l) :
    ∃ b o, A = some ⟨b, o, none⟩ ∧ b < w.heap.size ∧ w.cell? ⟨b, o + n * 7, none⟩ = some (.int .i64 (-7)) ∧ ∀ i p, l[i]? = some p → NodeAt w b (o + i * 7) p.1 p.2 ∧ LentLeaf w B p.1 p.2 := by
  have h1 := own_row h.own
  obtain ⟨b, o, hA, _, hb, hc⟩ := h1.2.2.2 (Nat.succ_pos _)
  refine ⟨b, o, hA, hb, hc _ _ (by rw [← h.len, ← allCells_len]; simp [markNd]), fun i p hp => ?_⟩
  have hi : i < l.length := (List.getElem?_eq_some_iff.1 hp).1
  have key : ∀ j u, j < 7 → (ndCells p)[j]? = some u → w.cell? ⟨b, o + i * 7 + j, none⟩ = some u := by
    intro j u hj hu
    have hlt : i * 7 + j < (allCells l).length := by rw [allCells_len]; omega
    have := hc (i * 7 + j) u (by rw [List.getElem?_append_left hlt]; unfold allCells; rw [flatN_get ndCells_len l i p hp j hj]; exact hu)
    rwa [Nat.add_assoc]
  exact ⟨⟨key 0 _ (by omega) rfl, key 1 _ (by omega) rfl, key 2 _ (by omega) rfl, key 3 _ (by omega) rfl, key 4 _ (by omega) rfl, key 5 _ (by omega) rfl, key 6 _ (by omega) rfl⟩, h.leaf p (List.mem_of_getElem? hp)⟩
end Go.Proofs.YtbkmdlfenbfdlaaGreat
namespace Go.Proofs.YtbkmdlfenbfdlaaGreat
open Go Go.RowKit Go.Sort
set_option linter.unusedVariables false
attribute [local go_sem ↓] Go.wp_at_zero Go.wp_at_succ
theorem step_call {P : Program} (w : World) {ops : Array Oper} {o : Oper} {a : Act} {K : Act → World → Prop} {Q : Exit → Act → World → Prop} {E : Prop} (hgd : o.guard = none) (f : FuncId) (vs : Array Value)
    (hrun : (execOp a.eval o).run P w = .ok (.enter f vs) w) {R : Ending → World → Prop} (h : Calls P f vs w R)
    (hK : ∀ e w', R e w' → ∃ u, e = .returned u ∧ K (a.put o.dst u) w') : if Region.wanted o (yielded ops a.tmps) = true then Oper.wp P o a w K Q else E := by
  have hw : Region.wanted o (yielded ops a.tmps) = true := by simp [Region.wanted, hgd]
  rw [if_pos hw]
  unfold Oper.wp
  rw [hrun]
  refine h.mono ?_
  intro e w' hR
  obtain ⟨u, rfl, hk⟩ := hK e w' hR
  exact hk
theorem step_alloc {P : Program} (w : World) {ops : Array Oper} {o : Oper} {a : Act} {K : Act → World → Prop} {Q : Exit → Act → World → Prop} {E : Prop} (hgd : o.guard = none) (T : TypeId) (cs : Array Value)
    (hrun : (execOp a.eval o).run P w = .ok (.value (.pointer (some ⟨w.heap.size, 0, none⟩))) (w.alloc (.cells cs T)))
    (hK : ∀ g w', Blk w' g T cs → Below w.heap.size w w' → w.heap.size ≤ g → K (a.put o.dst (.pointer (some ⟨g, 0, none⟩))) w') : if Region.wanted o (yielded ops a.tmps) = true then Oper.wp P o a w K Q else E := by
  have hw : Region.wanted o (yielded ops a.tmps) = true := by simp [Region.wanted, hgd]
  rw [if_pos hw]
  unfold Oper.wp
  rw [hrun]
  exact hK _ _ (Blk.new w T cs) (below_more (Below.refl _ _) _) (Nat.le_refl _)
set_option maxHeartbeats 1600000 in
theorem new_any (w : World) : Calls Tryz.prog 8 #[] w (Ret w (.agg #[.int .i64 1, .slice none 0 0])) := by
  go_enter Tryz.func8, Tryz.ntmps8
  go_wp2_with fail
  (try rw [Exit.noGoto_ret])
  (try simp only [Exit.inBlock, Exit.then])
  have hres : Tryz.f8.results = #[.cell 0 26] := by kernel_rfl
  refine bodyPost_ret (v := .agg #[.int .i64 1, .slice none 0 0]) ?hr rfl ?_
  case hr =>
    simp only [results, hres]
    go_simp
  exact ret_mk rfl (below_more (Below.refl _ _) _)
end Go.Proofs.YtbkmdlfenbfdlaaGreat
namespace Go.Proofs.YtbkmdlfenbfdlaaGreat
open Go Go.RowKit Go.Sort
set_option linter.unusedVariables false
/-- the lists of a node, each in memory of its own -/
structure OwnLeaf (w : World) (B : Nat) (nd : Nd) (L : Leaf) : Prop where
  pn : L.p.n = nd.props.length
  kn : L.k.n = nd.kids.length
  rn : L.r.n = nd.refs.length
  p : w.ownsRow B 94 2 (.slice L.p.A L.p.n L.p.c) L.p.n (propCells nd.props)
  k : w.ownsRow B 3 1 (.slice L.k.A L.k.n L.k.c) L.k.n (intCells nd.kids)
  r : w.ownsRow B 60 2 (.slice L.r.A L.r.n L.r.c) L.r.n (refCells nd.refs)
  sz : SzN nd
section
variable {w w' : World} {B : Nat} {nd : Nd} {L : Leaf}
theorem OwnLeaf.leafIn (h : OwnLeaf w B nd L) : LeafIn w B w.heap.size nd L := ⟨h.pn, h.kn, h.rn, own_row h.p, own_row h.k, own_row h.r, h.sz⟩
theorem OwnLeaf.after (h : OwnLeaf w B nd L) (hb : Below w.heap.size w w') : OwnLeaf w' B nd L := ⟨h.pn, h.kn, h.rn, own_after h.p hb, own_after h.k hb, own_after h.r hb, h.sz⟩
theorem OwnLeaf.mono (h : OwnLeaf w B nd L) {B' : Nat} (hB : B' ≤ B) : OwnLeaf w B' nd L := ⟨h.pn, h.kn, h.rn, own_mono h.p hB, own_mono h.k hB, own_mono h.r hB, h.sz⟩
theorem OwnLeaf.other (h : OwnLeaf w B nd L) {g : Nat} {t : TypeId} {cs : Array Value} (hg : Blk w g t cs) (h1 : 94 ≠ t) (h2 : 3 ≠ t) (h3 : 60 ≠ t) (i : Nat) (u : Value) : OwnLeaf (w.setCell ⟨g, i, none⟩ u) B nd L :=
  ⟨h.pn, h.kn, h.rn, own_other h.p hg h1 i u, own_other h.k hg h2 i u, own_other h.r hg h3 i u, h.sz⟩
theorem own_kept {e e' : TypeId} {size size' n n' B' : Nat} {v v' : Value} {xs xs' : List Value} (h : w.ownsRow B e size v n xs) (h' : w.ownsRow B' e' size' v' n' xs') (hne : e ≠ e') (hg : w.grownBy w' v'.ownBlock) : w'.ownsRow B e size v n xs :=
  World.ownsRow.kept h hg (own_own_ne h h' hne)
theorem OwnLeaf.kept (h : OwnLeaf w B nd L) {B' size' n' : Nat} {v' : Value} {xs' : List Value} (h' : w.ownsRow B' 41 size' v' n' xs') (hg : w.grownBy w' v'.ownBlock) : OwnLeaf w' B nd L :=
  ⟨h.pn, h.kn, h.rn, own_kept h.p h' (by decide) hg, own_kept h.k h' (by decide) hg, own_kept h.r h' (by decide) hg, h.sz⟩
end
/-- a list of nodes of the call's own -/
structure OwnM (w : World) (B : Nat) (v : Value) (l : List (Nd × Leaf)) : Prop where
  own : OwnN w B v l
  leaf : ∀ p ∈ l, OwnLeaf w B p.1 p.2
section
variable {w w' : World} {B : Nat} {v : Value} {l : List (Nd × Leaf)}
theorem OwnM.after (h : OwnM w B v l) (hb : Below w.heap.size w w') : OwnM w' B v l := ⟨own_after h.own hb, fun p hp => (h.leaf p hp).after hb⟩
theorem OwnM.mono (h : OwnM w B v l) {B' : Nat} (hB : B' ≤ B) : OwnM w B' v l := ⟨own_mono h.own hB, fun p hp => (h.leaf p hp).mono hB⟩
theorem OwnM.other (h : OwnM w B v l) {g : Nat} {cs : Array Value} (hg : Blk w g 26 cs) (i : Nat) (u : Value) : OwnM (w.setCell ⟨g, i, none⟩ u) B v l :=
  ⟨own_other h.own hg (by decide) i u, fun p hp => (h.leaf p hp).other hg (by decide) (by decide) (by decide) i u⟩
theorem OwnM.nodesIn {A : Option Addr} {n c : Nat} (h : OwnM w B (.slice A n c) l) (hn : l.length = n) : NodesIn w B w.heap.size A n c (l.map (·.1)) :=
  OwnN.nodesIn h.own hn (fun p hp => (h.leaf p hp).leafIn) (Nat.le_refl _) (Nat.le_refl _)
theorem own_blk {e : TypeId} {size n c g : Nat} {xs : List Value} (h : w.ownsRow B e size (.slice (some ⟨g, 0, none⟩) n c) n xs) : ∃ cs, Blk w g e cs ∧ B ≤ g ∧ cs.size = c * size := by
  rcases h.2 with ⟨h', _⟩ | ⟨g', cap', cur, h', hb, hg, _, _, hs, _⟩
  · simp at h'
  · simp only [Value.slice.injEq, Option.some.injEq, Addr.mk.injEq, and_true, true_and] at h'
    obtain ⟨rfl, rfl⟩ := h'
    exact ⟨cur, hg, hb, hs⟩
/-- the cells of a list of nodes of which one has turned -/
theorem allCells_set {l : List (Nd × Leaf)} {i j : Nat} {p q : Nd × Leaf} {u : Value} (hp : l[i]? = some p) (hj : j < 7) (hq : (ndCells p).set j u = ndCells q) : (allCells l).set (i * 7 + j) u = allCells (l.set i q) := by
  induction l generalizing i with
  | nil => simp at hp
  | cons x l ih =>
    have hx := ndCells_len x
    match i, hp with
    | 0, hp =>
      obtain rfl : x = p := by simpa using hp
      simp only [allCells, List.flatMap_cons, List.set_cons_zero, Nat.zero_mul, Nat.zero_add]
      rw [List.set_append_left _ _ (by omega), hq]
    | i + 1, hp =>
      have := ih (i := i) (by simpa using hp)
      simp only [allCells, List.flatMap_cons, List.set_cons_succ] at this ⊢
      rw [List.set_append_right _ _ (by omega), hx, show (i + 1) * 7 + j - 7 = i * 7 + j from by omega, this]
/-- a cell of a node is stored -/
theorem OwnM.store {n c g i j : Nat} {p q : Nd × Leaf} {u : Value} (h : OwnM w B (.slice (some ⟨g, 0, none⟩) n c) l) (hn : l.length = n) (hp : l[i]? = some p) (hj : j < 7) (hq : (ndCells p).set j u = ndCells q) (hl : OwnLeaf w B q.1 q.2) :
    OwnM (w.setCell ⟨g, i * 7 + j, none⟩ u) B (.slice (some ⟨g, 0, none⟩) n c) (l.set i q) := by
  subst hn
  have h1 : w.ownsRow B 41 7 (.slice (some ⟨g, 0, none⟩) l.length c) l.length (allCells l) := h.own
  obtain ⟨cs, hg, _, _⟩ := own_blk h1
  have h2 := (World.ownsRow.stored h1 (i * 7 + j) u).1
  rw [allCells_set hp hj hq] at h2
  refine ⟨?_, fun x hx => ?_⟩
  · unfold OwnN
    rw [List.length_set]
    exact h2
  · rcases List.mem_or_eq_of_mem_set hx with hx | rfl
    · exact (h.leaf x hx).other hg (by decide) (by decide) (by decide) _ u
    · exact hl.other hg (by decide) (by decide) (by decide) _ u
/-- the world, where a cell of the call's own memory has turned -/
theorem below_set {W X : World} {g i : Nat} {u : Value} (h : Below W.heap.size W X) (hg : W.heap.size ≤ g) : Below W.heap.size W (X.setCell ⟨g, i, none⟩ u) := h.setCell (p := ⟨g, i, none⟩) hg u
end
section
variable {P : Program} (w : World)
/-- copy of a whole row into a block of the call's own -/
theorem run_copy_all (dT sT ty elem : TypeId) (i : TypeInfo) (size : Nat) (hu : P.underlying dT = some (.slice elem)) (hi : P.info? elem = some i) (hs : i.size = size)
    (g n c m : Nat) (A : Option Addr) (k : Nat) (cur : Array Value) (t : TypeId) (hg : w.heap[g]? = some (.cells cur t (0, 0))) (hcur : cur.size = n * size)
    (lo hi' : Nat) (news : List Value) (hr : Row w lo hi' size A n k news) (hn : 0 < n) (h1 : ∀ u ∈ news, u.oneCell' = true) :
    (Builtin.copy_ #[dT, sT] ty #[.slice (some ⟨g, 0, none⟩) n c, .slice A n k]).run P w = .ok (goInt n) (w.setRow g news.toArray) := by
  obtain ⟨b, o, rfl, _, _, hc⟩ := hr.2.2.2 hn
  have hl := run_loadCells_list (P := P) w ⟨b, o, none⟩ news (fun j u hj => by rw [Addr.add_lit]; exact hc j u hj)
  have hst := run_storeCells_at P g 0 t news 0 cur w hg (by rw [hr.1, hcur]; omega) h1
  have hd : cur.toList.drop (n * size) = [] := List.drop_eq_nil_of_le (by rw [Array.length_toList, hcur]; exact Nat.le_refl _)
  rw [hr.1] at hl
  simp only [Nat.zero_add, List.take_zero, List.nil_append, hr.1, hd, List.append_nil] at hst
  simp [Builtin.copy_, run_underlying hu, Builtin.lenOf, Builtin.firstCells, sizeOf, typeInfo, hi, hs, hl, hst]
/-- a new block, filled whole -/
theorem own_filled {w X : World} {g n size B : Nat} {e : TypeId} {cur : Array Value} {news : List Value} (hg : X.heap[g]? = some (.cells cur e (0, 0))) (hB : B ≤ g) (hn : n ≤ maxLen) (hs : news.length = n * size) :
    (X.setRow g news.toArray).ownsRow B e size (.slice (some ⟨g, 0, none⟩) n n) n news :=
  ⟨hs, .inr ⟨g, n, news.toArray, rfl, hB, setRow_heap X g cur _ e _ hg, Nat.le_refl _, hn, by simpa using hs, by simp [← hs]⟩⟩
end
end Go.Proofs.YtbkmdlfenbfdlaaGreat

/-
  WALKS: two nodes are the same, told by the document and by the program.
  WALKS: two models are the same, told by the document and by the program.
  THE LAW SheetReads: any text is just the model that the document says, or is refused at just the line that it says.
-/
import Derived.Test.YtjjlofaejpnnnaaGreatDoorZR28
namespace Go.Proofs.YtjjlofaejpnnnaaGreatDoor
open Go Go.RowKit Go.Sort
set_option linter.unusedVariables false
def nodeE (x y : Nd) : Bool := (x.id == y.id) && (x.con.toList == y.con.toList) && (x.par == y.par) && (x.role.toList == y.role.toList) && eqL propE x.props y.props && eqL intE x.kids y.kids && eqL refE x.refs y.refs
theorem nodeE_refl (x : Nd) : nodeE x x = true := by
  unfold nodeE
  rw [eqL_refl propE_refl, eqL_refl intE_refl, eqL_refl refE_refl]
  simp
/-- the boxes of two nodes -/
structure NW (w : World) (x : Nd) (L : Leaf) (y : Nd) (M : Leaf) (wr : World) : Prop where
  a : Blk wr w.heap.size 55 #[.int .i64 x.id, .string x.con, .int .i64 x.par, .string x.role, .slice L.p.A L.p.n L.p.c, .slice L.k.A L.k.n L.k.c, .slice L.r.A L.r.n L.r.c]
  b : Blk wr (w.heap.size + 1) 55 #[.int .i64 y.id, .string y.con, .int .i64 y.par, .string y.role, .slice M.p.A M.p.n M.p.c, .slice M.k.A M.k.n M.k.c, .slice M.r.A M.r.n M.r.c]
  bel : Below w.heap.size w wr
section
variable {w wr w' : World} {x y : Nd} {L M : Leaf}
theorem NW.start (w : World) (x : Nd) (L : Leaf) (y : Nd) (M : Leaf) : NW w x L y M ((w.alloc (.cells #[.int .i64 x.id, .string x.con, .int .i64 x.par, .string x.role, .slice L.p.A L.p.n L.p.c, .slice L.k.A L.k.n L.k.c, .slice L.r.A L.r.n L.r.c] 55)).alloc (.cells #[.int .i64 y.id, .string y.con, .int .i64 y.par, .string y.role, .slice M.p.A M.p.n M.p.c, .slice M.k.A M.k.n M.k.c, .slice M.r.A M.r.n M.r.c] 55)) :=
  ⟨(Blk.new _ _ _).alloc _, Blk.new' (by simp), (below_box _ _).alloc (by simp) _⟩
theorem NW.after (h : NW w x L y M wr) (hb : Below wr.heap.size wr w') : NW w x L y M w' := ⟨h.a.after hb, h.b.after hb, h.bel.trans (hb.mono h.bel.size)⟩
theorem NW.drewN (h : NW w x L y M wr) (q : Nat) : NW w x L y M (wr.drewN q) := ⟨h.a, h.b, below_drewN h.bel q⟩
theorem NW.size (h : NW w x L y M wr) : w.heap.size + 1 < wr.heap.size := h.b.lt
end
set_option maxRecDepth 100000 in
set_option maxHeartbeats 6400000 in
theorem refSameNode_any (w : World) (hi : Nat) (x y : Nd) (L M : Leaf) (hx : LeafIn w 0 hi x L) (hy : LeafIn w 0 hi y M) (hh : hi ≤ w.heap.size) :
    Calls Tryz.prog 22 #[.agg #[.int .i64 x.id, .string x.con, .int .i64 x.par, .string x.role, .slice L.p.A L.p.n L.p.c, .slice L.k.A L.k.n L.k.c, .slice L.r.A L.r.n L.r.c], .agg #[.int .i64 y.id, .string y.con, .int .i64 y.par, .string y.role, .slice M.p.A M.p.n M.p.c, .slice M.k.A M.k.n M.k.c, .slice M.r.A M.r.n M.r.c]] w (Ret w (.bool (nodeE x y))) := by
  have HN : Hid (nodeE x y = ((x.id == y.id) && (x.con.toList == y.con.toList) && (x.par == y.par) && (x.role.toList == y.role.toList) && eqL propE x.props y.props && eqL intE x.kids y.kids && eqL refE x.refs y.refs)) := Lib.hid rfl
  have HW0 := Lib.hid (NW.start w x L y M)
  obtain ⟨⟨Apa, npa, cpa⟩, ⟨Aka, nka, cka⟩, ⟨Ara, nra, cra⟩⟩ := L
  obtain ⟨⟨Apb, npb, cpb⟩, ⟨Akb, nkb, ckb⟩, ⟨Arb, nrb, crb⟩⟩ := M
  obtain ⟨h1, h2, h3, h4, h5, h6, h7⟩ := hx
  obtain ⟨g1, g2, g3, g4, g5, g6, g7⟩ := hy
  simp only at h1 h2 h3 h4 h5 h6 g1 g2 g3 g4 g5 g6 HW0 ⊢
  have HL1 := Lib.hid h1
  have HL2 := Lib.hid g1
  have HL3 := Lib.hid h3
  have HL4 := Lib.hid g3
  have z1 := h4.2.2.1
  have z2 := h4.2.1
  have z3 := h6.2.2.1
  have z4 := h6.2.1
  have z5 := g4.2.2.1
  have z6 := g4.2.1
  have z7 := g6.2.2.1
  have z8 := g6.2.1
  unfold maxLen at z1 z3 z5 z7
  have HRPa := Lib.hid h4
  have HRRa := Lib.hid h6
  have HRPb := Lib.hid g4
  have HRRb := Lib.hid g6
  have HIn : Hid (∀ w2, Below w.heap.size w w2 → Calls Tryz.prog 56 #[.slice Aka nka cka, .slice Akb nkb ckb] w2 (DrewV w2 (.bool (eqL intE x.kids y.kids)))) := Lib.hid (fun w2 hb2 => refInts_any w2 0 hi 0 hi Aka Akb nka cka nkb ckb x.kids y.kids (h5.below (hb2.mono hh)) (g5.below (hb2.mono hh)))
  clear h1 h2 h3 h4 h5 h6 h7 g1 g2 g3 g4 g5 g6 g7
  by_cases e0 : x.id = y.id
  · have d0 : (x.id == y.id) = true := by rw [beq_iff_eq]; exact e0
    have n0 : (x.id != y.id) = false := by rw [bne_eq_false_iff_eq]; exact e0
    clear e0
    cases d1 : (x.con.toList == y.con.toList) with
    | true =>
      by_cases e2 : x.par = y.par
      · have d2 : (x.par == y.par) = true := by rw [beq_iff_eq]; exact e2
        have n2 : (x.par != y.par) = false := by rw [bne_eq_false_iff_eq]; exact e2
        clear e2
        cases d3 : (x.role.toList == y.role.toList) with
        | true =>
          have hN : nodeE x y = (eqL propE x.props y.props && eqL intE x.kids y.kids && eqL refE x.refs y.refs) := by rw [HN.out, d0, d1, d2, d3]; rfl
          have HN := Lib.hid hN
          clear hN
          by_cases l1 : npa = npb
          · by_cases l2 : nra = nrb
            · have f1 : ((npa : Int) != (npb : Int)) = false := by rw [bne_eq_false_iff_eq]; omega
              have f2 : ((nra : Int) != (nrb : Int)) = false := by rw [bne_eq_false_iff_eq]; omega
              subst l1 l2
              go_enter Tryz.func22, Tryz.ntmps22
              go_wp2_with fail
              go_loopw [5] (fun i wr => ∃ k : Nat, k ≤ npa ∧ i = .int .i64 k ∧ NW w x ⟨⟨Apa, npa, cpa⟩, ⟨Aka, nka, cka⟩, ⟨Ara, nra, cra⟩⟩ y ⟨⟨Apb, npa, cpb⟩, ⟨Akb, nkb, ckb⟩, ⟨Arb, nra, crb⟩⟩ wr ∧ Hid (eqL propE x.props y.props = eqL propE (x.props.drop k) (y.props.drop k))) (fun i _ => npa - (intOf i).toNat)
              case atStart => exact ⟨0, by omega, rfl, HW0.out, Lib.hid rfl⟩
              case round =>
                clear HW0
                obtain ⟨k, hk, rfl, NWh, HK⟩ := hrel
                have a4 := NWh.a.cell 4
                have a5 := NWh.a.cell 5
                have a6 := NWh.a.cell 6
                have b4 := NWh.b.cell 4
                have b5 := NWh.b.cell 5
                have b6 := NWh.b.cell 6
                simp at a4 a5 a6 b4 b5 b6
                have hbel := NWh.bel
                have HW := Lib.hid NWh
                clear NWh
                by_cases hlt : k < npa
                · obtain ⟨b1, o1, rfl, _, _, hcells1⟩ := (HRPa.out.below (hbel.mono hh)).at_ (by omega)
                  obtain ⟨b2, o2, rfl, _, _, hcells2⟩ := (HRPb.out.below (hbel.mono hh)).at_ (by omega)
                  obtain ⟨a, ha⟩ : ∃ a, x.props[k]? = some a := ⟨x.props[k]'(by have := HL1.out; have := HL3.out; omega), List.getElem?_eq_getElem _⟩
                  obtain ⟨b, hb⟩ : ∃ b, y.props[k]? = some b := ⟨y.props[k]'(by have := HL2.out; have := HL4.out; omega), List.getElem?_eq_getElem _⟩
                  have q1 := hcells1 _ _ (propCells_get ha).1
                  have q1' := hcells1 _ _ (propCells_get ha).2
                  have q1' : wr.cell? ⟨b1, o1 + k * 2 + 1, none⟩ = some (.string a.2) := by rw [Nat.add_assoc]; exact q1'
                  have q2 := hcells2 _ _ (propCells_get hb).1
                  have q2' := hcells2 _ _ (propCells_get hb).2
                  have q2' : wr.cell? ⟨b2, o2 + k * 2 + 1, none⟩ = some (.string b.2) := by rw [Nat.add_assoc]; exact q2'
                  have HD : Hid (eqL propE x.props y.props = (propE a b && eqL propE (x.props.drop (k + 1)) (y.props.drop (k + 1)))) := Lib.hid (by
                    obtain ⟨hl1, e1⟩ := List.getElem?_eq_some_iff.1 ha
                    obtain ⟨hl2, e2⟩ := List.getElem?_eq_some_iff.1 hb
                    rw [HK.out, List.drop_eq_getElem_cons hl1, List.drop_eq_getElem_cons hl2, e1, e2]; rfl)
                  clear HK ha hb hcells1 hcells2
                  cases e1 : (a.1.toList == b.1.toList) with
                  | false =>
                    have HZ : Hid (nodeE x y = false) := Lib.hid (by rw [HN.out, HD.out]; simp only [propE, e1]; simp)
                    clear HD
                    go_wp2_with fail
                    go_quiet (fail)
                    go_wp2_with fail
                    go_ret
                    exact ret_b HZ.out rfl (HW.out.drewN _).bel
                  | true =>
                    cases e2 : (a.2.toList == b.2.toList) with
                    | false =>
                      have HZ : Hid (nodeE x y = false) := Lib.hid (by rw [HN.out, HD.out]; simp only [propE, e1, e2]; simp)
                      clear HD
                      go_wp2_with fail
                      go_quiet (fail)
                      go_wp2_with fail
                      go_ret
                      exact ret_b HZ.out rfl (HW.out.drewN _).bel
                    | true =>
                      have HZ : Hid (eqL propE x.props y.props = eqL propE (x.props.drop (k + 1)) (y.props.drop (k + 1))) := Lib.hid (by rw [HD.out]; simp only [propE, e1, e2]; rfl)
                      clear HD
                      go_wp2_with fail
                      go_quiet (fail)
                      go_wp2_with fail
                      go_roundw
                      case rel => exact ⟨k + 1, by omega, by go_num, HW.out.drewN _, HZ⟩
                      case measure => simp [intOf]; omega
                · have HY : Hid (eqL propE x.props y.props = true) := Lib.hid (by rw [HK.out, List.drop_eq_nil_of_le (by have := HL1.out; have := HL3.out; omega), List.drop_eq_nil_of_le (by have := HL2.out; have := HL4.out; omega)]; rfl)
                  have hN := HN.out
                  rw [HY.out] at hN
                  have HN := Lib.hid hN
                  have HW0 := HW
                  clear hN HY HK HW
                  go_wp2_with fail
                  go_loopw [6] (fun i wr => ∃ k : Nat, k ≤ nra ∧ i = .int .i64 k ∧ NW w x ⟨⟨Apa, npa, cpa⟩, ⟨Aka, nka, cka⟩, ⟨Ara, nra, cra⟩⟩ y ⟨⟨Apb, npa, cpb⟩, ⟨Akb, nkb, ckb⟩, ⟨Arb, nra, crb⟩⟩ wr ∧ Hid (eqL refE x.refs y.refs = eqL refE (x.refs.drop k) (y.refs.drop k))) (fun i _ => nra - (intOf i).toNat)
                  case atStart => exact ⟨0, by omega, rfl, HW0.out, Lib.hid rfl⟩
                  case round =>
                    clear HW0
                    obtain ⟨k, hk, rfl, NWh, HK⟩ := hrel
                    have a4 := NWh.a.cell 4
                    have a5 := NWh.a.cell 5
                    have a6 := NWh.a.cell 6
                    have b4 := NWh.b.cell 4
                    have b5 := NWh.b.cell 5
                    have b6 := NWh.b.cell 6
                    simp at a4 a5 a6 b4 b5 b6
                    have hbel := NWh.bel
                    have HW := Lib.hid NWh
                    clear NWh
                    by_cases hlt : k < nra
                    · obtain ⟨b1, o1, rfl, _, _, hcells1⟩ := (HRRa.out.below (hbel.mono hh)).at_ (by omega)
                      obtain ⟨b2, o2, rfl, _, _, hcells2⟩ := (HRRb.out.below (hbel.mono hh)).at_ (by omega)
                      obtain ⟨a, ha⟩ : ∃ a, x.refs[k]? = some a := ⟨x.refs[k]'(by have := HL1.out; have := HL3.out; omega), List.getElem?_eq_getElem _⟩
                      obtain ⟨b, hb⟩ : ∃ b, y.refs[k]? = some b := ⟨y.refs[k]'(by have := HL2.out; have := HL4.out; omega), List.getElem?_eq_getElem _⟩
                      have q1 := hcells1 _ _ (refCells_get ha).1
                      have q1' := hcells1 _ _ (refCells_get ha).2
                      have q1' : wr.cell? ⟨b1, o1 + k * 2 + 1, none⟩ = some (.int .i64 a.2) := by rw [Nat.add_assoc]; exact q1'
                      have q2 := hcells2 _ _ (refCells_get hb).1
                      have q2' := hcells2 _ _ (refCells_get hb).2
                      have q2' : wr.cell? ⟨b2, o2 + k * 2 + 1, none⟩ = some (.int .i64 b.2) := by rw [Nat.add_assoc]; exact q2'
                      have HD : Hid (eqL refE x.refs y.refs = (refE a b && eqL refE (x.refs.drop (k + 1)) (y.refs.drop (k + 1)))) := Lib.hid (by
                        obtain ⟨hl1, e1⟩ := List.getElem?_eq_some_iff.1 ha
                        obtain ⟨hl2, e2⟩ := List.getElem?_eq_some_iff.1 hb
                        rw [HK.out, List.drop_eq_getElem_cons hl1, List.drop_eq_getElem_cons hl2, e1, e2]; rfl)
                      clear HK ha hb hcells1 hcells2
                      cases e1 : (a.1.toList == b.1.toList) with
                      | false =>
                        have HZ : Hid (nodeE x y = false) := Lib.hid (by rw [HN.out, HD.out]; simp only [refE, e1]; simp)
                        clear HD
                        go_wp2_with fail
                        go_quiet (fail)
                        go_wp2_with fail
                        go_ret
                        exact ret_b HZ.out rfl (HW.out.drewN _).bel
                      | true =>
                        cases e2 : (a.2 == b.2) with
                        | false =>
                          have HZ : Hid (nodeE x y = false) := Lib.hid (by rw [HN.out, HD.out]; simp only [refE, e1, e2]; simp)
                          clear HD
                          go_wp2_with fail
                          go_quiet (fail)
                          go_wp2_with fail
                          go_ret
                          exact ret_b HZ.out rfl (HW.out.drewN _).bel
                        | true =>
                          have HZ : Hid (eqL refE x.refs y.refs = eqL refE (x.refs.drop (k + 1)) (y.refs.drop (k + 1))) := Lib.hid (by rw [HD.out]; simp only [refE, e1, e2]; rfl)
                          clear HD
                          go_wp2_with fail
                          go_quiet (fail)
                          go_wp2_with fail
                          go_roundw
                          case rel => exact ⟨k + 1, by omega, by go_num, HW.out.drewN _, HZ⟩
                          case measure => simp [intOf]; omega
                    · have HY : Hid (eqL refE x.refs y.refs = true) := Lib.hid (by rw [HK.out, List.drop_eq_nil_of_le (by have := HL1.out; have := HL3.out; omega), List.drop_eq_nil_of_le (by have := HL2.out; have := HL4.out; omega)]; rfl)
                      have hN := HN.out
                      rw [HY.out] at hN
                      have HN := Lib.hid hN
                      have HW0 := HW
                      clear hN HY HK HW
                      go_wp2_with (go_at_call 56; refine (HIn.out _ (HW0.out.bel)).mono ?_; rintro e w2 ⟨rfl, hq2⟩; have HQ2 := Lib.hid hq2; clear hq2)
                      go_ret
                      exact ret_b (by rw [HN.out]; simp) rfl (HW0.out.bel.trans (drew_below HQ2.out))
            · have f1 : ((npa : Int) != (npb : Int)) = false := by rw [bne_eq_false_iff_eq]; omega
              have f2 : ((nra : Int) != (nrb : Int)) = true := by rw [bne_iff_ne]; omega
              have HZ : Hid (nodeE x y = false) := Lib.hid (by rw [HN.out, eqL_len refE (by have := HL3.out; have := HL4.out; omega)]; simp)
              clear l1 l2
              go_enter Tryz.func22, Tryz.ntmps22
              go_wp2_with fail
              go_ret
              exact ret_b HZ.out rfl HW0.out.bel
          · have f1 : ((npa : Int) != (npb : Int)) = true := by rw [bne_iff_ne]; omega
            have HZ : Hid (nodeE x y = false) := Lib.hid (by rw [HN.out, eqL_len propE (by have := HL1.out; have := HL2.out; omega)]; simp)
            clear l1
            go_enter Tryz.func22, Tryz.ntmps22
            go_wp2_with fail
            go_ret
            exact ret_b HZ.out rfl HW0.out.bel
        | false =>
          have HZ : Hid (nodeE x y = false) := Lib.hid (by rw [HN.out, d3]; simp)
          go_enter Tryz.func22, Tryz.ntmps22
          go_wp2_with fail
          go_ret
          exact ret_b HZ.out rfl HW0.out.bel
      · have d2 : (x.par == y.par) = false := by rw [beq_eq_false_iff_ne]; exact e2
        have n2 : (x.par != y.par) = true := by rw [bne_iff_ne]; exact e2
        clear e2
        have HZ : Hid (nodeE x y = false) := Lib.hid (by rw [HN.out, d2]; simp)
        go_enter Tryz.func22, Tryz.ntmps22
        go_wp2_with fail
        go_ret
        exact ret_b HZ.out rfl HW0.out.bel
    | false =>
      have HZ : Hid (nodeE x y = false) := Lib.hid (by rw [HN.out, d1]; simp)
      go_enter Tryz.func22, Tryz.ntmps22
      go_wp2_with fail
      go_ret
      exact ret_b HZ.out rfl HW0.out.bel
  · have d0 : (x.id == y.id) = false := by rw [beq_eq_false_iff_ne]; exact e0
    have n0 : (x.id != y.id) = true := by rw [bne_iff_ne]; exact e0
    clear e0
    have HZ : Hid (nodeE x y = false) := Lib.hid (by rw [HN.out, d0]; simp)
    go_enter Tryz.func22, Tryz.ntmps22
    go_wp2_with fail
    go_ret
    exact ret_b HZ.out rfl HW0.out.bel
end Go.Proofs.YtjjlofaejpnnnaaGreatDoor
namespace Go.Proofs.YtjjlofaejpnnnaaGreatDoor
open Go Go.RowKit Go.Sort
set_option linter.unusedVariables false
def mdE (next next' : Int) (nds nds' : List Nd) : Bool := (next == next') && eqL nodeE nds nds'
theorem mdE_refl (next : Int) (nds : List Nd) : mdE next next nds nds = true := by unfold mdE; rw [eqL_refl nodeE_refl]; simp
/-- the boxes of two models -/
structure M2 (w : World) (next next' : Int) (A A' : Option Addr) (n c n' c' : Nat) (wr : World) : Prop where
  a : Blk wr w.heap.size 25 #[.int .i64 next, .slice A n c]
  b : Blk wr (w.heap.size + 1) 25 #[.int .i64 next', .slice A' n' c']
  bel : Below w.heap.size w wr
section
variable {w wr w' : World} {next next' : Int} {A A' : Option Addr} {n c n' c' : Nat}
theorem M2.start (w : World) (next next' : Int) (A A' : Option Addr) (n c n' c' : Nat) : M2 w next next' A A' n c n' c' ((w.alloc (.cells #[.int .i64 next, .slice A n c] 25)).alloc (.cells #[.int .i64 next', .slice A' n' c'] 25)) :=
  ⟨(Blk.new _ _ _).alloc _, Blk.new' (by simp), (below_box _ _).alloc (by simp) _⟩
theorem M2.after (h : M2 w next next' A A' n c n' c' wr) (hb : Below wr.heap.size wr w') : M2 w next next' A A' n c n' c' w' := ⟨h.a.after hb, h.b.after hb, h.bel.trans (hb.mono h.bel.size)⟩
theorem M2.size (h : M2 w next next' A A' n c n' c' wr) : w.heap.size + 1 < wr.heap.size := h.b.lt
end
set_option maxRecDepth 100000 in
set_option maxHeartbeats 3200000 in
theorem refSame_any (w : World) (hi : Nat) (next next' : Int) (A A' : Option Addr) (n c n' c' : Nat) (nds nds' : List Nd) (h : NodesIn w 0 hi A n c nds) (h' : NodesIn w 0 hi A' n' c' nds') (hh : hi ≤ w.heap.size) :
    Calls Tryz.prog 10 #[.agg #[.int .i64 next, .slice A n c], .agg #[.int .i64 next', .slice A' n' c']] w (Ret w (.bool (mdE next next' nds nds'))) := by
  have hc := h.2.2.1
  have hnc := h.2.1
  have HL1 := Lib.hid h.1
  have hc' := h'.2.2.1
  have hnc' := h'.2.1
  have HL2 := Lib.hid h'.1
  unfold maxLen at hc hc'
  have HM0 := Lib.hid (M2.start w next next' A A' n c n' c')
  have HN : Hid (mdE next next' nds nds' = ((next == next') && eqL nodeE nds nds')) := Lib.hid rfl
  by_cases e1 : next = next'
  · have d1 : (next != next') = false := by rw [bne_eq_false_iff_eq]; exact e1
    have HN : Hid (mdE next next' nds nds' = eqL nodeE nds nds') := Lib.hid (by rw [HN.out, beq_iff_eq.2 e1]; rfl)
    clear e1
    by_cases e2 : n = n'
    · have d2 : ((n : Int) != (n' : Int)) = false := by rw [bne_eq_false_iff_eq]; omega
      subst e2
      go_enter Tryz.func10, Tryz.ntmps10
      go_wp2_with fail
      go_loopw [5] (fun i wr => ∃ k : Nat, k ≤ n ∧ i = .int .i64 k ∧ M2 w next next' A A' n c n c' wr ∧ Hid (eqL nodeE nds nds' = eqL nodeE (nds.drop k) (nds'.drop k))) (fun i _ => n - (intOf i).toNat)
      case atStart => exact ⟨0, by omega, rfl, HM0.out, Lib.hid rfl⟩
      case round =>
        clear HM0
        obtain ⟨k, hk, rfl, M, HK⟩ := hrel
        have c1 := M.a.cell 1
        have c2 := M.b.cell 1
        simp at c1 c2
        have hbel := M.bel
        have hsz := M.size
        have HM := Lib.hid M
        clear M
        by_cases hlt : k < n
        · obtain ⟨b1, o1, hA1, _, hb1, V1, hV1⟩ := h.all (by omega)
          obtain ⟨b2, o2, hA2, _, hb2', V2, hV2⟩ := h'.all (by omega)
          subst hA1 hA2
          obtain ⟨x, hx⟩ : ∃ x, nds[k]? = some x := ⟨nds[k]'(by have := HL1.out; omega), List.getElem?_eq_getElem _⟩
          obtain ⟨y, hy⟩ : ∃ y, nds'[k]? = some y := ⟨nds'[k]'(by have := HL2.out; omega), List.getElem?_eq_getElem _⟩
          have hat1 := (hV1 k x hx).1.below hbel (by omega)
          have hlf1 := (hV1 k x hx).2
          have hat2 := (hV2 k y hy).1.below hbel (by omega)
          have hlf2 := (hV2 k y hy).2
          have HD : Hid (eqL nodeE nds nds' = (nodeE x y && eqL nodeE (nds.drop (k + 1)) (nds'.drop (k + 1)))) := Lib.hid (by
            obtain ⟨hl1, e1⟩ := List.getElem?_eq_some_iff.1 hx
            obtain ⟨hl2, e2⟩ := List.getElem?_eq_some_iff.1 hy
            rw [HK.out, List.drop_eq_getElem_cons hl1, List.drop_eq_getElem_cons hl2, e1, e2]; rfl)
          generalize V1 k = L1 at hat1 hlf1
          generalize V2 k = L2 at hat2 hlf2
          obtain ⟨⟨Ap1, np1, cp1⟩, ⟨Ak1, nk1, ck1⟩, ⟨Ar1, nr1, cr1⟩⟩ := L1
          obtain ⟨⟨Ap2, np2, cp2⟩, ⟨Ak2, nk2, ck2⟩, ⟨Ar2, nr2, cr2⟩⟩ := L2
          obtain ⟨a0, a1, a2, a3, a4, a5, a6⟩ := hat1
          obtain ⟨g0, g1, g2, g3, g4, g5, g6⟩ := hat2
          simp only at a4 a5 a6 g4 g5 g6
          obtain ⟨r, hr⟩ : ∃ b, nodeE x y = b := ⟨_, rfl⟩
          rw [hr] at HD
          have hS : ∀ d os, Calls Tryz.prog 22 #[.agg #[.int .i64 x.id, .string x.con, .int .i64 x.par, .string x.role, .slice Ap1 np1 cp1, .slice Ak1 nk1 ck1, .slice Ar1 nr1 cr1], .agg #[.int .i64 y.id, .string y.con, .int .i64 y.par, .string y.role, .slice Ap2 np2 cp2, .slice Ak2 nk2 ck2, .slice Ar2 nr2 cr2]] (grow (redrawn wr d) os) (Ret (grow (redrawn wr d) os) (.bool (nodeE x y))) := fun d os =>
            refSameNode_any _ hi x y ⟨⟨Ap1, np1, cp1⟩, ⟨Ak1, nk1, ck1⟩, ⟨Ar1, nr1, cr1⟩⟩ ⟨⟨Ap2, np2, cp2⟩, ⟨Ak2, nk2, ck2⟩, ⟨Ar2, nr2, cr2⟩⟩ ((hlf1.below (hbel.mono hh)).below ((below_regrown wr d os).mono (by omega))) ((hlf2.below (hbel.mono hh)).below ((below_regrown wr d os).mono (by omega))) (by have := (below_regrown wr d os).size; omega)
          rw [hr] at hS
          have HS := Lib.hid hS
          have z0 := cell_regrown c1
          have z1 := cell_regrown c2
          have u0 := cell_regrown a0
          have v0 := cell_regrown g0
          have u1 := cell_regrown a1
          have v1 := cell_regrown g1
          have u2 := cell_regrown a2
          have v2 := cell_regrown g2
          have u3 := cell_regrown a3
          have v3 := cell_regrown g3
          have u4 := cell_regrown a4
          have v4 := cell_regrown g4
          have u5 := cell_regrown a5
          have v5 := cell_regrown g5
          have u6 := cell_regrown a6
          have v6 := cell_regrown g6
          clear hS hr hx hy hV1 hV2 hlf1 hlf2 HK a0 a1 a2 a3 a4 a5 a6 g0 g1 g2 g3 g4 g5 g6
          cases r with
          | false =>
            have HZ : Hid (mdE next next' nds nds' = false) := Lib.hid (by rw [HN.out, HD.out]; rfl)
            clear HD
            go_wp2_with fail
            refine wp_region_quiet_below (by kernel_rfl) (by kernel_rfl) ?_
            repeat (go_big_quiet_step ((go_at_call 22; exact regrown_ret (HS.out _ _))))
            refine wpQuiet_nil ?_
            intro _ hw'
            obtain ⟨⟨dq, osq⟩, hw''⟩ := hw'
            subst hw''
            have hb2 := below_regrown wr dq osq
            generalize grow (redrawn wr dq) osq = w2 at hb2 ⊢
            go_wp2_with fail
            go_ret
            exact ret_b HZ.out rfl (HM.out.after hb2).bel
          | true =>
            have HZ : Hid (eqL nodeE nds nds' = eqL nodeE (nds.drop (k + 1)) (nds'.drop (k + 1))) := Lib.hid (by rw [HD.out]; rfl)
            clear HD
            go_wp2_with fail
            refine wp_region_quiet_below (by kernel_rfl) (by kernel_rfl) ?_
            repeat (go_big_quiet_step ((go_at_call 22; exact regrown_ret (HS.out _ _))))
            refine wpQuiet_nil ?_
            intro _ hw'
            obtain ⟨⟨dq, osq⟩, hw''⟩ := hw'
            subst hw''
            have hb2 := below_regrown wr dq osq
            generalize grow (redrawn wr dq) osq = w2 at hb2 ⊢
            clear z0 z1 u0 u1 u2 u3 u4 u5 u6 v0 v1 v2 v3 v4 v5 v6
            go_wp2_with fail
            go_roundw
            case rel => exact ⟨k + 1, by omega, by go_num, HM.out.after hb2, HZ⟩
            case measure => simp [intOf]; omega
        · have HZ : Hid (mdE next next' nds nds' = true) := Lib.hid (by rw [HN.out, HK.out, List.drop_eq_nil_of_le (by have := HL1.out; omega), List.drop_eq_nil_of_le (by have := HL2.out; omega)]; rfl)
          clear HK
          go_wp2_with fail
          go_ret
          exact ret_b HZ.out rfl hbel
    · have d2 : ((n : Int) != (n' : Int)) = true := by rw [bne_iff_ne]; omega
      have HZ : Hid (mdE next next' nds nds' = false) := Lib.hid (by rw [HN.out, eqL_len nodeE (by have := HL1.out; have := HL2.out; omega)])
      clear e2
      go_enter Tryz.func10, Tryz.ntmps10
      go_wp2_with fail
      go_ret
      exact ret_b HZ.out rfl HM0.out.bel
  · have d1 : (next != next') = true := by rw [bne_iff_ne]; exact e1
    have HZ : Hid (mdE next next' nds nds' = false) := Lib.hid (by rw [HN.out, beq_eq_false_iff_ne.2 e1]; rfl)
    clear e1
    go_enter Tryz.func10, Tryz.ntmps10
    go_wp2_with fail
    go_ret
    exact ret_b HZ.out rfl HM0.out.bel
end Go.Proofs.YtjjlofaejpnnnaaGreatDoor
namespace Go.Proofs.YtjjlofaejpnnnaaGreatDoor
open Go Go.RowKit Go.Sort
set_option linter.unusedVariables false
/-- behind both readings -/
structure TwoM (w W : World) (g1 g2 hi : Nat) (nx : Int) (nds : List Nd) (A A' : Option Addr) (n c n' c' : Nat) : Prop where
  b1 : Blk W g1 25 #[.int .i64 nx, .slice A n c]
  b2 : Blk W g2 25 #[.int .i64 nx, .slice A' n' c']
  n1 : NodesIn W 0 hi A n c nds
  n2 : NodesIn W 0 hi A' n' c' nds
  hi : hi ≤ W.heap.size
  bel : Below w.heap.size w W
theorem twoM {w w1 w3 : World} {nx : Int} {nds : List Nd} {A A' : Option Addr} {n c n' c' : Nat} (hb1 : Below w.heap.size w w1) (hn1 : NodesIn w1 0 w1.heap.size A n c nds) (hb3 : Below (w1.alloc (.cells #[.int .i64 nx, .slice A n c] 25)).heap.size (w1.alloc (.cells #[.int .i64 nx, .slice A n c] 25)) w3) (hn3 : NodesIn w3 0 w3.heap.size A' n' c' nds) :
    TwoM w (w3.alloc (.cells #[.int .i64 nx, .slice A' n' c'] 25)) w1.heap.size w3.heap.size w3.heap.size nx nds A A' n c n' c' := by
  have e1 : Below w1.heap.size w1 (w1.alloc (.cells #[.int .i64 nx, .slice A n c] 25)) := (Below.refl _ _).alloc (Nat.le_refl _) _
  have e2 : Below w3.heap.size w3 (w3.alloc (.cells #[.int .i64 nx, .slice A' n' c'] 25)) := (Below.refl _ _).alloc (Nat.le_refl _) _
  have e3 : Below w1.heap.size w1 w3 := e1.trans (hb3.mono e1.size)
  have e4 : Below w1.heap.size w1 (w3.alloc (.cells #[.int .i64 nx, .slice A' n' c'] 25)) := e3.trans (e2.mono e3.size)
  exact ⟨((Blk.new _ _ _).after hb3).after e2, Blk.new _ _ _, (hn1.below e4).mono (Nat.le_refl _) e3.size, hn3.below e2, e2.size, hb1.trans (e4.mono hb1.size)⟩
set_option maxRecDepth 20000 in
set_option maxHeartbeats 3200000 in
theorem sheetReads_law (w : World) (s : ByteArray) (hs : s.size ≤ 281474976710656) (hE : Env w) : Calls Tryz.prog 3 #[.string s] w (Ret w (.bool true)) := by
  have HLN := Lib.hid (linesT_any s w hs)
  have hp := sheetParse_any w s hE
  have hq := fun Y => refParse_any Y s
  generalize parseV s.data.toList = r at hp hq
  obtain ⟨⟨nx, nds⟩, at_, er⟩ := r
  unfold ParseP at hp
  unfold ParseD at hq
  simp only at hp hq
  have HP := Lib.hid hp
  have HQ := Lib.hid hq
  clear hp hq hE
  by_cases hl : s.size ≤ 1048576
  · have hl1 : (s.size : Int) ≤ 1048576 := by omega
    clear hl
    go_enter Tryz.func3, Tryz.ntmps3
    go_upto_region 5 with (first | (go_at_call 7; refine HLN.out.mono ?_; rintro e w0 ⟨k, rfl, hk, rfl⟩; have HK := Lib.hid hk; clear hk) | (go_at_call 8; refine HP.out.mono ?_; rintro e w1 ⟨A, n, c, rfl, hni, hb1⟩; have HN1 := Lib.hid hni; have HB1 := Lib.hid hb1; clear hni hb1) | (go_at_call 9; refine (HQ.out _).mono ?_; rintro e w3 ⟨A3, n3, c3, rfl, hni, hb3⟩; have HT := Lib.hid (twoM HB1.out HN1.out hb3 hni); clear hni hb3))
    · go_ret
      exact ⟨rfl, Below.refl _ _⟩
    · generalize w3.alloc (.cells #[.int .i64 nx, .slice A3 n3 c3] 25) = W4 at HT ⊢
      have x0 : W4.cell? ⟨w1.heap.size, 0, none⟩ = some (.int .i64 nx) := (HT.out.b1.cell 0).trans rfl
      have x1 : W4.cell? ⟨w1.heap.size, 1, none⟩ = some (.slice A n c) := (HT.out.b1.cell 1).trans rfl
      have y0 : W4.cell? ⟨w3.heap.size, 0, none⟩ = some (.int .i64 nx) := (HT.out.b2.cell 0).trans rfl
      have y1 : W4.cell? ⟨w3.heap.size, 1, none⟩ = some (.slice A3 n3 c3) := (HT.out.b2.cell 1).trans rfl
      have HS : Hid (Calls Tryz.prog 10 #[.agg #[.int .i64 nx, .slice A n c], .agg #[.int .i64 nx, .slice A3 n3 c3]] W4 (Ret W4 (.bool true))) := Lib.hid (by have := refSame_any W4 w3.heap.size nx nx A A3 n c n3 c3 nds nds HT.out.n1 HT.out.n2 HT.out.hi; rwa [mdE_refl] at this)
      clear HN1 HB1 HP HQ HLN
      go_wp2_with (go_at_call 10; refine HS.out.mono ?_; rintro e w5 ⟨rfl, hb5⟩; have HB5 := Lib.hid (HT.out.bel.trans (hb5.mono HT.out.bel.size)); clear hb5)
      go_ret
      exact ⟨rfl, HB5.out⟩
  · have hl1 : ¬ (s.size : Int) ≤ 1048576 := by omega
    clear hl
    go_enter Tryz.func3, Tryz.ntmps3
    go_upto_region 5 with (first | (go_at_call 8; refine HP.out.mono ?_; rintro e w1 ⟨A, n, c, rfl, hni, hb1⟩; have HN1 := Lib.hid hni; have HB1 := Lib.hid hb1; clear hni hb1) | (go_at_call 9; refine (HQ.out _).mono ?_; rintro e w3 ⟨A3, n3, c3, rfl, hni, hb3⟩; have HT := Lib.hid (twoM HB1.out HN1.out hb3 hni); clear hni hb3))
    generalize w3.alloc (.cells #[.int .i64 nx, .slice A3 n3 c3] 25) = W4 at HT ⊢
    have x0 : W4.cell? ⟨w1.heap.size, 0, none⟩ = some (.int .i64 nx) := (HT.out.b1.cell 0).trans rfl
    have x1 : W4.cell? ⟨w1.heap.size, 1, none⟩ = some (.slice A n c) := (HT.out.b1.cell 1).trans rfl
    have y0 : W4.cell? ⟨w3.heap.size, 0, none⟩ = some (.int .i64 nx) := (HT.out.b2.cell 0).trans rfl
    have y1 : W4.cell? ⟨w3.heap.size, 1, none⟩ = some (.slice A3 n3 c3) := (HT.out.b2.cell 1).trans rfl
    have HS : Hid (Calls Tryz.prog 10 #[.agg #[.int .i64 nx, .slice A n c], .agg #[.int .i64 nx, .slice A3 n3 c3]] W4 (Ret W4 (.bool true))) := Lib.hid (by have := refSame_any W4 w3.heap.size nx nx A A3 n c n3 c3 nds nds HT.out.n1 HT.out.n2 HT.out.hi; rwa [mdE_refl] at this)
    clear HN1 HB1 HP HQ HLN
    go_wp2_with (go_at_call 10; refine HS.out.mono ?_; rintro e w5 ⟨rfl, hb5⟩; have HB5 := Lib.hid (HT.out.bel.trans (hb5.mono HT.out.bel.size)); clear hb5)
    go_ret
    exact ⟨rfl, HB5.out⟩
end Go.Proofs.YtjjlofaejpnnnaaGreatDoor

/-
  WALKS: what is asked of an editor, of a template, as a whole.
  WALKS: the document: trees.
  THE LIBRARY's ITERATOR OVER A SLICE OF NUMBERS FROM ITS END (slices.Backward), inside a fence: what comes, in its order.
-/
import Derived.Test.YtilemieknfdjnaaGreatZ10
import Derived.RangeFuncNested
import Derived.RangeFuncBound
import Derived.RangeFuncCalls
import Derived.RangeFuncLeaves
import Derived.Shelf.Abstract
import Derived.Shelf.RegionOpen
import Derived.WalkKit
import Derived.OwnWalkIn
import Derived.TacticsInMore
import Derived.LoopNIn
import Derived.LoopIn
namespace Go.Proofs.YtilemieknfdjnaaGreat
open Go Go.RowKit Go.Sort
set_option linter.unusedVariables false
attribute [local go_sem ↓] Go.wp_at_zero Go.wp_at_succ
theorem parts_wher (w : World) (i : Int) (pos ahead : Nat) (a : Int) (ha : a = (ahead : Int)) (hl : ahead < 4611686018427387904) : Calls Tryz.prog 53 #[.int .i64 i, .int .i64 pos, .int .i64 a] w (fun e w' => ∃ cW, e = .returned (.func (.func 97) #[] cW) ∧ Wher w' 97 cW (partF i pos ahead) ∧ Below w.heap.size w w') := by
  subst ha
  exact (parts_any w i pos ahead).mono fun e w' ⟨g1, g2, g3, h, b1, b2, b3, hb⟩ => ⟨_, h, wher_part b1 b2 b3 hl, hb⟩
set_option maxRecDepth 20000 in
set_option maxHeartbeats 3200000 in
theorem rowone_ed (w X : World) (hi : Nat) (A : Option Addr) (n c : Nat) (l : List (RowD × Sl)) (h : Row w 0 hi 2 A n c (l.flatMap rowC)) (hh : hi ≤ w.heap.size) (hall : ∀ g ∈ l, RowIn w 0 hi g ∧ ∀ x ∈ g.1.cells, CellFit x) (go gl gi gk : Nat) (ho : Blk w go 75 #[.func (.func 23) #[] #[]]) (hl : Blk w gl 26 #[.slice A n c]) (hin : Blk w gi 3 #[.int .i64 5]) (hki : Blk w gk 3 #[.int .i64 6])
    (hX : Below w.heap.size w X) (k : Nat) (q : RowD × Sl) (hq : l[k]? = some q) :
    Calls Tryz.prog 66 #[.int .i64 k, .agg #[.string q.1.con, .slice q.2.A q.2.n q.2.c], .pointer (some ⟨go, 0, none⟩), .pointer (some ⟨gl, 0, none⟩), .pointer (some ⟨gi, 0, none⟩), .pointer (some ⟨gk, 0, none⟩)] X (Ends X (rowO 5 6 l k q)) := by
  have hnc := h.2.1
  have hc := h.2.2.1
  have hln : l.length = n := by have := h.1; rw [flatN_len (f := rowC) (s := 2) (fun _ => rfl)] at this; omega
  have hk : k < n := by rw [← hln]; exact (List.getElem?_eq_some_iff.1 hq).1
  unfold maxLen at hc
  obtain ⟨b, o, rfl, _⟩ := h.at_ (by omega)
  have hkc : k ≤ c := by omega
  obtain ⟨⟨hqn, hqr⟩, hfit⟩ := hall q (List.mem_of_getElem? hq)
  have hln' := hqr.2.2.1
  have hln'' := hqr.2.1
  unfold maxLen at hln'
  have HX0 : Hid (Below w.heap.size w (X.alloc (.cells #[.string q.1.con, .slice q.2.A q.2.n q.2.c] 55))) := Lib.hid (below_more hX _)
  have HN : Hid (∀ Y gw gc, Below w.heap.size w Y → Blk Y gc 9 #[.string q.1.con] → Blk Y gw 9 #[.string q.1.con] → Calls Tryz.prog 68 #[.slice (some ⟨b, o, none⟩) k c, .func (.func 67) #[] #[.pointer (some ⟨go, 0, none⟩), .pointer (some ⟨gc, 0, none⟩)], .slice (some ⟨gw, 0, none⟩) 1 1] Y (Ret Y (.int .i64 (namedV [q.1.con] ((l.take k).any fun y => bEq y.1.con q.1.con))))) :=
    Lib.hid fun Y gw gc hY hb hw => named_ed Y hi _ k c (l.take k) (row_take (s := 2) (fun _ => rfl) (h.keep fun b o hb => hY.cell (p := ⟨b, o, none⟩) (Nat.lt_of_lt_of_le hb hh)) (by omega)) (Nat.le_trans hh hY.size) 67 _ _ (tells_ed (ho.after hY) hb _) Y.heap.size (some ⟨gw, 0, none⟩) 1 1 [q.1.con]
      (Row.mono (row_blk (n := 1) (c := 1) (size := 1) hw rfl (Nat.le_refl _) (by decide)) (Nat.zero_le _) hw.lt) (Nat.le_refl _)
  have HR0 : Hid (rowO 5 6 l k q = if namedV [q.1.con] ((l.take k).any fun y => bEq y.1.con q.1.con) = 0 then outOf (rowF 5 6 k q.1.cells) else .ret (namedV [q.1.con] ((l.take k).any fun y => bEq y.1.con q.1.con))) := Lib.hid rfl
  generalize namedV [q.1.con] _ = e at HN HR0
  have HSo : Hid (∀ Y gc, Below w.heap.size w Y → Blk Y gc 9 #[.string q.1.con] → (Y.cell? ⟨gl, 0, none⟩ = some (.slice (some ⟨b, o, none⟩) n c) ∧ Y.cell? ⟨gc, 0, none⟩ = some (.string q.1.con))) := Lib.hid fun Y gc hY hb => ⟨((hl.after hY).cell 0).trans rfl, (hb.cell 0).trans rfl⟩
  have HIn : Hid (∀ Y, Below w.heap.size w Y → Y.cell? ⟨gi, 0, none⟩ = some (.int .i64 5)) := Lib.hid fun Y hY => ((hin.after hY).cell 0).trans rfl
  have HOp : Hid (∀ Z, Below X.heap.size X Z → Z.cell? ⟨go, 0, none⟩ = some (.func (.func 23) #[] #[])) := Lib.hid fun Z hZ => (((ho.after hX).after hZ).cell 0).trans rfl
  have HE0 : 64 < q.1.cells.length ∨ Hid (∀ Y cW, Below w.heap.size w Y → Wher Y 97 cW (partF 5 k 0) → Calls Tryz.prog 69 #[.slice q.2.A q.2.n q.2.c, .int .i64 q.2.n, .func (.func 97) #[] cW, .func (.func 70) #[] #[.pointer (some ⟨gk, 0, none⟩)]] Y (Comes' Y (eachV q.1.cells.length (partF 5 k 0) (fun _ c => .ret (cellErr 6 c)) 0 q.1.cells))) := by
    by_cases h64 : 64 < q.1.cells.length
    · exact .inl h64
    · refine .inr (Lib.hid fun Y cW hY hW => ?_)
      rw [← hqn]
      exact each_ce Y hi _ q.2.n q.2.c q.1.cells (hqr.keep fun b o hb => hY.cell (p := ⟨b, o, none⟩) (Nat.lt_of_lt_of_le hb hh)) (Nat.le_trans hh hY.size) q.2.n (by omega) _ _ _ _ _ _ hW (asks_edc Y q.1.cells hfit gk 6 (hki.after hY))
  have hop' := past_cell (HOp.out X (Below.refl _ _)) (ho.after hX).lt
  have HQN := Lib.hid hqn
  clear h hq hln hall ho hl hin hki hqr hfit hX hqn
  have hmf : ∀ (fn : Fn) (first cap : Array Value) (w : World), (Instr.makeFunc fn first cap).run Tryz.prog w = .ok (.func fn first cap) w := fun _ _ _ _ => rfl
  by_cases he : e = 0
  · subst he
    rw [if_pos rfl] at HR0
    by_cases h64 : 64 < q.1.cells.length
    · have HR : Hid (rowO 5 6 l k q = .thr { partF 5 k 0 64 with err := 4 }) := Lib.hid (by rw [HR0.out]; unfold rowF; rw [if_pos h64]; rfl)
      rw [HR.out]
      have d64 : 64 < q.2.n := by rw [HQN.out]; exact h64
      clear h64 HE0
      go_enter Tryz.func66, Tryz.ntmps66
      go_upto_region 3 with (go_at_call 23; (with_reducible refine (open_ed _ q).mono ?_); go_must (rintro e1 Y1 ⟨rfl, hb1⟩; have HB1 : Hid (Below w.heap.size w Y1) := Lib.hid (HX0.out.trans (hb1.mono HX0.out.size)); have HX1 : Hid (Below X.heap.size X Y1) := Lib.hid ((below_of_alloc _).trans (hb1.mono (below_of_alloc (X := X) _).size)); clear hb1))
      go_region_held3 (fun Y : World => Y.cell? ⟨gl, 0, none⟩ = some (.slice (some ⟨b, o, none⟩) n c) ∧ Y.cell? ⟨Y1.heap.size, 0, none⟩ = some (.string q.1.con)) (first | exact HSo.out _ _ HB2.out HG2.out | exact HSo.out _ _ (by (repeat (first | exact HB1.out | refine below_more ?_ _ | refine below_drew ?_ | refine below_drewN ?_ _))) (by (repeat (first | exact Blk.new _ _ _ | refine Blk.alloc ?_ _ | refine Blk.drew ?_ | refine Blk.drewN ?_ _)))) ((go_at_call 68; (with_reducible refine (HN.out _ _ _ (by (repeat (first | exact HB1.out | refine below_more ?_ _ | refine below_drew ?_ | refine below_drewN ?_ _))) (by (repeat (first | exact Blk.new _ _ _ | refine Blk.alloc ?_ _ | refine Blk.drew ?_ | refine Blk.drewN ?_ _))) (by (repeat (first | exact Blk.new' (by first | rfl | (simp; done)) | refine Blk.drew ?_ | refine Blk.drewN ?_ _)))).mono ?_); rintro e2 Y2 ⟨rfl, hb2⟩; have HB2 : Hid (Below w.heap.size w Y2) := Lib.hid (Below.trans (by (repeat (first | exact HB1.out | refine below_more ?_ _ | refine below_drew ?_ | refine below_drewN ?_ _))) (hb2.mono (Below.size (w := w) (B := w.heap.size) (by (repeat (first | exact HB1.out | refine below_more ?_ _ | refine below_drew ?_ | refine below_drewN ?_ _)))))); have HX2 : Hid (Below X.heap.size X Y2) := Lib.hid (Below.trans (by (repeat (first | exact HX1.out | refine below_more ?_ _ | refine below_drew ?_ | refine below_drewN ?_ _))) (hb2.mono (Below.size (w := X) (B := X.heap.size) (by (repeat (first | exact HX1.out | refine below_more ?_ _ | refine below_drew ?_ | refine below_drewN ?_ _)))))); have HG2 : Hid (Blk Y2 Y1.heap.size 9 #[.string q.1.con]) := Lib.hid (Blk.after (by (repeat (first | exact Blk.new _ _ _ | refine Blk.alloc ?_ _ | refine Blk.drew ?_ | refine Blk.drewN ?_ _))) hb2); clear hb2))
      all_goals (
        have y1 := HIn.out _ HB2.out
        go_wp2_with (first | (go_at_call 53; (with_reducible refine (parts_wher _ 5 k 0 0 rfl (by decide)).mono ?_); go_must (rintro e3 Y3 ⟨cW, rfl, hw3, hb3⟩; have HWC : Hid (∀ Z, Below Y3.heap.size Y3 Z → Calls Tryz.prog 97 (#[.int .i64 64] ++ cW) Z (Ret Z (faV (partF 5 k 0 64)))) := Lib.hid fun Z hZ => hw3.call Z hZ 64 (by decide); have HW3 := Lib.hid hw3; have HB3 := Lib.hid (HB2.out.trans (hb3.mono HB2.out.size)); have HX3 := Lib.hid (HX2.out.trans (hb3.mono HX2.out.size)); clear hb3 hw3)) | (go_at_call 97; (with_reducible refine (HWC.out _ (Below.refl _ _)).mono ?_); go_must (rintro e4 Y4 ⟨rfl, hb4⟩; have HX4 := Lib.hid (HX3.out.trans (hb4.mono HX3.out.size)); clear hb4)) | (go_at_call 43; (with_reducible refine (throw_any _ _ _).mono ?_); go_must (rintro e5 Y5 ⟨rfl, hb5⟩; have HX5 := Lib.hid (HX4.out.trans (hb5.mono HX4.out.size)); clear hb5)))
        exact ⟨rfl, rfl, HX5.out⟩)
    · have HE := HE0.resolve_left h64
      have d64 : ¬ 64 < q.2.n := by rw [HQN.out]; exact h64
      have HR : Hid (rowO 5 6 l k q = outOf (eachV q.1.cells.length (partF 5 k 0) (fun _ c => .ret (cellErr 6 c)) 0 q.1.cells)) := Lib.hid (by rw [HR0.out]; unfold rowF; rw [if_neg h64])
      rw [HR.out]
      clear h64 HE0
      generalize eachV q.1.cells.length _ _ 0 q.1.cells = v at HE
      cases v with
      | none =>
        go_enter Tryz.func66, Tryz.ntmps66
        go_upto_region 3 with (go_at_call 23; (with_reducible refine (open_ed _ q).mono ?_); go_must (rintro e1 Y1 ⟨rfl, hb1⟩; have HB1 : Hid (Below w.heap.size w Y1) := Lib.hid (HX0.out.trans (hb1.mono HX0.out.size)); have HX1 : Hid (Below X.heap.size X Y1) := Lib.hid ((below_of_alloc _).trans (hb1.mono (below_of_alloc (X := X) _).size)); clear hb1))
        go_region_held3 (fun Y : World => Y.cell? ⟨gl, 0, none⟩ = some (.slice (some ⟨b, o, none⟩) n c) ∧ Y.cell? ⟨Y1.heap.size, 0, none⟩ = some (.string q.1.con)) (first | exact HSo.out _ _ HB2.out HG2.out | exact HSo.out _ _ (by (repeat (first | exact HB1.out | refine below_more ?_ _ | refine below_drew ?_ | refine below_drewN ?_ _))) (by (repeat (first | exact Blk.new _ _ _ | refine Blk.alloc ?_ _ | refine Blk.drew ?_ | refine Blk.drewN ?_ _)))) ((go_at_call 68; (with_reducible refine (HN.out _ _ _ (by (repeat (first | exact HB1.out | refine below_more ?_ _ | refine below_drew ?_ | refine below_drewN ?_ _))) (by (repeat (first | exact Blk.new _ _ _ | refine Blk.alloc ?_ _ | refine Blk.drew ?_ | refine Blk.drewN ?_ _))) (by (repeat (first | exact Blk.new' (by first | rfl | (simp; done)) | refine Blk.drew ?_ | refine Blk.drewN ?_ _)))).mono ?_); rintro e2 Y2 ⟨rfl, hb2⟩; have HB2 : Hid (Below w.heap.size w Y2) := Lib.hid (Below.trans (by (repeat (first | exact HB1.out | refine below_more ?_ _ | refine below_drew ?_ | refine below_drewN ?_ _))) (hb2.mono (Below.size (w := w) (B := w.heap.size) (by (repeat (first | exact HB1.out | refine below_more ?_ _ | refine below_drew ?_ | refine below_drewN ?_ _)))))); have HX2 : Hid (Below X.heap.size X Y2) := Lib.hid (Below.trans (by (repeat (first | exact HX1.out | refine below_more ?_ _ | refine below_drew ?_ | refine below_drewN ?_ _))) (hb2.mono (Below.size (w := X) (B := X.heap.size) (by (repeat (first | exact HX1.out | refine below_more ?_ _ | refine below_drew ?_ | refine below_drewN ?_ _)))))); have HG2 : Hid (Blk Y2 Y1.heap.size 9 #[.string q.1.con]) := Lib.hid (Blk.after (by (repeat (first | exact Blk.new _ _ _ | refine Blk.alloc ?_ _ | refine Blk.drew ?_ | refine Blk.drewN ?_ _))) hb2); clear hb2))
        all_goals (
          have y1 := HIn.out _ HB2.out
          go_wp2_with (first | (go_at_call 53; (with_reducible refine (parts_wher _ 5 k 0 0 rfl (by decide)).mono ?_); go_must (rintro e3 Y3 ⟨cW, rfl, hw3, hb3⟩; have HWC : Hid (∀ Z, Below Y3.heap.size Y3 Z → Calls Tryz.prog 97 (#[.int .i64 64] ++ cW) Z (Ret Z (faV (partF 5 k 0 64)))) := Lib.hid fun Z hZ => hw3.call Z hZ 64 (by decide); have HW3 := Lib.hid hw3; have HB3 := Lib.hid (HB2.out.trans (hb3.mono HB2.out.size)); have HX3 := Lib.hid (HX2.out.trans (hb3.mono HX2.out.size)); clear hb3 hw3)) | (go_at_call 69; (with_reducible refine (HE.out _ _ HB3.out HW3.out).mono ?_); go_must (rintro e4 Y4 ⟨rfl, hb4⟩; have HX4 := Lib.hid (HX3.out.trans (hb4.mono HX3.out.size)); clear hb4)))
          go_ret
          exact ⟨rfl, HX4.out⟩)
      | some f =>
        go_enter Tryz.func66, Tryz.ntmps66
        go_upto_region 3 with (go_at_call 23; (with_reducible refine (open_ed _ q).mono ?_); go_must (rintro e1 Y1 ⟨rfl, hb1⟩; have HB1 : Hid (Below w.heap.size w Y1) := Lib.hid (HX0.out.trans (hb1.mono HX0.out.size)); have HX1 : Hid (Below X.heap.size X Y1) := Lib.hid ((below_of_alloc _).trans (hb1.mono (below_of_alloc (X := X) _).size)); clear hb1))
        go_region_held3 (fun Y : World => Y.cell? ⟨gl, 0, none⟩ = some (.slice (some ⟨b, o, none⟩) n c) ∧ Y.cell? ⟨Y1.heap.size, 0, none⟩ = some (.string q.1.con)) (first | exact HSo.out _ _ HB2.out HG2.out | exact HSo.out _ _ (by (repeat (first | exact HB1.out | refine below_more ?_ _ | refine below_drew ?_ | refine below_drewN ?_ _))) (by (repeat (first | exact Blk.new _ _ _ | refine Blk.alloc ?_ _ | refine Blk.drew ?_ | refine Blk.drewN ?_ _)))) ((go_at_call 68; (with_reducible refine (HN.out _ _ _ (by (repeat (first | exact HB1.out | refine below_more ?_ _ | refine below_drew ?_ | refine below_drewN ?_ _))) (by (repeat (first | exact Blk.new _ _ _ | refine Blk.alloc ?_ _ | refine Blk.drew ?_ | refine Blk.drewN ?_ _))) (by (repeat (first | exact Blk.new' (by first | rfl | (simp; done)) | refine Blk.drew ?_ | refine Blk.drewN ?_ _)))).mono ?_); rintro e2 Y2 ⟨rfl, hb2⟩; have HB2 : Hid (Below w.heap.size w Y2) := Lib.hid (Below.trans (by (repeat (first | exact HB1.out | refine below_more ?_ _ | refine below_drew ?_ | refine below_drewN ?_ _))) (hb2.mono (Below.size (w := w) (B := w.heap.size) (by (repeat (first | exact HB1.out | refine below_more ?_ _ | refine below_drew ?_ | refine below_drewN ?_ _)))))); have HX2 : Hid (Below X.heap.size X Y2) := Lib.hid (Below.trans (by (repeat (first | exact HX1.out | refine below_more ?_ _ | refine below_drew ?_ | refine below_drewN ?_ _))) (hb2.mono (Below.size (w := X) (B := X.heap.size) (by (repeat (first | exact HX1.out | refine below_more ?_ _ | refine below_drew ?_ | refine below_drewN ?_ _)))))); have HG2 : Hid (Blk Y2 Y1.heap.size 9 #[.string q.1.con]) := Lib.hid (Blk.after (by (repeat (first | exact Blk.new _ _ _ | refine Blk.alloc ?_ _ | refine Blk.drew ?_ | refine Blk.drewN ?_ _))) hb2); clear hb2))
        all_goals (
          have y1 := HIn.out _ HB2.out
          go_wp2_with (first | (go_at_call 53; (with_reducible refine (parts_wher _ 5 k 0 0 rfl (by decide)).mono ?_); go_must (rintro e3 Y3 ⟨cW, rfl, hw3, hb3⟩; have HWC : Hid (∀ Z, Below Y3.heap.size Y3 Z → Calls Tryz.prog 97 (#[.int .i64 64] ++ cW) Z (Ret Z (faV (partF 5 k 0 64)))) := Lib.hid fun Z hZ => hw3.call Z hZ 64 (by decide); have HW3 := Lib.hid hw3; have HB3 := Lib.hid (HB2.out.trans (hb3.mono HB2.out.size)); have HX3 := Lib.hid (HX2.out.trans (hb3.mono HX2.out.size)); clear hb3 hw3)) | (go_at_call 69; (with_reducible refine (HE.out _ _ HB3.out HW3.out).mono ?_); go_must (rintro e4 Y4 ⟨rfl, hb4⟩; have HX4 := Lib.hid (HX3.out.trans (hb4.mono HX3.out.size)); clear hb4)))
          exact ⟨rfl, rfl, HX4.out⟩)
  · have d1 : (e == 0) = false := beq_eq_false_iff_ne.2 he
    have HR : Hid (rowO 5 6 l k q = .ret e) := Lib.hid (by rw [HR0.out, if_neg he])
    rw [HR.out]
    clear he HE0
    go_enter Tryz.func66, Tryz.ntmps66
    go_upto_region 3 with (go_at_call 23; (with_reducible refine (open_ed _ q).mono ?_); go_must (rintro e1 Y1 ⟨rfl, hb1⟩; have HB1 : Hid (Below w.heap.size w Y1) := Lib.hid (HX0.out.trans (hb1.mono HX0.out.size)); have HX1 : Hid (Below X.heap.size X Y1) := Lib.hid ((below_of_alloc _).trans (hb1.mono (below_of_alloc (X := X) _).size)); clear hb1))
    go_region_held3 (fun Y : World => Y.cell? ⟨gl, 0, none⟩ = some (.slice (some ⟨b, o, none⟩) n c) ∧ Y.cell? ⟨Y1.heap.size, 0, none⟩ = some (.string q.1.con)) (first | exact HSo.out _ _ HB2.out HG2.out | exact HSo.out _ _ (by (repeat (first | exact HB1.out | refine below_more ?_ _ | refine below_drew ?_ | refine below_drewN ?_ _))) (by (repeat (first | exact Blk.new _ _ _ | refine Blk.alloc ?_ _ | refine Blk.drew ?_ | refine Blk.drewN ?_ _)))) ((go_at_call 68; (with_reducible refine (HN.out _ _ _ (by (repeat (first | exact HB1.out | refine below_more ?_ _ | refine below_drew ?_ | refine below_drewN ?_ _))) (by (repeat (first | exact Blk.new _ _ _ | refine Blk.alloc ?_ _ | refine Blk.drew ?_ | refine Blk.drewN ?_ _))) (by (repeat (first | exact Blk.new' (by first | rfl | (simp; done)) | refine Blk.drew ?_ | refine Blk.drewN ?_ _)))).mono ?_); rintro e2 Y2 ⟨rfl, hb2⟩; have HB2 : Hid (Below w.heap.size w Y2) := Lib.hid (Below.trans (by (repeat (first | exact HB1.out | refine below_more ?_ _ | refine below_drew ?_ | refine below_drewN ?_ _))) (hb2.mono (Below.size (w := w) (B := w.heap.size) (by (repeat (first | exact HB1.out | refine below_more ?_ _ | refine below_drew ?_ | refine below_drewN ?_ _)))))); have HX2 : Hid (Below X.heap.size X Y2) := Lib.hid (Below.trans (by (repeat (first | exact HX1.out | refine below_more ?_ _ | refine below_drew ?_ | refine below_drewN ?_ _))) (hb2.mono (Below.size (w := X) (B := X.heap.size) (by (repeat (first | exact HX1.out | refine below_more ?_ _ | refine below_drew ?_ | refine below_drewN ?_ _)))))); have HG2 : Hid (Blk Y2 Y1.heap.size 9 #[.string q.1.con]) := Lib.hid (Blk.after (by (repeat (first | exact Blk.new _ _ _ | refine Blk.alloc ?_ _ | refine Blk.drew ?_ | refine Blk.drewN ?_ _))) hb2); clear hb2))
    all_goals (
      go_wp2_with fail
      go_ret
      exact ⟨rfl, HX2.out⟩)
set_option maxRecDepth 20000 in
set_option maxHeartbeats 3200000 in
theorem rowone_te (w X : World) (hi : Nat) (A : Option Addr) (n c : Nat) (l : List (RowD × Sl)) (h : Row w 0 hi 2 A n c (l.flatMap rowC)) (hh : hi ≤ w.heap.size) (hall : ∀ g ∈ l, RowIn w 0 hi g ∧ ∀ x ∈ g.1.cells, CellFit x) (go gl gi gk : Nat) (ho : Blk w go 78 #[.func (.func 25) #[] #[]]) (hl : Blk w gl 27 #[.slice A n c]) (hin : Blk w gi 3 #[.int .i64 6]) (hki : Blk w gk 3 #[.int .i64 5])
    (hX : Below w.heap.size w X) (k : Nat) (q : RowD × Sl) (hq : l[k]? = some q) :
    Calls Tryz.prog 73 #[.int .i64 k, .agg #[.string q.1.con, .slice q.2.A q.2.n q.2.c], .pointer (some ⟨go, 0, none⟩), .pointer (some ⟨gl, 0, none⟩), .pointer (some ⟨gi, 0, none⟩), .pointer (some ⟨gk, 0, none⟩)] X (Ends X (rowO 6 5 l k q)) := by
  have hnc := h.2.1
  have hc := h.2.2.1
  have hln : l.length = n := by have := h.1; rw [flatN_len (f := rowC) (s := 2) (fun _ => rfl)] at this; omega
  have hk : k < n := by rw [← hln]; exact (List.getElem?_eq_some_iff.1 hq).1
  unfold maxLen at hc
  obtain ⟨b, o, rfl, _⟩ := h.at_ (by omega)
  have hkc : k ≤ c := by omega
  obtain ⟨⟨hqn, hqr⟩, hfit⟩ := hall q (List.mem_of_getElem? hq)
  have hln' := hqr.2.2.1
  have hln'' := hqr.2.1
  unfold maxLen at hln'
  have HX0 : Hid (Below w.heap.size w (X.alloc (.cells #[.string q.1.con, .slice q.2.A q.2.n q.2.c] 58))) := Lib.hid (below_more hX _)
  have HN : Hid (∀ Y gw gc, Below w.heap.size w Y → Blk Y gc 9 #[.string q.1.con] → Blk Y gw 9 #[.string q.1.con] → Calls Tryz.prog 75 #[.slice (some ⟨b, o, none⟩) k c, .func (.func 74) #[] #[.pointer (some ⟨go, 0, none⟩), .pointer (some ⟨gc, 0, none⟩)], .slice (some ⟨gw, 0, none⟩) 1 1] Y (Ret Y (.int .i64 (namedV [q.1.con] ((l.take k).any fun y => bEq y.1.con q.1.con))))) :=
    Lib.hid fun Y gw gc hY hb hw => named_te Y hi _ k c (l.take k) (row_take (s := 2) (fun _ => rfl) (h.keep fun b o hb => hY.cell (p := ⟨b, o, none⟩) (Nat.lt_of_lt_of_le hb hh)) (by omega)) (Nat.le_trans hh hY.size) 74 _ _ (tells_te (ho.after hY) hb _) Y.heap.size (some ⟨gw, 0, none⟩) 1 1 [q.1.con]
      (Row.mono (row_blk (n := 1) (c := 1) (size := 1) hw rfl (Nat.le_refl _) (by decide)) (Nat.zero_le _) hw.lt) (Nat.le_refl _)
  have HR0 : Hid (rowO 6 5 l k q = if namedV [q.1.con] ((l.take k).any fun y => bEq y.1.con q.1.con) = 0 then outOf (rowF 6 5 k q.1.cells) else .ret (namedV [q.1.con] ((l.take k).any fun y => bEq y.1.con q.1.con))) := Lib.hid rfl
  generalize namedV [q.1.con] _ = e at HN HR0
  have HSo : Hid (∀ Y gc, Below w.heap.size w Y → Blk Y gc 9 #[.string q.1.con] → (Y.cell? ⟨gl, 0, none⟩ = some (.slice (some ⟨b, o, none⟩) n c) ∧ Y.cell? ⟨gc, 0, none⟩ = some (.string q.1.con))) := Lib.hid fun Y gc hY hb => ⟨((hl.after hY).cell 0).trans rfl, (hb.cell 0).trans rfl⟩
  have HIn : Hid (∀ Y, Below w.heap.size w Y → Y.cell? ⟨gi, 0, none⟩ = some (.int .i64 6)) := Lib.hid fun Y hY => ((hin.after hY).cell 0).trans rfl
  have HOp : Hid (∀ Z, Below X.heap.size X Z → Z.cell? ⟨go, 0, none⟩ = some (.func (.func 25) #[] #[])) := Lib.hid fun Z hZ => (((ho.after hX).after hZ).cell 0).trans rfl
  have HE0 : 64 < q.1.cells.length ∨ Hid (∀ Y cW, Below w.heap.size w Y → Wher Y 97 cW (partF 6 k 0) → Calls Tryz.prog 76 #[.slice q.2.A q.2.n q.2.c, .int .i64 q.2.n, .func (.func 97) #[] cW, .func (.func 77) #[] #[.pointer (some ⟨gk, 0, none⟩)]] Y (Comes' Y (eachV q.1.cells.length (partF 6 k 0) (fun _ c => .ret (cellErr 5 c)) 0 q.1.cells))) := by
    by_cases h64 : 64 < q.1.cells.length
    · exact .inl h64
    · refine .inr (Lib.hid fun Y cW hY hW => ?_)
      rw [← hqn]
      exact each_pe Y hi _ q.2.n q.2.c q.1.cells (hqr.keep fun b o hb => hY.cell (p := ⟨b, o, none⟩) (Nat.lt_of_lt_of_le hb hh)) (Nat.le_trans hh hY.size) q.2.n (by omega) _ _ _ _ _ _ hW (asks_tec Y q.1.cells hfit gk 5 (hki.after hY))
  have hop' := past_cell (HOp.out X (Below.refl _ _)) (ho.after hX).lt
  have HQN := Lib.hid hqn
  clear h hq hln hall ho hl hin hki hqr hfit hX hqn
  have hmf : ∀ (fn : Fn) (first cap : Array Value) (w : World), (Instr.makeFunc fn first cap).run Tryz.prog w = .ok (.func fn first cap) w := fun _ _ _ _ => rfl
  by_cases he : e = 0
  · subst he
    rw [if_pos rfl] at HR0
    by_cases h64 : 64 < q.1.cells.length
    · have HR : Hid (rowO 6 5 l k q = .thr { partF 6 k 0 64 with err := 4 }) := Lib.hid (by rw [HR0.out]; unfold rowF; rw [if_pos h64]; rfl)
      rw [HR.out]
      have d64 : 64 < q.2.n := by rw [HQN.out]; exact h64
      clear h64 HE0
      go_enter Tryz.func73, Tryz.ntmps73
      go_upto_region 3 with (go_at_call 25; (with_reducible refine (open_te _ q).mono ?_); go_must (rintro e1 Y1 ⟨rfl, hb1⟩; have HB1 : Hid (Below w.heap.size w Y1) := Lib.hid (HX0.out.trans (hb1.mono HX0.out.size)); have HX1 : Hid (Below X.heap.size X Y1) := Lib.hid ((below_of_alloc _).trans (hb1.mono (below_of_alloc (X := X) _).size)); clear hb1))
      go_region_held3 (fun Y : World => Y.cell? ⟨gl, 0, none⟩ = some (.slice (some ⟨b, o, none⟩) n c) ∧ Y.cell? ⟨Y1.heap.size, 0, none⟩ = some (.string q.1.con)) (first | exact HSo.out _ _ HB2.out HG2.out | exact HSo.out _ _ (by (repeat (first | exact HB1.out | refine below_more ?_ _ | refine below_drew ?_ | refine below_drewN ?_ _))) (by (repeat (first | exact Blk.new _ _ _ | refine Blk.alloc ?_ _ | refine Blk.drew ?_ | refine Blk.drewN ?_ _)))) ((go_at_call 75; (with_reducible refine (HN.out _ _ _ (by (repeat (first | exact HB1.out | refine below_more ?_ _ | refine below_drew ?_ | refine below_drewN ?_ _))) (by (repeat (first | exact Blk.new _ _ _ | refine Blk.alloc ?_ _ | refine Blk.drew ?_ | refine Blk.drewN ?_ _))) (by (repeat (first | exact Blk.new' (by first | rfl | (simp; done)) | refine Blk.drew ?_ | refine Blk.drewN ?_ _)))).mono ?_); rintro e2 Y2 ⟨rfl, hb2⟩; have HB2 : Hid (Below w.heap.size w Y2) := Lib.hid (Below.trans (by (repeat (first | exact HB1.out | refine below_more ?_ _ | refine below_drew ?_ | refine below_drewN ?_ _))) (hb2.mono (Below.size (w := w) (B := w.heap.size) (by (repeat (first | exact HB1.out | refine below_more ?_ _ | refine below_drew ?_ | refine below_drewN ?_ _)))))); have HX2 : Hid (Below X.heap.size X Y2) := Lib.hid (Below.trans (by (repeat (first | exact HX1.out | refine below_more ?_ _ | refine below_drew ?_ | refine below_drewN ?_ _))) (hb2.mono (Below.size (w := X) (B := X.heap.size) (by (repeat (first | exact HX1.out | refine below_more ?_ _ | refine below_drew ?_ | refine below_drewN ?_ _)))))); have HG2 : Hid (Blk Y2 Y1.heap.size 9 #[.string q.1.con]) := Lib.hid (Blk.after (by (repeat (first | exact Blk.new _ _ _ | refine Blk.alloc ?_ _ | refine Blk.drew ?_ | refine Blk.drewN ?_ _))) hb2); clear hb2))
      all_goals (
        have y1 := HIn.out _ HB2.out
        go_wp2_with (first | (go_at_call 53; (with_reducible refine (parts_wher _ 6 k 0 0 rfl (by decide)).mono ?_); go_must (rintro e3 Y3 ⟨cW, rfl, hw3, hb3⟩; have HWC : Hid (∀ Z, Below Y3.heap.size Y3 Z → Calls Tryz.prog 97 (#[.int .i64 64] ++ cW) Z (Ret Z (faV (partF 6 k 0 64)))) := Lib.hid fun Z hZ => hw3.call Z hZ 64 (by decide); have HW3 := Lib.hid hw3; have HB3 := Lib.hid (HB2.out.trans (hb3.mono HB2.out.size)); have HX3 := Lib.hid (HX2.out.trans (hb3.mono HX2.out.size)); clear hb3 hw3)) | (go_at_call 97; (with_reducible refine (HWC.out _ (Below.refl _ _)).mono ?_); go_must (rintro e4 Y4 ⟨rfl, hb4⟩; have HX4 := Lib.hid (HX3.out.trans (hb4.mono HX3.out.size)); clear hb4)) | (go_at_call 43; (with_reducible refine (throw_any _ _ _).mono ?_); go_must (rintro e5 Y5 ⟨rfl, hb5⟩; have HX5 := Lib.hid (HX4.out.trans (hb5.mono HX4.out.size)); clear hb5)))
        exact ⟨rfl, rfl, HX5.out⟩)
    · have HE := HE0.resolve_left h64
      have d64 : ¬ 64 < q.2.n := by rw [HQN.out]; exact h64
      have HR : Hid (rowO 6 5 l k q = outOf (eachV q.1.cells.length (partF 6 k 0) (fun _ c => .ret (cellErr 5 c)) 0 q.1.cells)) := Lib.hid (by rw [HR0.out]; unfold rowF; rw [if_neg h64])
      rw [HR.out]
      clear h64 HE0
      generalize eachV q.1.cells.length _ _ 0 q.1.cells = v at HE
      cases v with
      | none =>
        go_enter Tryz.func73, Tryz.ntmps73
        go_upto_region 3 with (go_at_call 25; (with_reducible refine (open_te _ q).mono ?_); go_must (rintro e1 Y1 ⟨rfl, hb1⟩; have HB1 : Hid (Below w.heap.size w Y1) := Lib.hid (HX0.out.trans (hb1.mono HX0.out.size)); have HX1 : Hid (Below X.heap.size X Y1) := Lib.hid ((below_of_alloc _).trans (hb1.mono (below_of_alloc (X := X) _).size)); clear hb1))
        go_region_held3 (fun Y : World => Y.cell? ⟨gl, 0, none⟩ = some (.slice (some ⟨b, o, none⟩) n c) ∧ Y.cell? ⟨Y1.heap.size, 0, none⟩ = some (.string q.1.con)) (first | exact HSo.out _ _ HB2.out HG2.out | exact HSo.out _ _ (by (repeat (first | exact HB1.out | refine below_more ?_ _ | refine below_drew ?_ | refine below_drewN ?_ _))) (by (repeat (first | exact Blk.new _ _ _ | refine Blk.alloc ?_ _ | refine Blk.drew ?_ | refine Blk.drewN ?_ _)))) ((go_at_call 75; (with_reducible refine (HN.out _ _ _ (by (repeat (first | exact HB1.out | refine below_more ?_ _ | refine below_drew ?_ | refine below_drewN ?_ _))) (by (repeat (first | exact Blk.new _ _ _ | refine Blk.alloc ?_ _ | refine Blk.drew ?_ | refine Blk.drewN ?_ _))) (by (repeat (first | exact Blk.new' (by first | rfl | (simp; done)) | refine Blk.drew ?_ | refine Blk.drewN ?_ _)))).mono ?_); rintro e2 Y2 ⟨rfl, hb2⟩; have HB2 : Hid (Below w.heap.size w Y2) := Lib.hid (Below.trans (by (repeat (first | exact HB1.out | refine below_more ?_ _ | refine below_drew ?_ | refine below_drewN ?_ _))) (hb2.mono (Below.size (w := w) (B := w.heap.size) (by (repeat (first | exact HB1.out | refine below_more ?_ _ | refine below_drew ?_ | refine below_drewN ?_ _)))))); have HX2 : Hid (Below X.heap.size X Y2) := Lib.hid (Below.trans (by (repeat (first | exact HX1.out | refine below_more ?_ _ | refine below_drew ?_ | refine below_drewN ?_ _))) (hb2.mono (Below.size (w := X) (B := X.heap.size) (by (repeat (first | exact HX1.out | refine below_more ?_ _ | refine below_drew ?_ | refine below_drewN ?_ _)))))); have HG2 : Hid (Blk Y2 Y1.heap.size 9 #[.string q.1.con]) := Lib.hid (Blk.after (by (repeat (first | exact Blk.new _ _ _ | refine Blk.alloc ?_ _ | refine Blk.drew ?_ | refine Blk.drewN ?_ _))) hb2); clear hb2))
        all_goals (
          have y1 := HIn.out _ HB2.out
          go_wp2_with (first | (go_at_call 53; (with_reducible refine (parts_wher _ 6 k 0 0 rfl (by decide)).mono ?_); go_must (rintro e3 Y3 ⟨cW, rfl, hw3, hb3⟩; have HWC : Hid (∀ Z, Below Y3.heap.size Y3 Z → Calls Tryz.prog 97 (#[.int .i64 64] ++ cW) Z (Ret Z (faV (partF 6 k 0 64)))) := Lib.hid fun Z hZ => hw3.call Z hZ 64 (by decide); have HW3 := Lib.hid hw3; have HB3 := Lib.hid (HB2.out.trans (hb3.mono HB2.out.size)); have HX3 := Lib.hid (HX2.out.trans (hb3.mono HX2.out.size)); clear hb3 hw3)) | (go_at_call 76; (with_reducible refine (HE.out _ _ HB3.out HW3.out).mono ?_); go_must (rintro e4 Y4 ⟨rfl, hb4⟩; have HX4 := Lib.hid (HX3.out.trans (hb4.mono HX3.out.size)); clear hb4)))
          go_ret
          exact ⟨rfl, HX4.out⟩)
      | some f =>
        go_enter Tryz.func73, Tryz.ntmps73
        go_upto_region 3 with (go_at_call 25; (with_reducible refine (open_te _ q).mono ?_); go_must (rintro e1 Y1 ⟨rfl, hb1⟩; have HB1 : Hid (Below w.heap.size w Y1) := Lib.hid (HX0.out.trans (hb1.mono HX0.out.size)); have HX1 : Hid (Below X.heap.size X Y1) := Lib.hid ((below_of_alloc _).trans (hb1.mono (below_of_alloc (X := X) _).size)); clear hb1))
        go_region_held3 (fun Y : World => Y.cell? ⟨gl, 0, none⟩ = some (.slice (some ⟨b, o, none⟩) n c) ∧ Y.cell? ⟨Y1.heap.size, 0, none⟩ = some (.string q.1.con)) (first | exact HSo.out _ _ HB2.out HG2.out | exact HSo.out _ _ (by (repeat (first | exact HB1.out | refine below_more ?_ _ | refine below_drew ?_ | refine below_drewN ?_ _))) (by (repeat (first | exact Blk.new _ _ _ | refine Blk.alloc ?_ _ | refine Blk.drew ?_ | refine Blk.drewN ?_ _)))) ((go_at_call 75; (with_reducible refine (HN.out _ _ _ (by (repeat (first | exact HB1.out | refine below_more ?_ _ | refine below_drew ?_ | refine below_drewN ?_ _))) (by (repeat (first | exact Blk.new _ _ _ | refine Blk.alloc ?_ _ | refine Blk.drew ?_ | refine Blk.drewN ?_ _))) (by (repeat (first | exact Blk.new' (by first | rfl | (simp; done)) | refine Blk.drew ?_ | refine Blk.drewN ?_ _)))).mono ?_); rintro e2 Y2 ⟨rfl, hb2⟩; have HB2 : Hid (Below w.heap.size w Y2) := Lib.hid (Below.trans (by (repeat (first | exact HB1.out | refine below_more ?_ _ | refine below_drew ?_ | refine below_drewN ?_ _))) (hb2.mono (Below.size (w := w) (B := w.heap.size) (by (repeat (first | exact HB1.out | refine below_more ?_ _ | refine below_drew ?_ | refine below_drewN ?_ _)))))); have HX2 : Hid (Below X.heap.size X Y2) := Lib.hid (Below.trans (by (repeat (first | exact HX1.out | refine below_more ?_ _ | refine below_drew ?_ | refine below_drewN ?_ _))) (hb2.mono (Below.size (w := X) (B := X.heap.size) (by (repeat (first | exact HX1.out | refine below_more ?_ _ | refine below_drew ?_ | refine below_drewN ?_ _)))))); have HG2 : Hid (Blk Y2 Y1.heap.size 9 #[.string q.1.con]) := Lib.hid (Blk.after (by (repeat (first | exact Blk.new _ _ _ | refine Blk.alloc ?_ _ | refine Blk.drew ?_ | refine Blk.drewN ?_ _))) hb2); clear hb2))
        all_goals (
          have y1 := HIn.out _ HB2.out
          go_wp2_with (first | (go_at_call 53; (with_reducible refine (parts_wher _ 6 k 0 0 rfl (by decide)).mono ?_); go_must (rintro e3 Y3 ⟨cW, rfl, hw3, hb3⟩; have HWC : Hid (∀ Z, Below Y3.heap.size Y3 Z → Calls Tryz.prog 97 (#[.int .i64 64] ++ cW) Z (Ret Z (faV (partF 6 k 0 64)))) := Lib.hid fun Z hZ => hw3.call Z hZ 64 (by decide); have HW3 := Lib.hid hw3; have HB3 := Lib.hid (HB2.out.trans (hb3.mono HB2.out.size)); have HX3 := Lib.hid (HX2.out.trans (hb3.mono HX2.out.size)); clear hb3 hw3)) | (go_at_call 76; (with_reducible refine (HE.out _ _ HB3.out HW3.out).mono ?_); go_must (rintro e4 Y4 ⟨rfl, hb4⟩; have HX4 := Lib.hid (HX3.out.trans (hb4.mono HX3.out.size)); clear hb4)))
          exact ⟨rfl, rfl, HX4.out⟩)
  · have d1 : (e == 0) = false := beq_eq_false_iff_ne.2 he
    have HR : Hid (rowO 6 5 l k q = .ret e) := Lib.hid (by rw [HR0.out, if_neg he])
    rw [HR.out]
    clear he HE0
    go_enter Tryz.func73, Tryz.ntmps73
    go_upto_region 3 with (go_at_call 25; (with_reducible refine (open_te _ q).mono ?_); go_must (rintro e1 Y1 ⟨rfl, hb1⟩; have HB1 : Hid (Below w.heap.size w Y1) := Lib.hid (HX0.out.trans (hb1.mono HX0.out.size)); have HX1 : Hid (Below X.heap.size X Y1) := Lib.hid ((below_of_alloc _).trans (hb1.mono (below_of_alloc (X := X) _).size)); clear hb1))
    go_region_held3 (fun Y : World => Y.cell? ⟨gl, 0, none⟩ = some (.slice (some ⟨b, o, none⟩) n c) ∧ Y.cell? ⟨Y1.heap.size, 0, none⟩ = some (.string q.1.con)) (first | exact HSo.out _ _ HB2.out HG2.out | exact HSo.out _ _ (by (repeat (first | exact HB1.out | refine below_more ?_ _ | refine below_drew ?_ | refine below_drewN ?_ _))) (by (repeat (first | exact Blk.new _ _ _ | refine Blk.alloc ?_ _ | refine Blk.drew ?_ | refine Blk.drewN ?_ _)))) ((go_at_call 75; (with_reducible refine (HN.out _ _ _ (by (repeat (first | exact HB1.out | refine below_more ?_ _ | refine below_drew ?_ | refine below_drewN ?_ _))) (by (repeat (first | exact Blk.new _ _ _ | refine Blk.alloc ?_ _ | refine Blk.drew ?_ | refine Blk.drewN ?_ _))) (by (repeat (first | exact Blk.new' (by first | rfl | (simp; done)) | refine Blk.drew ?_ | refine Blk.drewN ?_ _)))).mono ?_); rintro e2 Y2 ⟨rfl, hb2⟩; have HB2 : Hid (Below w.heap.size w Y2) := Lib.hid (Below.trans (by (repeat (first | exact HB1.out | refine below_more ?_ _ | refine below_drew ?_ | refine below_drewN ?_ _))) (hb2.mono (Below.size (w := w) (B := w.heap.size) (by (repeat (first | exact HB1.out | refine below_more ?_ _ | refine below_drew ?_ | refine below_drewN ?_ _)))))); have HX2 : Hid (Below X.heap.size X Y2) := Lib.hid (Below.trans (by (repeat (first | exact HX1.out | refine below_more ?_ _ | refine below_drew ?_ | refine below_drewN ?_ _))) (hb2.mono (Below.size (w := X) (B := X.heap.size) (by (repeat (first | exact HX1.out | refine below_more ?_ _ | refine below_drew ?_ | refine below_drewN ?_ _)))))); have HG2 : Hid (Blk Y2 Y1.heap.size 9 #[.string q.1.con]) := Lib.hid (Blk.after (by (repeat (first | exact Blk.new _ _ _ | refine Blk.alloc ?_ _ | refine Blk.drew ?_ | refine Blk.drewN ?_ _))) hb2); clear hb2))
    all_goals (
      go_wp2_with fail
      go_ret
      exact ⟨rfl, HX2.out⟩)
end Go.Proofs.YtilemieknfdjnaaGreat
namespace Go.Proofs.YtilemieknfdjnaaGreat
open Go Go.RowKit Go.Sort
set_option linter.unusedVariables false
/-- numbers in own memory -/
def OwnI (w : World) (B : Nat) (v : Value) (l : List Int) : Prop := w.ownsRow B 3 1 v l.length (intCells l)
theorem OwnI.after {w w' : World} {B : Nat} {v : Value} {l : List Int} (h : OwnI w B v l) (hb : Below w.heap.size w w') : OwnI w' B v l := own_after h hb
theorem OwnI.alloc {w : World} {B : Nat} {v : Value} {l : List Int} (h : OwnI w B v l) (o : Obj) : OwnI (w.alloc o) B v l := World.ownsRow.alloc h o
theorem own_someI {w : World} {B n c : Nat} {A : Option Addr} {l : List Int} (h : OwnI w B (.slice A n c) l) (hl : l.length = n) (hn : 0 < n) : ∃ g, A = some ⟨g, 0, none⟩ ∧ n ≤ c ∧ c ≤ maxLen := by
  subst hl
  have hr := own_row h
  rcases h.2 with ⟨hv, h0⟩ | ⟨g, cap, cur, hv, _⟩
  · omega
  · injection hv with h1; exact ⟨g, h1, hr.2.1, hr.2.2.1⟩
theorem own_atI {w : World} {B n c g a : Nat} {l : List Int} {y : Int} (h : OwnI w B (.slice (some ⟨g, 0, none⟩) n c) l) (hl : l.length = n) (hy : l[a]? = some y) : w.cell? ⟨g, a, none⟩ = some (.int .i64 y) := by
  subst hl
  have hk := (List.getElem?_eq_some_iff.1 hy).1
  have := World.ownsRow.cellAt h (a * 1) (by omega)
  rw [Nat.mul_one] at this
  rw [this]
  exact intCells_get hy
theorem own_takeI {w : World} {B n c g a : Nat} {l m : List Int} (h : OwnI w B (.slice (some ⟨g, 0, none⟩) n c) l) (hl : l.length = n) (ha : a ≤ n) (hm : l.take a = m) (hma : m.length = a) : OwnI w B (.slice (some ⟨g, 0, none⟩) a c) m := by
  subst hl
  subst hm
  unfold OwnI
  rw [hma]
  rcases h.2 with ⟨hv, _⟩ | ⟨g', cap, cur, hv, hb, hg, h1, h2, h3, h4⟩
  · simp at hv
  · injection hv with e1 e2 e3
    subst e3
    injection e1 with e1; injection e1 with e1; subst e1
    refine ⟨by rw [intCells_length]; omega, .inr ⟨g, c, cur, rfl, hb, hg, by omega, h2, h3, ?_⟩⟩
    rw [Nat.mul_one] at h4 ⊢
    have : cur.toList.take a = (cur.toList.take l.length).take a := by rw [List.take_take]; congr 1; omega
    rw [this, h4]
    simp [intCells, List.map_take]
end Go.Proofs.YtilemieknfdjnaaGreat
namespace Go.Proofs.YtilemieknfdjnaaGreat
open Go Go.Proofs Go.RowKit Go.Shelf
attribute [local go_sem] Oper.semAt_some
set_option linter.unusedVariables false
/-- what a round of the loop's body must keep: all below n₀, and the box in which the slice lies (the closure reads it in every round) -/
def KpB (n₀ Bs : Nat) (W W' : World) : Prop := Below n₀ W W' ∧ ∀ v, W.cell? ⟨Bs, 0, none⟩ = some v → W'.cell? ⟨Bs, 0, none⟩ = some v
theorem KpB.refl (n₀ Bs : Nat) (W : World) : KpB n₀ Bs W W := ⟨Below.refl _ _, fun _ h => h⟩
theorem KpB.trans {n₀ Bs : Nat} {A B C : World} (h : KpB n₀ Bs A B) (h' : KpB n₀ Bs B C) : KpB n₀ Bs A C := ⟨h.1.trans h'.1, fun v hv => h'.2 v (h.2 v hv)⟩
theorem kpB_b {n₀ Bs : Nat} {w : World} (hn : n₀ ≤ w.heap.size) (W : World) (l : Nat) (o o' : Obj) (hl : w.heap.size ≤ l) (ho : W.heap[l]? = some o) (hc : o.isCells = false) (hw : o.isWalk = false) : KpB n₀ Bs W (W.putObj l o') :=
  ⟨belowK_b hn W l o o' hl ho hc hw, fun v hv => cell_kept hv (grownBy_putObj' W l o') (fun r e => by cases e; exact ⟨o, ho, hc⟩)⟩
/-- what has come when so many rounds are over -/
def comes {α : Type} (f : Nat → α) (k : Nat) : List α := (List.range k).map f
theorem comes_succ {α : Type} (f : Nat → α) (k : Nat) : comes f (k + 1) = comes f k ++ [f k] := by simp [comes, List.range_succ]
theorem comes_length {α : Type} (f : Nat → α) (k : Nat) : (comes f k).length = k := by simp [comes]
/-- the j-th from the end, with its number -/
def fromEnd (zs : List Int) (len : Nat) (j : Nat) : Nat × Int := (len - j - 1, zs[len - j - 1]?.getD 0)
set_option maxRecDepth 100000 in
set_option maxHeartbeats 2000000 in
theorem back1_in (F : Fence) (n : Nat) (h8 : F.fn 144) (hro : F.round = none) (hn : 1 ≤ n) (l Bs n₀ b off len cap : Nat) (zs : List Int) (hreach : len * 8 ≤ 140737488355328) (hb : b < n₀) (J Jx : List (Nat × Int) → World → Prop)
    (hY : ∀ pre x W, J pre W → pre.length < len → YieldAt F (n - 1) Tryz.prog l #[.int .i64 (x.1 : Int), .int .i64 x.2] W fun e W' =>
      (e = .returned (.bool true) ∧ J (pre ++ [x]) W' ∧ KpB n₀ Bs W W') ∨ (e = .returned (.bool false) ∧ Jx (pre ++ [x]) W'))
    (W : World) (hBs : W.cell? ⟨Bs, 0, none⟩ = some (.slice (some ⟨b, off, none⟩) len cap)) (hc : ∀ j, j < len → W.cell? ⟨b, off + j, none⟩ = some (.int .i64 (zs[j]?.getD 0))) (h0 : J [] W) :
    CallsIn F n Tryz.prog 144 #[.func (.yield l) #[] #[], .pointer (some ⟨Bs, 0, none⟩)] W fun e W' => (∃ v, e = .returned v) ∧
      ((∃ ys, ys = comes (fromEnd zs len) len ∧ J ys W') ∨ (∃ pre, (∃ k, k ≤ len ∧ pre = comes (fromEnd zs len) k) ∧ Jx pre W')) := by
  refine callsIn_of_wp Tryz.func144 rfl h8 ?_ hro
  simp only [Tryz.ntmps144, List.size_toArray, List.length_cons, List.length_nil, Nat.reduceAdd, Nat.reduceSub, Array.replicate_succ, Array.replicate_zero, List.push_toArray, List.append_toArray, List.nil_append, List.cons_append]
  gi_wp2
  gi_loopw [3] (fun i wr => ∃ k : Nat, k ≤ len ∧ i = .int .i64 ((len : Int) - (k : Int) - 1) ∧ J (comes (fromEnd zs len) k) wr ∧ KpB n₀ Bs W wr)
    (fun i _ => (intOf i + 1).toNat)
  case atStart => exact ⟨0, Nat.zero_le _, by simp, h0, KpB.refl _ _ _⟩
  case round =>
    obtain ⟨k, hk, rfl, hJs, hnx⟩ := hrel
    have hbs : wr.cell? ⟨Bs, 0, none⟩ = some (.slice (some ⟨b, off, none⟩) len cap) := hnx.2 _ hBs
    by_cases hlt : k < len
    · obtain ⟨m, hm⟩ : ∃ m : Nat, m = len - k - 1 := ⟨_, rfl⟩
      have hmi : (len : Int) - (k : Int) - 1 = (m : Int) := by omega
      have hml : m < len := by omega
      rw [hmi]
      have hcx : wr.cell? ⟨b, off + m, none⟩ = some (.int .i64 (zs[m]?.getD 0)) := (hnx.1.cell (p := ⟨b, off + m, none⟩) hb).trans (hc m hml)
      obtain ⟨fn, tmps, assign, body, hy, hR⟩ := hY _ (m, zs[m]?.getD 0) wr hJs (by rw [comes_length]; exact hlt)
      dsimp only at hy
      have hfk : fromEnd zs len k = (m, zs[m]?.getD 0) := by unfold fromEnd; rw [← hm]
      rw [← hfk, ← comes_succ] at hR
      have HM := Lib.hid hm
      clear hmi hm
      gi_wp2
      refine hR.mono ?_
      rintro e W3 (⟨rfl, hJ3, hk3⟩ | ⟨rfl, hJx3⟩)
      · gi_wp2
        go_roundw
        case rel => exact ⟨k + 1, by omega, by have := HM.out; congr 1; omega, hJ3, hnx.trans hk3⟩
        case measure => have := HM.out; simp [intOf] <;> omega
      · gi_wp2
        refine bodyPost_ret (results_none rfl _ _ _) rfl ?_
        exact ⟨⟨_, rfl⟩, .inr ⟨_, ⟨k + 1, by omega, rfl⟩, hJx3⟩⟩
    · obtain rfl : k = len := by omega
      gi_wp2
      go_end0
      exact ⟨⟨_, rfl⟩, .inl ⟨_, rfl, hJs⟩⟩
set_option maxRecDepth 100000 in
set_option maxHeartbeats 1000000 in
theorem back1_nil_in (F : Fence) (n : Nat) (h8 : F.fn 144) (hro : F.round = none) (l Bs : Nat) (J : List (Nat × Int) → World → Prop) (W : World) (a : Option Addr) (cap : Nat) (hBs : W.cell? ⟨Bs, 0, none⟩ = some (.slice a 0 cap)) (h0 : J [] W) :
    CallsIn F n Tryz.prog 144 #[.func (.yield l) #[] #[], .pointer (some ⟨Bs, 0, none⟩)] W fun e W' => (∃ v, e = .returned v) ∧ J [] W' := by
  refine callsIn_of_wp Tryz.func144 rfl h8 ?_ hro
  simp only [Tryz.ntmps144, List.size_toArray, List.length_cons, List.length_nil, Nat.reduceAdd, Nat.reduceSub, Array.replicate_succ, Array.replicate_zero, List.push_toArray, List.append_toArray, List.nil_append, List.cons_append]
  gi_wp2
  gi_loopw [3] (fun i wr => i = .int .i64 (-1) ∧ J [] wr) (fun _ _ => 0)
  case atStart => exact ⟨rfl, h0⟩
  case round =>
    obtain ⟨rfl, hJs⟩ := hrel
    gi_wp2
    go_end0
    exact ⟨⟨_, rfl⟩, hJs⟩
/-- the maker: a box for the slice, and the closure over it -/
theorem back_in (F : Fence) (n : Nat) (h6 : F.fn 132) (hro : F.round = none) (a : Option Addr) (len cap : Nat) (w : World) :
    CallsIn F n Tryz.prog 132 #[.slice a len cap] w fun e w' => e = .returned (.func (.func 144) #[] #[.pointer (some ⟨w.heap.size, 0, none⟩)]) ∧ w' = w.alloc (.cells #[.slice a len cap] 79) := by
  refine callsIn_of_wp Tryz.func132 rfl h6 ?_ hro
  simp only [Tryz.ntmps132, List.size_toArray, List.length_cons, List.length_nil, Nat.reduceAdd, Nat.reduceSub, Array.replicate_succ, Array.replicate_zero, List.push_toArray, List.append_toArray, List.nil_append, List.cons_append]
  gi_wp2
  go_ret
  exact ⟨rfl, rfl⟩
/-- the slice's numbers in memory below n₀, or none -/
def IntsAt (n₀ : Nat) (W : World) (sv : Value) (zs : List Int) : Prop :=
  (∃ a cap, sv = .slice a 0 cap ∧ zs = []) ∨ ∃ b off cap, sv = .slice (some ⟨b, off, none⟩) zs.length cap ∧ b < n₀ ∧ ∀ j, j < zs.length → W.cell? ⟨b, off + j, none⟩ = some (.int .i64 (zs[j]?.getD 0))
theorem IntsAt.below {n₀ : Nat} {A B : World} {sv : Value} {zs : List Int} (h : IntsAt n₀ A sv zs) (hb : Below n₀ A B) : IntsAt n₀ B sv zs := by
  rcases h with h | ⟨b, off, cap, h1, h2, h3⟩
  · exact .inl h
  · exact .inr ⟨b, off, cap, h1, h2, fun j hj => (hb.cell (p := ⟨b, off + j, none⟩) h2).trans (h3 j hj)⟩
theorem back_stops (F : Fence) (n : Nat) (h8 : F.fn 144) (hro : F.round = none) (hn : 1 ≤ n) (Bs n₀ : Nat) (sv : Value) (zs : List Int) (hreach : zs.length * 8 ≤ 140737488355328) (w : World) (hBs : Bs < w.heap.size) (hn₀ : n₀ ≤ w.heap.size)
    (hc : w.cell? ⟨Bs, 0, none⟩ = some sv) (hI : IntsAt n₀ w sv zs) :
    SeqStopsK F n Tryz.prog 144 #[.pointer (some ⟨Bs, 0, none⟩)] (fun x : Nat × Int => #[Value.int .i64 (x.1 : Int), Value.int .i64 x.2]) (KpB n₀ Bs) (fun ys => ys = comes (fromEnd zs zs.length) zs.length)
      (fun pre => ∃ k, k ≤ zs.length ∧ pre = comes (fromEnd zs zs.length) k) zs.length w := fun l J Jx W hW _ _ hY h0 => by
  have hc' := (hW.cell (p := ⟨Bs, 0, none⟩) hBs).trans hc
  rcases hI.below (hW.mono hn₀) with ⟨a, cap, rfl, rfl⟩ | ⟨b, off, cap, rfl, hb, hcs⟩
  · refine (back1_nil_in F n h8 hro l Bs J W a cap hc' h0).mono ?_
    rintro e W' ⟨hv, hJ⟩
    exact ⟨hv, .inl ⟨[], rfl, hJ⟩⟩
  · exact back1_in F n h8 hro hn l Bs n₀ b off zs.length cap zs hreach hb J Jx hY W hc' hcs h0
end Go.Proofs.YtilemieknfdjnaaGreat

/-
  WALKS: the checks of concepts, equations, editors, templates, and of a definition's own.
-/
import Derived.Test.YtilemieknfdjnaaGreatZ13
namespace Go.Proofs.YtilemieknfdjnaaGreat
open Go Go.RowKit Go.Sort
set_option linter.unusedVariables false
attribute [local go_sem ↓] Go.wp_at_zero Go.wp_at_succ
theorem elements_wher (w : World) (i : Int) : Calls Tryz.prog 41 #[.int .i64 i] w (fun e w' => ∃ cW, e = .returned (.func (.func 87) #[] cW) ∧ Wher w' 87 cW (elemF i) ∧ Below w.heap.size w w') :=
  (elements_any w i).mono fun e w' ⟨h, b1, hb⟩ => ⟨_, h, wher_elem b1, hb⟩
def ownV (nm : ByteArray) (ver : Int) : Option Fa := if nmB nm then (if ver < 1 then some ⟨0, 1, 0, 2⟩ else none) else some ⟨0, 0, 0, 2⟩
set_option maxRecDepth 20000 in
set_option maxHeartbeats 1600000 in
theorem check_own (w : World) (nm : ByteArray) (ver : Int) (v2 v3 v4 v5 v6 v7 : Value) :
    Calls Tryz.prog 17 #[.agg #[.string nm, .int .i64 ver, v2, v3, v4, v5, v6, v7]] w (Comes' w (ownV nm ver)) := by
  have HB0 : Hid (Below w.heap.size w (w.alloc (.cells #[.string nm, .int .i64 ver, v2, v3, v4, v5, v6, v7] 29))) := Lib.hid (below_of_alloc _)
  have HX0 : Hid (Blk (w.alloc (.cells #[.string nm, .int .i64 ver, v2, v3, v4, v5, v6, v7] 29)) w.heap.size 29 #[.string nm, .int .i64 ver, v2, v3, v4, v5, v6, v7]) := Lib.hid (Blk.new _ _ _)
  cases hd : nmB nm with
  | false =>
    have HD : Hid (nameL nm.data.toList = false) := Lib.hid hd
    have HR : Hid (ownV nm ver = some ⟨0, 0, 0, 2⟩) := Lib.hid (by unfold ownV; rw [hd]; rfl)
    rw [HR.out]
    clear hd
    go_enter Tryz.func17, Tryz.ntmps17
    go_wp2_with (first | (go_at_call 41; (with_reducible refine (elements_wher _ 0).mono ?_); go_must (rintro e1 Y1 ⟨cW, rfl, hw1, hb1⟩; have HW : Hid (∀ Z, Below Y1.heap.size Y1 Z → Calls Tryz.prog 87 (#[.int .i64 0] ++ cW) Z (Ret Z (faV (elemF 0 0)))) := Lib.hid fun Z hZ => hw1.call Z hZ 0 (by decide); have HW' : Hid (∀ Z, Below Y1.heap.size Y1 Z → Calls Tryz.prog 87 (#[.int .i64 1] ++ cW) Z (Ret Z (faV (elemF 0 1)))) := Lib.hid fun Z hZ => hw1.call Z hZ 1 (by decide); have hen1 := hw1.enters; have HB1 := Lib.hid (HB0.out.trans (hb1.mono HB0.out.size)); have hx1 := HX0.out.after hb1; have y0 := (hx1.cell 0).trans (show _ = some (.string nm) from rfl); have y1 := (hx1.cell 1).trans (show _ = some (.int .i64 ver) from rfl); clear hb1 hw1 hx1)) | (go_at_call 42; (with_reducible refine (nRight_any _ _).mono ?_); go_must (rintro e2 Y2 ⟨rfl, rfl⟩; rw [HD.out])) | (go_at_call 87; (with_reducible refine (HW.out _ (Below.refl _ _)).mono ?_); go_must (rintro e3 Y3 ⟨rfl, hb3⟩; have HB3 := Lib.hid (HB1.out.trans (hb3.mono HB1.out.size)); clear hb3)) | (go_at_call 87; (with_reducible refine (HW'.out _ (Below.refl _ _)).mono ?_); go_must (rintro e3 Y3 ⟨rfl, hb3⟩; have HB3 := Lib.hid (HB1.out.trans (hb3.mono HB1.out.size)); clear hb3)) | (go_at_call 43; (with_reducible refine (throw_any _ _ _).mono ?_); go_must (rintro e4 Y4 ⟨rfl, hb4⟩; have HB4 := Lib.hid (HB3.out.trans (hb4.mono HB3.out.size)); clear hb4)))
    exact ⟨rfl, rfl, HB4.out⟩
  | true =>
    have HD : Hid (nameL nm.data.toList = true) := Lib.hid hd
    by_cases hv : ver < 1
    · have HR : Hid (ownV nm ver = some ⟨0, 1, 0, 2⟩) := Lib.hid (by unfold ownV; rw [hd, if_pos rfl, if_pos hv])
      rw [HR.out]
      clear hd
      go_enter Tryz.func17, Tryz.ntmps17
      go_wp2_with (first | (go_at_call 41; (with_reducible refine (elements_wher _ 0).mono ?_); go_must (rintro e1 Y1 ⟨cW, rfl, hw1, hb1⟩; have HW : Hid (∀ Z, Below Y1.heap.size Y1 Z → Calls Tryz.prog 87 (#[.int .i64 0] ++ cW) Z (Ret Z (faV (elemF 0 0)))) := Lib.hid fun Z hZ => hw1.call Z hZ 0 (by decide); have HW' : Hid (∀ Z, Below Y1.heap.size Y1 Z → Calls Tryz.prog 87 (#[.int .i64 1] ++ cW) Z (Ret Z (faV (elemF 0 1)))) := Lib.hid fun Z hZ => hw1.call Z hZ 1 (by decide); have hen1 := hw1.enters; have HB1 := Lib.hid (HB0.out.trans (hb1.mono HB0.out.size)); have hx1 := HX0.out.after hb1; have y0 := (hx1.cell 0).trans (show _ = some (.string nm) from rfl); have y1 := (hx1.cell 1).trans (show _ = some (.int .i64 ver) from rfl); clear hb1 hw1 hx1)) | (go_at_call 42; (with_reducible refine (nRight_any _ _).mono ?_); go_must (rintro e2 Y2 ⟨rfl, rfl⟩; rw [HD.out])) | (go_at_call 87; (with_reducible refine (HW.out _ (Below.refl _ _)).mono ?_); go_must (rintro e3 Y3 ⟨rfl, hb3⟩; have HB3 := Lib.hid (HB1.out.trans (hb3.mono HB1.out.size)); clear hb3)) | (go_at_call 87; (with_reducible refine (HW'.out _ (Below.refl _ _)).mono ?_); go_must (rintro e3 Y3 ⟨rfl, hb3⟩; have HB3 := Lib.hid (HB1.out.trans (hb3.mono HB1.out.size)); clear hb3)) | (go_at_call 43; (with_reducible refine (throw_any _ _ _).mono ?_); go_must (rintro e4 Y4 ⟨rfl, hb4⟩; have HB4 := Lib.hid (HB3.out.trans (hb4.mono HB3.out.size)); clear hb4)))
      exact ⟨rfl, rfl, HB4.out⟩
    · have HR : Hid (ownV nm ver = none) := Lib.hid (by unfold ownV; rw [hd, if_pos rfl, if_neg hv])
      rw [HR.out]
      clear hd
      go_enter Tryz.func17, Tryz.ntmps17
      go_wp2_with (first | (go_at_call 41; (with_reducible refine (elements_wher _ 0).mono ?_); go_must (rintro e1 Y1 ⟨cW, rfl, hw1, hb1⟩; have HW : Hid (∀ Z, Below Y1.heap.size Y1 Z → Calls Tryz.prog 87 (#[.int .i64 0] ++ cW) Z (Ret Z (faV (elemF 0 0)))) := Lib.hid fun Z hZ => hw1.call Z hZ 0 (by decide); have HW' : Hid (∀ Z, Below Y1.heap.size Y1 Z → Calls Tryz.prog 87 (#[.int .i64 1] ++ cW) Z (Ret Z (faV (elemF 0 1)))) := Lib.hid fun Z hZ => hw1.call Z hZ 1 (by decide); have hen1 := hw1.enters; have HB1 := Lib.hid (HB0.out.trans (hb1.mono HB0.out.size)); have hx1 := HX0.out.after hb1; have y0 := (hx1.cell 0).trans (show _ = some (.string nm) from rfl); have y1 := (hx1.cell 1).trans (show _ = some (.int .i64 ver) from rfl); clear hb1 hw1 hx1)) | (go_at_call 42; (with_reducible refine (nRight_any _ _).mono ?_); go_must (rintro e2 Y2 ⟨rfl, rfl⟩; rw [HD.out])) | (go_at_call 87; (with_reducible refine (HW.out _ (Below.refl _ _)).mono ?_); go_must (rintro e3 Y3 ⟨rfl, hb3⟩; have HB3 := Lib.hid (HB1.out.trans (hb3.mono HB1.out.size)); clear hb3)) | (go_at_call 87; (with_reducible refine (HW'.out _ (Below.refl _ _)).mono ?_); go_must (rintro e3 Y3 ⟨rfl, hb3⟩; have HB3 := Lib.hid (HB1.out.trans (hb3.mono HB1.out.size)); clear hb3)) | (go_at_call 43; (with_reducible refine (throw_any _ _ _).mono ?_); go_must (rintro e4 Y4 ⟨rfl, hb4⟩; have HB4 := Lib.hid (HB3.out.trans (hb4.mono HB3.out.size)); clear hb4)))
      (try simp only [Exit.inBlock, Exit.then])
      refine bodyPost_end (results_none (by kernel_rfl) _ _ _) rfl ?_
      exact ⟨rfl, HB1.out⟩
set_option maxRecDepth 20000 in
set_option maxHeartbeats 1600000 in
theorem check_eq (w : World) (hi : Nat) (A : Option Addr) (n c : Nat) (l : List EqM) (h : Row w 0 hi 3 A n c (l.flatMap eqC)) (hh : hi ≤ w.heap.size) (hall : ∀ g ∈ l, EqIn w 0 hi g ∧ (∀ x ∈ g.ls, x.1.args.length ≤ 268435456) ∧ ∀ x ∈ g.rs, x.1.args.length ≤ 268435456) :
    Calls Tryz.prog 21 #[.slice A n c] w (Comes' w (eachV 256 (elemF 4) eqO 0 l)) := by
  have HE : Hid (∀ Y cW, Below w.heap.size w Y → Wher Y 87 cW (elemF 4) → Calls Tryz.prog 60 #[.slice A n c, .int .i64 256, .func (.func 87) #[] cW, .func (.func 61) #[] #[]] Y (Comes' Y (eachV 256 (elemF 4) eqO 0 l))) :=
    Lib.hid fun Y cW hY hW => each_eq Y hi A n c l (Row.below h (hY.mono hh)) (Nat.le_trans hh hY.size) 256 (by decide) _ _ _ _ _ _ hW
      ⟨enters_of Tryz.func61 (by kernel_rfl) rfl, fun X hX k q hq => by
        have := hall q (List.mem_of_getElem? hq)
        exact one_eq Y X hi (Nat.le_trans hh hY.size) hX k q (eqK.below this.1 (hY.mono hh)) this.2⟩
  clear h hall
  cases hv : eachV 256 (elemF 4) eqO 0 l with
  | none =>
    rw [hv] at HE
    go_enter Tryz.func21, Tryz.ntmps21
    go_wp2_with (first | (go_at_call 41; (with_reducible refine (elements_wher _ 4).mono ?_); go_must (rintro e1 Y1 ⟨cW, rfl, hw1, hb1⟩; have HW1 := Lib.hid hw1; have HB1 := Lib.hid hb1; clear hb1 hw1)) | (go_at_call 60; (with_reducible refine (HE.out _ _ HB1.out HW1.out).mono ?_); go_must (rintro e2 Y2 ⟨rfl, hb2⟩; have HB2 : Hid (Below w.heap.size w Y2) := Lib.hid (HB1.out.trans (hb2.mono HB1.out.size)); clear hb2)))
    (try simp only [Exit.inBlock, Exit.then])
    refine bodyPost_end (results_none (by kernel_rfl) _ _ _) rfl ?_
    exact ⟨rfl, HB2.out⟩
  | some f =>
    rw [hv] at HE
    go_enter Tryz.func21, Tryz.ntmps21
    go_wp2_with (first | (go_at_call 41; (with_reducible refine (elements_wher _ 4).mono ?_); go_must (rintro e1 Y1 ⟨cW, rfl, hw1, hb1⟩; have HW1 := Lib.hid hw1; have HB1 := Lib.hid hb1; clear hb1 hw1)) | (go_at_call 60; (with_reducible refine (HE.out _ _ HB1.out HW1.out).mono ?_); go_must (rintro e2 Y2 ⟨rfl, hb2⟩; have HB2 : Hid (Below w.heap.size w Y2) := Lib.hid (HB1.out.trans (hb2.mono HB1.out.size)); clear hb2)))
    exact ⟨rfl, rfl, HB2.out⟩
set_option maxRecDepth 20000 in
set_option maxHeartbeats 1600000 in
theorem check_ed (w : World) (hi : Nat) (A : Option Addr) (n c : Nat) (l : List (RowD × Sl)) (h : Row w 0 hi 2 A n c (l.flatMap rowC)) (hh : hi ≤ w.heap.size) (hall : ∀ g ∈ l, RowIn w 0 hi g ∧ ∀ x ∈ g.1.cells, CellFit x) :
    Calls Tryz.prog 22 #[.int .i64 5, .int .i64 6, .slice A n c, .func (.func 23) #[] #[]] w (Comes' w (eachV 256 (elemF 5) (rowO 5 6 l) 0 l)) := by
  have HE : Hid (∀ Y cW, Below w.heap.size w Y → (Blk Y (w.heap.size) 3 #[.int .i64 5] ∧ Blk Y (w.heap.size + 1) 3 #[.int .i64 6] ∧ Blk Y (w.heap.size + 1 + 1) 26 #[.slice A n c] ∧ Blk Y (w.heap.size + 1 + 1 + 1) 75 #[.func (.func 23) #[] #[]]) → Wher Y 87 cW (elemF 5) → Calls Tryz.prog 65 #[.slice A n c, .int .i64 256, .func (.func 87) #[] cW, .func (.func 66) #[] #[.pointer (some ⟨w.heap.size + 1 + 1 + 1, 0, none⟩), .pointer (some ⟨w.heap.size + 1 + 1, 0, none⟩), .pointer (some ⟨w.heap.size, 0, none⟩), .pointer (some ⟨w.heap.size + 1, 0, none⟩)]] Y (Comes' Y (eachV 256 (elemF 5) (rowO 5 6 l) 0 l))) :=
    Lib.hid fun Y cW hY hb hW => each_ed Y hi A n c l (Row.below h (hY.mono hh)) (Nat.le_trans hh hY.size) 256 (by decide) _ _ _ _ _ _ hW
      ⟨enters_of Tryz.func66 (by kernel_rfl) rfl, fun X hX k q hq => rowone_ed Y X hi A n c l (Row.below h (hY.mono hh)) (Nat.le_trans hh hY.size) (fun g hg => ⟨rowK.below (hall g hg).1 (hY.mono hh), (hall g hg).2⟩) _ _ _ _ hb.2.2.2 hb.2.2.1 hb.1 hb.2.1 hX k q hq⟩
  have HQ : Hid (∀ Y, (Blk Y (w.heap.size) 3 #[.int .i64 5] ∧ Blk Y (w.heap.size + 1) 3 #[.int .i64 6] ∧ Blk Y (w.heap.size + 1 + 1) 26 #[.slice A n c] ∧ Blk Y (w.heap.size + 1 + 1 + 1) 75 #[.func (.func 23) #[] #[]]) → Y.cell? ⟨w.heap.size + 1 + 1, 0, none⟩ = some (.slice A n c) ∧ Y.cell? ⟨w.heap.size, 0, none⟩ = some (.int .i64 5)) := Lib.hid fun Y hb => ⟨(hb.2.2.1.cell 0).trans rfl, (hb.1.cell 0).trans rfl⟩
  have HAF : Hid (∀ Y Y', (Blk Y (w.heap.size) 3 #[.int .i64 5] ∧ Blk Y (w.heap.size + 1) 3 #[.int .i64 6] ∧ Blk Y (w.heap.size + 1 + 1) 26 #[.slice A n c] ∧ Blk Y (w.heap.size + 1 + 1 + 1) 75 #[.func (.func 23) #[] #[]]) → Below Y.heap.size Y Y' → (Blk Y' (w.heap.size) 3 #[.int .i64 5] ∧ Blk Y' (w.heap.size + 1) 3 #[.int .i64 6] ∧ Blk Y' (w.heap.size + 1 + 1) 26 #[.slice A n c] ∧ Blk Y' (w.heap.size + 1 + 1 + 1) 75 #[.func (.func 23) #[] #[]])) := Lib.hid fun Y Y' hb hb1 => ⟨(hb.1).after hb1, (hb.2.1).after hb1, (hb.2.2.1).after hb1, (hb.2.2.2).after hb1⟩
  have HX0 : Hid ((fun Y => Blk Y (w.heap.size) 3 #[.int .i64 5] ∧ Blk Y (w.heap.size + 1) 3 #[.int .i64 6] ∧ Blk Y (w.heap.size + 1 + 1) 26 #[.slice A n c] ∧ Blk Y (w.heap.size + 1 + 1 + 1) 75 #[.func (.func 23) #[] #[]]) ((((w.alloc (.cells #[.int .i64 5] 3)).alloc (.cells #[.int .i64 6] 3)).alloc (.cells #[.slice A n c] 26)).alloc (.cells #[.func (.func 23) #[] #[]] 75)).drew) := Lib.hid ⟨Blk.drew (Blk.alloc (Blk.alloc (Blk.alloc (Blk.new' (by first | rfl | (simp; done))) _) _) _), Blk.drew (Blk.alloc (Blk.alloc (Blk.new' (by first | rfl | (simp; done))) _) _), Blk.drew (Blk.alloc (Blk.new' (by first | rfl | (simp; done))) _), Blk.drew (Blk.new' (by first | rfl | (simp; done)))⟩
  clear h hall
  have hmf : ∀ (fn : Fn) (first cap : Array Value) (w : World), (Instr.makeFunc fn first cap).run Tryz.prog w = .ok (.func fn first cap) w := fun _ _ _ _ => rfl
  cases hv : eachV 256 (elemF 5) (rowO 5 6 l) 0 l with
  | none =>
    rw [hv] at HE
    go_enter Tryz.func22, Tryz.ntmps22
    go_upto_region 1 with (fail)
    have HBz : Hid (Below w.heap.size w ((((w.alloc (.cells #[.int .i64 5] 3)).alloc (.cells #[.int .i64 6] 3)).alloc (.cells #[.slice A n c] 26)).alloc (.cells #[.func (.func 23) #[] #[]] 75)).drew) := Lib.hid (below_drew (below_more (below_more (below_more (below_more (Below.refl _ _) _) _) _) _))
    have HXz : Hid ((fun Y => Blk Y (w.heap.size) 3 #[.int .i64 5] ∧ Blk Y (w.heap.size + 1) 3 #[.int .i64 6] ∧ Blk Y (w.heap.size + 1 + 1) 26 #[.slice A n c] ∧ Blk Y (w.heap.size + 1 + 1 + 1) 75 #[.func (.func 23) #[] #[]]) ((((w.alloc (.cells #[.int .i64 5] 3)).alloc (.cells #[.int .i64 6] 3)).alloc (.cells #[.slice A n c] 26)).alloc (.cells #[.func (.func 23) #[] #[]] 75)).drew) := Lib.hid HX0.out
    refine wp_region_held_tail 4 (fun Y => Y.cell? ⟨w.heap.size + 1 + 1, 0, none⟩ = some (.slice A n c) ∧ Y.cell? ⟨w.heap.size, 0, none⟩ = some (.int .i64 5)) (by kernel_rfl) (by kernel_rfl) ?hSt (fun hHeld => ?qt0)
    case hSt => exact HQ.out _ HXz.out
    case qt0 =>
      simp only [List.take_succ_cons, List.take_zero, List.drop_succ_cons, List.drop_zero]
      refine wpAnyH_take (i := 0) (v := (.slice A n c)) rfl (by kernel_rfl) (by kernel_rfl) (by kernel_rfl) (fun _ _ _ h => h) (Or.inl ⟨by rfl, ?yt_1⟩) (by assumption) ?qt_1
      case yt_1 => (intro w hSw; (try dsimp only at hSw); go_simp)
      case qt_1 =>
        (try simp only [Act.put]); (try simp only [List.setIfInBounds_toArray])
        refine wpAnyH_take (i := 1) (v := (.int .i64 5)) rfl (by kernel_rfl) (by kernel_rfl) (by kernel_rfl) (fun _ _ _ h => h) (Or.inl ⟨by rfl, ?yt_2⟩) (by assumption) ?qt_2
        case yt_2 => (intro w hSw; (try dsimp only at hSw); go_simp)
        case qt_2 =>
          (try simp only [Act.put]); (try simp only [List.setIfInBounds_toArray])
          refine wpAnyH_take (i := 3) (v := (.func (.func 66) #[] #[.pointer (some ⟨w.heap.size + 1 + 1 + 1, 0, none⟩), .pointer (some ⟨w.heap.size + 1 + 1, 0, none⟩), .pointer (some ⟨w.heap.size, 0, none⟩), .pointer (some ⟨w.heap.size + 1, 0, none⟩)])) rfl (by kernel_rfl) (by kernel_rfl) (by kernel_rfl) (fun _ _ _ h => h) (Or.inl ⟨by rfl, ?yt_3⟩) (by assumption) ?qt_3
          case yt_3 => (intro w hSw; (try dsimp only at hSw); go_simp)
          case qt_3 =>
            (try simp only [Act.put]); (try simp only [List.setIfInBounds_toArray])
            refine wpAnyH_ready (rs := [2]) (by kernel_rfl) (by simp) ?_
            refine AllReadyH.cons rfl (fun K hK => ?st_4) ?mt_4
            case st_4 =>
              (refine step_call _ (by rfl) 41 #[.int .i64 5] (by go_simp) (elements_wher _ 5) ?_; rintro e1 Yw ⟨cW, rfl, hw1, hb1⟩; refine ⟨_, rfl, ?_⟩; have HW1 := Lib.hid hw1; have HXz : Hid (Blk Yw (w.heap.size) 3 #[.int .i64 5] ∧ Blk Yw (w.heap.size + 1) 3 #[.int .i64 6] ∧ Blk Yw (w.heap.size + 1 + 1) 26 #[.slice A n c] ∧ Blk Yw (w.heap.size + 1 + 1 + 1) 75 #[.func (.func 23) #[] #[]]) := Lib.hid (HAF.out _ _ HXz.out hb1); have HBz := Lib.hid (HBz.out.trans (hb1.mono HBz.out.size)); clear hb1 hw1)
              refine hK.out _ _ ?kt_4 (fun hHeld => ?qt_4)
              case kt_4 => ((try dsimp only); exact HQ.out _ HXz.out)
              case qt_4 =>
                clear hK K
                (try simp only [Act.put]); (try simp only [List.setIfInBounds_toArray])
                refine wpAnyH_done (by kernel_rfl) ?_ _
                clear hHeld
                show wpList _ _ _ _ _ _
                go_wp2_with (go_at_call 65; (with_reducible refine (HE.out _ _ HBz.out HXz.out HW1.out).mono ?_); go_must (rintro e2 Y2 ⟨rfl, hb2⟩; have HB2 : Hid (Below w.heap.size w Y2) := Lib.hid (HBz.out.trans (hb2.mono HBz.out.size)); clear hb2))
                (try simp only [Exit.inBlock, Exit.then])
                refine bodyPost_end (results_none (by kernel_rfl) _ _ _) rfl ?_
                exact ⟨rfl, HB2.out⟩
            case mt_4 =>
              exact AllReadyH.nil
  | some f =>
    rw [hv] at HE
    go_enter Tryz.func22, Tryz.ntmps22
    go_upto_region 1 with (fail)
    have HBz : Hid (Below w.heap.size w ((((w.alloc (.cells #[.int .i64 5] 3)).alloc (.cells #[.int .i64 6] 3)).alloc (.cells #[.slice A n c] 26)).alloc (.cells #[.func (.func 23) #[] #[]] 75)).drew) := Lib.hid (below_drew (below_more (below_more (below_more (below_more (Below.refl _ _) _) _) _) _))
    have HXz : Hid ((fun Y => Blk Y (w.heap.size) 3 #[.int .i64 5] ∧ Blk Y (w.heap.size + 1) 3 #[.int .i64 6] ∧ Blk Y (w.heap.size + 1 + 1) 26 #[.slice A n c] ∧ Blk Y (w.heap.size + 1 + 1 + 1) 75 #[.func (.func 23) #[] #[]]) ((((w.alloc (.cells #[.int .i64 5] 3)).alloc (.cells #[.int .i64 6] 3)).alloc (.cells #[.slice A n c] 26)).alloc (.cells #[.func (.func 23) #[] #[]] 75)).drew) := Lib.hid HX0.out
    refine wp_region_held_tail 4 (fun Y => Y.cell? ⟨w.heap.size + 1 + 1, 0, none⟩ = some (.slice A n c) ∧ Y.cell? ⟨w.heap.size, 0, none⟩ = some (.int .i64 5)) (by kernel_rfl) (by kernel_rfl) ?hSu (fun hHeld => ?qu0)
    case hSu => exact HQ.out _ HXz.out
    case qu0 =>
      simp only [List.take_succ_cons, List.take_zero, List.drop_succ_cons, List.drop_zero]
      refine wpAnyH_take (i := 0) (v := (.slice A n c)) rfl (by kernel_rfl) (by kernel_rfl) (by kernel_rfl) (fun _ _ _ h => h) (Or.inl ⟨by rfl, ?yu_1⟩) (by assumption) ?qu_1
      case yu_1 => (intro w hSw; (try dsimp only at hSw); go_simp)
      case qu_1 =>
        (try simp only [Act.put]); (try simp only [List.setIfInBounds_toArray])
        refine wpAnyH_take (i := 1) (v := (.int .i64 5)) rfl (by kernel_rfl) (by kernel_rfl) (by kernel_rfl) (fun _ _ _ h => h) (Or.inl ⟨by rfl, ?yu_2⟩) (by assumption) ?qu_2
        case yu_2 => (intro w hSw; (try dsimp only at hSw); go_simp)
        case qu_2 =>
          (try simp only [Act.put]); (try simp only [List.setIfInBounds_toArray])
          refine wpAnyH_take (i := 3) (v := (.func (.func 66) #[] #[.pointer (some ⟨w.heap.size + 1 + 1 + 1, 0, none⟩), .pointer (some ⟨w.heap.size + 1 + 1, 0, none⟩), .pointer (some ⟨w.heap.size, 0, none⟩), .pointer (some ⟨w.heap.size + 1, 0, none⟩)])) rfl (by kernel_rfl) (by kernel_rfl) (by kernel_rfl) (fun _ _ _ h => h) (Or.inl ⟨by rfl, ?yu_3⟩) (by assumption) ?qu_3
          case yu_3 => (intro w hSw; (try dsimp only at hSw); go_simp)
          case qu_3 =>
            (try simp only [Act.put]); (try simp only [List.setIfInBounds_toArray])
            refine wpAnyH_ready (rs := [2]) (by kernel_rfl) (by simp) ?_
            refine AllReadyH.cons rfl (fun K hK => ?su_4) ?mu_4
            case su_4 =>
              (refine step_call _ (by rfl) 41 #[.int .i64 5] (by go_simp) (elements_wher _ 5) ?_; rintro e1 Yw ⟨cW, rfl, hw1, hb1⟩; refine ⟨_, rfl, ?_⟩; have HW1 := Lib.hid hw1; have HXz : Hid (Blk Yw (w.heap.size) 3 #[.int .i64 5] ∧ Blk Yw (w.heap.size + 1) 3 #[.int .i64 6] ∧ Blk Yw (w.heap.size + 1 + 1) 26 #[.slice A n c] ∧ Blk Yw (w.heap.size + 1 + 1 + 1) 75 #[.func (.func 23) #[] #[]]) := Lib.hid (HAF.out _ _ HXz.out hb1); have HBz := Lib.hid (HBz.out.trans (hb1.mono HBz.out.size)); clear hb1 hw1)
              refine hK.out _ _ ?ku_4 (fun hHeld => ?qu_4)
              case ku_4 => ((try dsimp only); exact HQ.out _ HXz.out)
              case qu_4 =>
                clear hK K
                (try simp only [Act.put]); (try simp only [List.setIfInBounds_toArray])
                refine wpAnyH_done (by kernel_rfl) ?_ _
                clear hHeld
                show wpList _ _ _ _ _ _
                go_wp2_with (go_at_call 65; (with_reducible refine (HE.out _ _ HBz.out HXz.out HW1.out).mono ?_); go_must (rintro e2 Y2 ⟨rfl, hb2⟩; have HB2 : Hid (Below w.heap.size w Y2) := Lib.hid (HBz.out.trans (hb2.mono HBz.out.size)); clear hb2))
                exact ⟨rfl, rfl, HB2.out⟩
            case mu_4 =>
              exact AllReadyH.nil
set_option maxRecDepth 20000 in
set_option maxHeartbeats 1600000 in
theorem check_te (w : World) (hi : Nat) (A : Option Addr) (n c : Nat) (l : List (RowD × Sl)) (h : Row w 0 hi 2 A n c (l.flatMap rowC)) (hh : hi ≤ w.heap.size) (hall : ∀ g ∈ l, RowIn w 0 hi g ∧ ∀ x ∈ g.1.cells, CellFit x) :
    Calls Tryz.prog 24 #[.int .i64 6, .int .i64 5, .slice A n c, .func (.func 25) #[] #[]] w (Comes' w (eachV 256 (elemF 6) (rowO 6 5 l) 0 l)) := by
  have HE : Hid (∀ Y cW, Below w.heap.size w Y → (Blk Y (w.heap.size) 3 #[.int .i64 6] ∧ Blk Y (w.heap.size + 1) 3 #[.int .i64 5] ∧ Blk Y (w.heap.size + 1 + 1) 27 #[.slice A n c] ∧ Blk Y (w.heap.size + 1 + 1 + 1) 78 #[.func (.func 25) #[] #[]]) → Wher Y 87 cW (elemF 6) → Calls Tryz.prog 72 #[.slice A n c, .int .i64 256, .func (.func 87) #[] cW, .func (.func 73) #[] #[.pointer (some ⟨w.heap.size + 1 + 1 + 1, 0, none⟩), .pointer (some ⟨w.heap.size + 1 + 1, 0, none⟩), .pointer (some ⟨w.heap.size, 0, none⟩), .pointer (some ⟨w.heap.size + 1, 0, none⟩)]] Y (Comes' Y (eachV 256 (elemF 6) (rowO 6 5 l) 0 l))) :=
    Lib.hid fun Y cW hY hb hW => each_te Y hi A n c l (Row.below h (hY.mono hh)) (Nat.le_trans hh hY.size) 256 (by decide) _ _ _ _ _ _ hW
      ⟨enters_of Tryz.func73 (by kernel_rfl) rfl, fun X hX k q hq => rowone_te Y X hi A n c l (Row.below h (hY.mono hh)) (Nat.le_trans hh hY.size) (fun g hg => ⟨rowK.below (hall g hg).1 (hY.mono hh), (hall g hg).2⟩) _ _ _ _ hb.2.2.2 hb.2.2.1 hb.1 hb.2.1 hX k q hq⟩
  have HQ : Hid (∀ Y, (Blk Y (w.heap.size) 3 #[.int .i64 6] ∧ Blk Y (w.heap.size + 1) 3 #[.int .i64 5] ∧ Blk Y (w.heap.size + 1 + 1) 27 #[.slice A n c] ∧ Blk Y (w.heap.size + 1 + 1 + 1) 78 #[.func (.func 25) #[] #[]]) → Y.cell? ⟨w.heap.size + 1 + 1, 0, none⟩ = some (.slice A n c) ∧ Y.cell? ⟨w.heap.size, 0, none⟩ = some (.int .i64 6)) := Lib.hid fun Y hb => ⟨(hb.2.2.1.cell 0).trans rfl, (hb.1.cell 0).trans rfl⟩
  have HAF : Hid (∀ Y Y', (Blk Y (w.heap.size) 3 #[.int .i64 6] ∧ Blk Y (w.heap.size + 1) 3 #[.int .i64 5] ∧ Blk Y (w.heap.size + 1 + 1) 27 #[.slice A n c] ∧ Blk Y (w.heap.size + 1 + 1 + 1) 78 #[.func (.func 25) #[] #[]]) → Below Y.heap.size Y Y' → (Blk Y' (w.heap.size) 3 #[.int .i64 6] ∧ Blk Y' (w.heap.size + 1) 3 #[.int .i64 5] ∧ Blk Y' (w.heap.size + 1 + 1) 27 #[.slice A n c] ∧ Blk Y' (w.heap.size + 1 + 1 + 1) 78 #[.func (.func 25) #[] #[]])) := Lib.hid fun Y Y' hb hb1 => ⟨(hb.1).after hb1, (hb.2.1).after hb1, (hb.2.2.1).after hb1, (hb.2.2.2).after hb1⟩
  have HX0 : Hid ((fun Y => Blk Y (w.heap.size) 3 #[.int .i64 6] ∧ Blk Y (w.heap.size + 1) 3 #[.int .i64 5] ∧ Blk Y (w.heap.size + 1 + 1) 27 #[.slice A n c] ∧ Blk Y (w.heap.size + 1 + 1 + 1) 78 #[.func (.func 25) #[] #[]]) ((((w.alloc (.cells #[.int .i64 6] 3)).alloc (.cells #[.int .i64 5] 3)).alloc (.cells #[.slice A n c] 27)).alloc (.cells #[.func (.func 25) #[] #[]] 78)).drew) := Lib.hid ⟨Blk.drew (Blk.alloc (Blk.alloc (Blk.alloc (Blk.new' (by first | rfl | (simp; done))) _) _) _), Blk.drew (Blk.alloc (Blk.alloc (Blk.new' (by first | rfl | (simp; done))) _) _), Blk.drew (Blk.alloc (Blk.new' (by first | rfl | (simp; done))) _), Blk.drew (Blk.new' (by first | rfl | (simp; done)))⟩
  clear h hall
  have hmf : ∀ (fn : Fn) (first cap : Array Value) (w : World), (Instr.makeFunc fn first cap).run Tryz.prog w = .ok (.func fn first cap) w := fun _ _ _ _ => rfl
  cases hv : eachV 256 (elemF 6) (rowO 6 5 l) 0 l with
  | none =>
    rw [hv] at HE
    go_enter Tryz.func24, Tryz.ntmps24
    go_upto_region 1 with (fail)
    have HBz : Hid (Below w.heap.size w ((((w.alloc (.cells #[.int .i64 6] 3)).alloc (.cells #[.int .i64 5] 3)).alloc (.cells #[.slice A n c] 27)).alloc (.cells #[.func (.func 25) #[] #[]] 78)).drew) := Lib.hid (below_drew (below_more (below_more (below_more (below_more (Below.refl _ _) _) _) _) _))
    have HXz : Hid ((fun Y => Blk Y (w.heap.size) 3 #[.int .i64 6] ∧ Blk Y (w.heap.size + 1) 3 #[.int .i64 5] ∧ Blk Y (w.heap.size + 1 + 1) 27 #[.slice A n c] ∧ Blk Y (w.heap.size + 1 + 1 + 1) 78 #[.func (.func 25) #[] #[]]) ((((w.alloc (.cells #[.int .i64 6] 3)).alloc (.cells #[.int .i64 5] 3)).alloc (.cells #[.slice A n c] 27)).alloc (.cells #[.func (.func 25) #[] #[]] 78)).drew) := Lib.hid HX0.out
    refine wp_region_held_tail 4 (fun Y => Y.cell? ⟨w.heap.size + 1 + 1, 0, none⟩ = some (.slice A n c) ∧ Y.cell? ⟨w.heap.size, 0, none⟩ = some (.int .i64 6)) (by kernel_rfl) (by kernel_rfl) ?hSt (fun hHeld => ?qt0)
    case hSt => exact HQ.out _ HXz.out
    case qt0 =>
      simp only [List.take_succ_cons, List.take_zero, List.drop_succ_cons, List.drop_zero]
      refine wpAnyH_take (i := 0) (v := (.slice A n c)) rfl (by kernel_rfl) (by kernel_rfl) (by kernel_rfl) (fun _ _ _ h => h) (Or.inl ⟨by rfl, ?yt_1⟩) (by assumption) ?qt_1
      case yt_1 => (intro w hSw; (try dsimp only at hSw); go_simp)
      case qt_1 =>
        (try simp only [Act.put]); (try simp only [List.setIfInBounds_toArray])
        refine wpAnyH_take (i := 1) (v := (.int .i64 6)) rfl (by kernel_rfl) (by kernel_rfl) (by kernel_rfl) (fun _ _ _ h => h) (Or.inl ⟨by rfl, ?yt_2⟩) (by assumption) ?qt_2
        case yt_2 => (intro w hSw; (try dsimp only at hSw); go_simp)
        case qt_2 =>
          (try simp only [Act.put]); (try simp only [List.setIfInBounds_toArray])
          refine wpAnyH_take (i := 3) (v := (.func (.func 73) #[] #[.pointer (some ⟨w.heap.size + 1 + 1 + 1, 0, none⟩), .pointer (some ⟨w.heap.size + 1 + 1, 0, none⟩), .pointer (some ⟨w.heap.size, 0, none⟩), .pointer (some ⟨w.heap.size + 1, 0, none⟩)])) rfl (by kernel_rfl) (by kernel_rfl) (by kernel_rfl) (fun _ _ _ h => h) (Or.inl ⟨by rfl, ?yt_3⟩) (by assumption) ?qt_3
          case yt_3 => (intro w hSw; (try dsimp only at hSw); go_simp)
          case qt_3 =>
            (try simp only [Act.put]); (try simp only [List.setIfInBounds_toArray])
            refine wpAnyH_ready (rs := [2]) (by kernel_rfl) (by simp) ?_
            refine AllReadyH.cons rfl (fun K hK => ?st_4) ?mt_4
            case st_4 =>
              (refine step_call _ (by rfl) 41 #[.int .i64 6] (by go_simp) (elements_wher _ 6) ?_; rintro e1 Yw ⟨cW, rfl, hw1, hb1⟩; refine ⟨_, rfl, ?_⟩; have HW1 := Lib.hid hw1; have HXz : Hid (Blk Yw (w.heap.size) 3 #[.int .i64 6] ∧ Blk Yw (w.heap.size + 1) 3 #[.int .i64 5] ∧ Blk Yw (w.heap.size + 1 + 1) 27 #[.slice A n c] ∧ Blk Yw (w.heap.size + 1 + 1 + 1) 78 #[.func (.func 25) #[] #[]]) := Lib.hid (HAF.out _ _ HXz.out hb1); have HBz := Lib.hid (HBz.out.trans (hb1.mono HBz.out.size)); clear hb1 hw1)
              refine hK.out _ _ ?kt_4 (fun hHeld => ?qt_4)
              case kt_4 => ((try dsimp only); exact HQ.out _ HXz.out)
              case qt_4 =>
                clear hK K
                (try simp only [Act.put]); (try simp only [List.setIfInBounds_toArray])
                refine wpAnyH_done (by kernel_rfl) ?_ _
                clear hHeld
                show wpList _ _ _ _ _ _
                go_wp2_with (go_at_call 72; (with_reducible refine (HE.out _ _ HBz.out HXz.out HW1.out).mono ?_); go_must (rintro e2 Y2 ⟨rfl, hb2⟩; have HB2 : Hid (Below w.heap.size w Y2) := Lib.hid (HBz.out.trans (hb2.mono HBz.out.size)); clear hb2))
                (try simp only [Exit.inBlock, Exit.then])
                refine bodyPost_end (results_none (by kernel_rfl) _ _ _) rfl ?_
                exact ⟨rfl, HB2.out⟩
            case mt_4 =>
              exact AllReadyH.nil
  | some f =>
    rw [hv] at HE
    go_enter Tryz.func24, Tryz.ntmps24
    go_upto_region 1 with (fail)
    have HBz : Hid (Below w.heap.size w ((((w.alloc (.cells #[.int .i64 6] 3)).alloc (.cells #[.int .i64 5] 3)).alloc (.cells #[.slice A n c] 27)).alloc (.cells #[.func (.func 25) #[] #[]] 78)).drew) := Lib.hid (below_drew (below_more (below_more (below_more (below_more (Below.refl _ _) _) _) _) _))
    have HXz : Hid ((fun Y => Blk Y (w.heap.size) 3 #[.int .i64 6] ∧ Blk Y (w.heap.size + 1) 3 #[.int .i64 5] ∧ Blk Y (w.heap.size + 1 + 1) 27 #[.slice A n c] ∧ Blk Y (w.heap.size + 1 + 1 + 1) 78 #[.func (.func 25) #[] #[]]) ((((w.alloc (.cells #[.int .i64 6] 3)).alloc (.cells #[.int .i64 5] 3)).alloc (.cells #[.slice A n c] 27)).alloc (.cells #[.func (.func 25) #[] #[]] 78)).drew) := Lib.hid HX0.out
    refine wp_region_held_tail 4 (fun Y => Y.cell? ⟨w.heap.size + 1 + 1, 0, none⟩ = some (.slice A n c) ∧ Y.cell? ⟨w.heap.size, 0, none⟩ = some (.int .i64 6)) (by kernel_rfl) (by kernel_rfl) ?hSu (fun hHeld => ?qu0)
    case hSu => exact HQ.out _ HXz.out
    case qu0 =>
      simp only [List.take_succ_cons, List.take_zero, List.drop_succ_cons, List.drop_zero]
      refine wpAnyH_take (i := 0) (v := (.slice A n c)) rfl (by kernel_rfl) (by kernel_rfl) (by kernel_rfl) (fun _ _ _ h => h) (Or.inl ⟨by rfl, ?yu_1⟩) (by assumption) ?qu_1
      case yu_1 => (intro w hSw; (try dsimp only at hSw); go_simp)
      case qu_1 =>
        (try simp only [Act.put]); (try simp only [List.setIfInBounds_toArray])
        refine wpAnyH_take (i := 1) (v := (.int .i64 6)) rfl (by kernel_rfl) (by kernel_rfl) (by kernel_rfl) (fun _ _ _ h => h) (Or.inl ⟨by rfl, ?yu_2⟩) (by assumption) ?qu_2
        case yu_2 => (intro w hSw; (try dsimp only at hSw); go_simp)
        case qu_2 =>
          (try simp only [Act.put]); (try simp only [List.setIfInBounds_toArray])
          refine wpAnyH_take (i := 3) (v := (.func (.func 73) #[] #[.pointer (some ⟨w.heap.size + 1 + 1 + 1, 0, none⟩), .pointer (some ⟨w.heap.size + 1 + 1, 0, none⟩), .pointer (some ⟨w.heap.size, 0, none⟩), .pointer (some ⟨w.heap.size + 1, 0, none⟩)])) rfl (by kernel_rfl) (by kernel_rfl) (by kernel_rfl) (fun _ _ _ h => h) (Or.inl ⟨by rfl, ?yu_3⟩) (by assumption) ?qu_3
          case yu_3 => (intro w hSw; (try dsimp only at hSw); go_simp)
          case qu_3 =>
            (try simp only [Act.put]); (try simp only [List.setIfInBounds_toArray])
            refine wpAnyH_ready (rs := [2]) (by kernel_rfl) (by simp) ?_
            refine AllReadyH.cons rfl (fun K hK => ?su_4) ?mu_4
            case su_4 =>
              (refine step_call _ (by rfl) 41 #[.int .i64 6] (by go_simp) (elements_wher _ 6) ?_; rintro e1 Yw ⟨cW, rfl, hw1, hb1⟩; refine ⟨_, rfl, ?_⟩; have HW1 := Lib.hid hw1; have HXz : Hid (Blk Yw (w.heap.size) 3 #[.int .i64 6] ∧ Blk Yw (w.heap.size + 1) 3 #[.int .i64 5] ∧ Blk Yw (w.heap.size + 1 + 1) 27 #[.slice A n c] ∧ Blk Yw (w.heap.size + 1 + 1 + 1) 78 #[.func (.func 25) #[] #[]]) := Lib.hid (HAF.out _ _ HXz.out hb1); have HBz := Lib.hid (HBz.out.trans (hb1.mono HBz.out.size)); clear hb1 hw1)
              refine hK.out _ _ ?ku_4 (fun hHeld => ?qu_4)
              case ku_4 => ((try dsimp only); exact HQ.out _ HXz.out)
              case qu_4 =>
                clear hK K
                (try simp only [Act.put]); (try simp only [List.setIfInBounds_toArray])
                refine wpAnyH_done (by kernel_rfl) ?_ _
                clear hHeld
                show wpList _ _ _ _ _ _
                go_wp2_with (go_at_call 72; (with_reducible refine (HE.out _ _ HBz.out HXz.out HW1.out).mono ?_); go_must (rintro e2 Y2 ⟨rfl, hb2⟩; have HB2 : Hid (Below w.heap.size w Y2) := Lib.hid (HBz.out.trans (hb2.mono HBz.out.size)); clear hb2))
                exact ⟨rfl, rfl, HB2.out⟩
            case mu_4 =>
              exact AllReadyH.nil
set_option maxRecDepth 20000 in
set_option maxHeartbeats 1600000 in
theorem check_con (w : World) (hi : Nat) (A : Option Addr) (n c : Nat) (l : List (ConD × Leaf)) (h : Row w 0 hi 6 A n c (l.flatMap conC)) (hh : hi ≤ w.heap.size) (hall : ∀ g ∈ l, ConIn w 0 hi g) :
    Calls Tryz.prog 19 #[.slice A n c] w (Comes' w (eachV 128 (elemF 2) (conO' l) 0 l)) := by
  have HE : Hid (∀ Y cW, Below w.heap.size w Y → (Blk Y (w.heap.size) 23 #[.slice A n c]) → Wher Y 87 cW (elemF 2) → Calls Tryz.prog 48 #[.slice A n c, .int .i64 128, .func (.func 87) #[] cW, .func (.func 49) #[] #[.pointer (some ⟨w.heap.size, 0, none⟩)]] Y (Comes' Y (eachV 128 (elemF 2) (conO' l) 0 l))) :=
    Lib.hid fun Y cW hY hb hW => each_con Y hi A n c l (Row.below h (hY.mono hh)) (Nat.le_trans hh hY.size) 128 (by decide) _ _ _ _ _ _ hW
      ⟨enters_of Tryz.func49 (by kernel_rfl) rfl, fun X hX k q hq => one_con Y X hi A n c l (Row.below h (hY.mono hh)) (Nat.le_trans hh hY.size) (fun g hg => conK.below (hall g hg) (hY.mono hh)) (w.heap.size) hb hX k q hq⟩
  have HQ : Hid (∀ Y, (Blk Y (w.heap.size) 23 #[.slice A n c]) → Y.cell? ⟨w.heap.size, 0, none⟩ = some (.slice A n c)) := Lib.hid fun Y hb => (hb.cell 0).trans rfl
  have HAF : Hid (∀ Y Y', (Blk Y (w.heap.size) 23 #[.slice A n c]) → Below Y.heap.size Y Y' → (Blk Y' (w.heap.size) 23 #[.slice A n c])) := Lib.hid fun Y Y' hb hb1 => hb.after hb1
  have HX0 : Hid ((fun Y => Blk Y (w.heap.size) 23 #[.slice A n c]) (w.alloc (.cells #[.slice A n c] 23)).drew) := Lib.hid Blk.drew (Blk.new _ _ _)
  clear h hall
  have hmf : ∀ (fn : Fn) (first cap : Array Value) (w : World), (Instr.makeFunc fn first cap).run Tryz.prog w = .ok (.func fn first cap) w := fun _ _ _ _ => rfl
  cases hv : eachV 128 (elemF 2) (conO' l) 0 l with
  | none =>
    rw [hv] at HE
    go_enter Tryz.func19, Tryz.ntmps19
    go_upto_region 1 with (fail)
    have HBz : Hid (Below w.heap.size w (w.alloc (.cells #[.slice A n c] 23)).drew) := Lib.hid (below_drew (below_more (Below.refl _ _) _))
    have HXz : Hid ((fun Y => Blk Y (w.heap.size) 23 #[.slice A n c]) (w.alloc (.cells #[.slice A n c] 23)).drew) := Lib.hid HX0.out
    refine wp_region_held_tail 3 (fun Y => Y.cell? ⟨w.heap.size, 0, none⟩ = some (.slice A n c)) (by kernel_rfl) (by kernel_rfl) ?hSt (fun hHeld => ?qt0)
    case hSt => exact HQ.out _ HXz.out
    case qt0 =>
      simp only [List.take_succ_cons, List.take_zero, List.drop_succ_cons, List.drop_zero]
      refine wpAnyH_take (i := 0) (v := (.slice A n c)) rfl (by kernel_rfl) (by kernel_rfl) (by kernel_rfl) (fun _ _ _ h => h) (Or.inl ⟨by rfl, ?yt_1⟩) (by assumption) ?qt_1
      case yt_1 => (intro w hSw; (try dsimp only at hSw); go_simp)
      case qt_1 =>
        (try simp only [Act.put]); (try simp only [List.setIfInBounds_toArray])
        refine wpAnyH_take (i := 2) (v := (.func (.func 49) #[] #[.pointer (some ⟨w.heap.size, 0, none⟩)])) rfl (by kernel_rfl) (by kernel_rfl) (by kernel_rfl) (fun _ _ _ h => h) (Or.inl ⟨by rfl, ?yt_2⟩) (by assumption) ?qt_2
        case yt_2 => (intro w hSw; (try dsimp only at hSw); go_simp)
        case qt_2 =>
          (try simp only [Act.put]); (try simp only [List.setIfInBounds_toArray])
          refine wpAnyH_ready (rs := [1]) (by kernel_rfl) (by simp) ?_
          refine AllReadyH.cons rfl (fun K hK => ?st_3) ?mt_3
          case st_3 =>
            (refine step_call _ (by rfl) 41 #[.int .i64 2] (by go_simp) (elements_wher _ 2) ?_; rintro e1 Yw ⟨cW, rfl, hw1, hb1⟩; refine ⟨_, rfl, ?_⟩; have HW1 := Lib.hid hw1; have HXz : Hid (Blk Yw (w.heap.size) 23 #[.slice A n c]) := Lib.hid (HAF.out _ _ HXz.out hb1); have HBz := Lib.hid (HBz.out.trans (hb1.mono HBz.out.size)); clear hb1 hw1)
            refine hK.out _ _ ?kt_3 (fun hHeld => ?qt_3)
            case kt_3 => ((try dsimp only); exact HQ.out _ HXz.out)
            case qt_3 =>
              clear hK K
              (try simp only [Act.put]); (try simp only [List.setIfInBounds_toArray])
              refine wpAnyH_done (by kernel_rfl) ?_ _
              clear hHeld
              show wpList _ _ _ _ _ _
              go_wp2_with (go_at_call 48; (with_reducible refine (HE.out _ _ HBz.out HXz.out HW1.out).mono ?_); go_must (rintro e2 Y2 ⟨rfl, hb2⟩; have HB2 : Hid (Below w.heap.size w Y2) := Lib.hid (HBz.out.trans (hb2.mono HBz.out.size)); clear hb2))
              (try simp only [Exit.inBlock, Exit.then])
              refine bodyPost_end (results_none (by kernel_rfl) _ _ _) rfl ?_
              exact ⟨rfl, HB2.out⟩
          case mt_3 =>
            exact AllReadyH.nil
  | some f =>
    rw [hv] at HE
    go_enter Tryz.func19, Tryz.ntmps19
    go_upto_region 1 with (fail)
    have HBz : Hid (Below w.heap.size w (w.alloc (.cells #[.slice A n c] 23)).drew) := Lib.hid (below_drew (below_more (Below.refl _ _) _))
    have HXz : Hid ((fun Y => Blk Y (w.heap.size) 23 #[.slice A n c]) (w.alloc (.cells #[.slice A n c] 23)).drew) := Lib.hid HX0.out
    refine wp_region_held_tail 3 (fun Y => Y.cell? ⟨w.heap.size, 0, none⟩ = some (.slice A n c)) (by kernel_rfl) (by kernel_rfl) ?hSu (fun hHeld => ?qu0)
    case hSu => exact HQ.out _ HXz.out
    case qu0 =>
      simp only [List.take_succ_cons, List.take_zero, List.drop_succ_cons, List.drop_zero]
      refine wpAnyH_take (i := 0) (v := (.slice A n c)) rfl (by kernel_rfl) (by kernel_rfl) (by kernel_rfl) (fun _ _ _ h => h) (Or.inl ⟨by rfl, ?yu_1⟩) (by assumption) ?qu_1
      case yu_1 => (intro w hSw; (try dsimp only at hSw); go_simp)
      case qu_1 =>
        (try simp only [Act.put]); (try simp only [List.setIfInBounds_toArray])
        refine wpAnyH_take (i := 2) (v := (.func (.func 49) #[] #[.pointer (some ⟨w.heap.size, 0, none⟩)])) rfl (by kernel_rfl) (by kernel_rfl) (by kernel_rfl) (fun _ _ _ h => h) (Or.inl ⟨by rfl, ?yu_2⟩) (by assumption) ?qu_2
        case yu_2 => (intro w hSw; (try dsimp only at hSw); go_simp)
        case qu_2 =>
          (try simp only [Act.put]); (try simp only [List.setIfInBounds_toArray])
          refine wpAnyH_ready (rs := [1]) (by kernel_rfl) (by simp) ?_
          refine AllReadyH.cons rfl (fun K hK => ?su_3) ?mu_3
          case su_3 =>
            (refine step_call _ (by rfl) 41 #[.int .i64 2] (by go_simp) (elements_wher _ 2) ?_; rintro e1 Yw ⟨cW, rfl, hw1, hb1⟩; refine ⟨_, rfl, ?_⟩; have HW1 := Lib.hid hw1; have HXz : Hid (Blk Yw (w.heap.size) 23 #[.slice A n c]) := Lib.hid (HAF.out _ _ HXz.out hb1); have HBz := Lib.hid (HBz.out.trans (hb1.mono HBz.out.size)); clear hb1 hw1)
            refine hK.out _ _ ?ku_3 (fun hHeld => ?qu_3)
            case ku_3 => ((try dsimp only); exact HQ.out _ HXz.out)
            case qu_3 =>
              clear hK K
              (try simp only [Act.put]); (try simp only [List.setIfInBounds_toArray])
              refine wpAnyH_done (by kernel_rfl) ?_ _
              clear hHeld
              show wpList _ _ _ _ _ _
              go_wp2_with (go_at_call 48; (with_reducible refine (HE.out _ _ HBz.out HXz.out HW1.out).mono ?_); go_must (rintro e2 Y2 ⟨rfl, hb2⟩; have HB2 : Hid (Below w.heap.size w Y2) := Lib.hid (HBz.out.trans (hb2.mono HBz.out.size)); clear hb2))
              exact ⟨rfl, rfl, HB2.out⟩
          case mu_3 =>
            exact AllReadyH.nil
end Go.Proofs.YtilemieknfdjnaaGreat

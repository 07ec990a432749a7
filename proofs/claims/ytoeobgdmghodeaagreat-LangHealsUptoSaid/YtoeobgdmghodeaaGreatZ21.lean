/-
  WALKS: the law LangHeals.
-/
import Derived.Test.YtoeobgdmghodeaaGreatZ20
import Derived.Deep.RegionHeld3
namespace Go.Proofs.YtoeobgdmghodeaaGreat
open Go Go.RowKit Go.Sort
set_option linter.unusedVariables false
attribute [local go_sem ↓] Go.wp_at_zero Go.wp_at_succ
set_option maxRecDepth 40000 in
set_option maxHeartbeats 12800000 in
theorem heals_any (w : World) (hi : Nat) (x z : LangM) (which at_ : Int) (hx : LangIn w 0 hi x) (hz : LangIn w 0 hi z) (hh : hi ≤ w.heap.size) (rx : Room4 x) (rz : Room4 z) (fx : Fit x) (fz : Fit z) :
    Calls Tryz.prog 4 #[.agg #[.string x.name, .int .i64 x.ver, .slice x.U.A x.U.n x.U.c, .slice x.C.A x.C.n x.C.c, .slice x.N.A x.N.n x.N.c, .slice x.Q.A x.Q.n x.Q.c, .slice x.E.A x.E.n x.E.c, .slice x.T.A x.T.n x.T.c], .agg #[.string z.name, .int .i64 z.ver, .slice z.U.A z.U.n z.U.c, .slice z.C.A z.C.n z.C.c, .slice z.N.A z.N.n z.N.c, .slice z.Q.A z.Q.n z.Q.c, .slice z.E.A z.E.n z.E.c, .slice z.T.A z.T.n z.T.c], .int .i64 which, .int .i64 at_] w (Ret w (.bool true)) := by
  have HAw : Hid (∀ Y, Calls Tryz.prog 5 #[] Y (Ret Y (.bool true))) := Lib.hid awake_any
  have HGx : Hid (∀ Y, Below w.heap.size w Y → Calls Tryz.prog 6 #[.agg #[.string x.name, .int .i64 x.ver, .slice x.U.A x.U.n x.U.c, .slice x.C.A x.C.n x.C.c, .slice x.N.A x.N.n x.N.c, .slice x.Q.A x.Q.n x.Q.c, .slice x.E.A x.E.n x.E.c, .slice x.T.A x.T.n x.T.c]] Y (GreatPost Y x)) := Lib.hid fun Y hY => great_any Y hi x (langK.below hx (hY.mono hh)) (Nat.le_trans hh hY.size) rx
  have HGz : Hid (∀ Y, Below w.heap.size w Y → Calls Tryz.prog 6 #[.agg #[.string z.name, .int .i64 z.ver, .slice z.U.A z.U.n z.U.c, .slice z.C.A z.C.n z.C.c, .slice z.N.A z.N.n z.N.c, .slice z.Q.A z.Q.n z.Q.c, .slice z.E.A z.E.n z.E.c, .slice z.T.A z.T.n z.T.c]] Y (GreatPost Y z)) := Lib.hid fun Y hY => great_any Y hi z (langK.below hz (hY.mono hh)) (Nat.le_trans hh hY.size) rz
  have HCx : Hid (∀ Y, Below w.heap.size w Y → Calls Tryz.prog 7 #[.agg #[.string x.name, .int .i64 x.ver, .slice x.U.A x.U.n x.U.c, .slice x.C.A x.C.n x.C.c, .slice x.N.A x.N.n x.N.c, .slice x.Q.A x.Q.n x.Q.c, .slice x.E.A x.E.n x.E.c, .slice x.T.A x.T.n x.T.c]] Y (Told Y (langF x))) := Lib.hid fun Y hY => check_any Y hi x (langK.below hx (hY.mono hh)) (Nat.le_trans hh hY.size) fx
  have HRw : Hid (∀ Y, Calls Tryz.prog 9 #[.int .i64 which, .int .i64 6] Y (fun e w' => e = .returned (.int .i64 (restV which 6)) ∧ Y = w')) := Lib.hid fun Y => rest_any Y which 6 (by decide) (by decide)
  have HSx : Hid (∀ Y, Calls Tryz.prog 10 #[.agg #[.string x.name, .int .i64 x.ver, .slice x.U.A x.U.n x.U.c, .slice x.C.A x.C.n x.C.c, .slice x.N.A x.N.n x.N.c, .slice x.Q.A x.Q.n x.Q.c, .slice x.E.A x.E.n x.E.c, .slice x.T.A x.T.n x.T.c]] Y (fun e w' => e = .returned (.agg #[.int .i64 2, .int .i64 x.U.n, .int .i64 x.C.n, .int .i64 x.N.n, .int .i64 x.Q.n, .int .i64 x.E.n, .int .i64 x.T.n]) ∧ Below Y.heap.size Y w')) := Lib.hid fun Y => sizes_any Y x
  have HSz : Hid (∀ Y, Calls Tryz.prog 10 #[.agg #[.string z.name, .int .i64 z.ver, .slice z.U.A z.U.n z.U.c, .slice z.C.A z.C.n z.C.c, .slice z.N.A z.N.n z.N.c, .slice z.Q.A z.Q.n z.Q.c, .slice z.E.A z.E.n z.E.c, .slice z.T.A z.T.n z.T.c]] Y (fun e w' => e = .returned (.agg #[.int .i64 2, .int .i64 z.U.n, .int .i64 z.C.n, .int .i64 z.N.n, .int .i64 z.Q.n, .int .i64 z.E.n, .int .i64 z.T.n]) ∧ Below Y.heap.size Y w')) := Lib.hid fun Y => sizes_any Y z
  have HRk : Hid (∀ Y (n : Nat), 0 < n → n ≤ 5000 → Calls Tryz.prog 9 #[.int .i64 at_, .int .i64 n] Y (fun e w' => e = .returned (.int .i64 (restV at_ n)) ∧ Y = w')) := Lib.hid fun Y n h0 h1 => rest_any Y at_ n h0 h1
  have HTw : Hid (FitG x → ∀ Y, Below w.heap.size w Y → Calls Tryz.prog 11 #[.agg #[.string x.name, .int .i64 x.ver, .slice x.U.A x.U.n x.U.c, .slice x.C.A x.C.n x.C.c, .slice x.N.A x.N.n x.N.c, .slice x.Q.A x.Q.n x.Q.c, .slice x.E.A x.E.n x.E.c, .slice x.T.A x.T.n x.T.c]] Y (TwinPost5 Y x)) := Lib.hid fun hg Y hY => twin5_any Y hi x (langK.below hx (hY.mono hh)) (Nat.le_trans hh hY.size) (fit4_of hg fx)
  have HX := Lib.hid hx
  have HZ := Lib.hid hz
  have HFX := Lib.hid fx
  have HFZ := Lib.hid fz
  have HQ0 : Hid (B2 w 29 #[.string x.name, .int .i64 x.ver, .slice x.U.A x.U.n x.U.c, .slice x.C.A x.C.n x.C.c, .slice x.N.A x.N.n x.N.c, .slice x.Q.A x.Q.n x.Q.c, .slice x.E.A x.E.n x.E.c, .slice x.T.A x.T.n x.T.c] #[.string z.name, .int .i64 z.ver, .slice z.U.A z.U.n z.U.c, .slice z.C.A z.C.n z.C.c, .slice z.N.A z.N.n z.N.c, .slice z.Q.A z.Q.n z.Q.c, .slice z.E.A z.E.n z.E.c, .slice z.T.A z.T.n z.T.c] ((w.alloc (.cells #[.string x.name, .int .i64 x.ver, .slice x.U.A x.U.n x.U.c, .slice x.C.A x.C.n x.C.c, .slice x.N.A x.N.n x.N.c, .slice x.Q.A x.Q.n x.Q.c, .slice x.E.A x.E.n x.E.c, .slice x.T.A x.T.n x.T.c] 29)).alloc (.cells #[.string z.name, .int .i64 z.ver, .slice z.U.A z.U.n z.U.c, .slice z.C.A z.C.n z.C.c, .slice z.N.A z.N.n z.N.c, .slice z.Q.A z.Q.n z.Q.c, .slice z.E.A z.E.n z.E.c, .slice z.T.A z.T.n z.T.c] 29))) := Lib.hid (B2.start _ _ _ _)
  clear hx hz rx rz fx fz
  go_enter Tryz.func4, Tryz.ntmps4
  go_wp2_with fail
  refine (HAw.out _).mono ?_
  rintro e w1 ⟨rfl, hb1⟩
  have HQ1 := Lib.hid (HQ0.out.after hb1)
  clear hb1
  have a0 := (HQ1.out.a.cell 0).trans (show _ = some (.string x.name) from rfl)
  have a1 := (HQ1.out.a.cell 1).trans (show _ = some (.int .i64 x.ver) from rfl)
  have a2 := (HQ1.out.a.cell 2).trans (show _ = some (.slice x.U.A x.U.n x.U.c) from rfl)
  have a3 := (HQ1.out.a.cell 3).trans (show _ = some (.slice x.C.A x.C.n x.C.c) from rfl)
  have a4 := (HQ1.out.a.cell 4).trans (show _ = some (.slice x.N.A x.N.n x.N.c) from rfl)
  have a5 := (HQ1.out.a.cell 5).trans (show _ = some (.slice x.Q.A x.Q.n x.Q.c) from rfl)
  have a6 := (HQ1.out.a.cell 6).trans (show _ = some (.slice x.E.A x.E.n x.E.c) from rfl)
  have a7 := (HQ1.out.a.cell 7).trans (show _ = some (.slice x.T.A x.T.n x.T.c) from rfl)
  go_wp2_with fail
  clear a0 a1 a2 a3 a4 a5 a6 a7
  refine (HGx.out _ HQ1.out.bel).mono ?_
  rintro e w2 ⟨b1, rfl, hb2, hf1⟩
  have HQ2 := Lib.hid (HQ1.out.after hb2)
  clear hb2
  cases b1 with
  | true =>
    go_wp2_with fail
    go_ret
    exact ⟨rfl, HQ2.out.bel⟩
  | false =>
    have d0 := (HQ2.out.b.cell 0).trans (show _ = some (.string z.name) from rfl)
    have d1 := (HQ2.out.b.cell 1).trans (show _ = some (.int .i64 z.ver) from rfl)
    have d2 := (HQ2.out.b.cell 2).trans (show _ = some (.slice z.U.A z.U.n z.U.c) from rfl)
    have d3 := (HQ2.out.b.cell 3).trans (show _ = some (.slice z.C.A z.C.n z.C.c) from rfl)
    have d4 := (HQ2.out.b.cell 4).trans (show _ = some (.slice z.N.A z.N.n z.N.c) from rfl)
    have d5 := (HQ2.out.b.cell 5).trans (show _ = some (.slice z.Q.A z.Q.n z.Q.c) from rfl)
    have d6 := (HQ2.out.b.cell 6).trans (show _ = some (.slice z.E.A z.E.n z.E.c) from rfl)
    have d7 := (HQ2.out.b.cell 7).trans (show _ = some (.slice z.T.A z.T.n z.T.c) from rfl)
    go_wp2_with fail
    clear d0 d1 d2 d3 d4 d5 d6 d7
    refine (HGz.out _ HQ2.out.bel).mono ?_
    rintro e w3 ⟨b2, rfl, hb3, hf2⟩
    have HQ3 := Lib.hid (HQ2.out.after hb3)
    clear hb3
    cases b2 with
    | true =>
      go_wp2_with fail
      go_ret
      exact ⟨rfl, HQ3.out.bel⟩
    | false =>
      have HFG := Lib.hid (hf1 (by simp))
      have HFH := Lib.hid (hf2 (by simp))
      clear hf1 hf2
      have a0 := (HQ3.out.a.cell 0).trans (show _ = some (.string x.name) from rfl)
      have a1 := (HQ3.out.a.cell 1).trans (show _ = some (.int .i64 x.ver) from rfl)
      have a2 := (HQ3.out.a.cell 2).trans (show _ = some (.slice x.U.A x.U.n x.U.c) from rfl)
      have a3 := (HQ3.out.a.cell 3).trans (show _ = some (.slice x.C.A x.C.n x.C.c) from rfl)
      have a4 := (HQ3.out.a.cell 4).trans (show _ = some (.slice x.N.A x.N.n x.N.c) from rfl)
      have a5 := (HQ3.out.a.cell 5).trans (show _ = some (.slice x.Q.A x.Q.n x.Q.c) from rfl)
      have a6 := (HQ3.out.a.cell 6).trans (show _ = some (.slice x.E.A x.E.n x.E.c) from rfl)
      have a7 := (HQ3.out.a.cell 7).trans (show _ = some (.slice x.T.A x.T.n x.T.c) from rfl)
      go_wp2_with fail
      clear a0 a1 a2 a3 a4 a5 a6 a7
      refine (HCx.out _ HQ3.out.bel).mono ?_
      rintro e w4 ⟨rfl, hb4⟩
      have HQ4 := Lib.hid (HQ3.out.after hb4)
      clear hb4
      cases hv : langF x with
      | some f =>
        have he : (f.err == 0) = false := beq_eq_false_iff_ne.2 (langG_err (k := cont x) (by rw [← langG_eq]; exact hv))
        simp only [tellF, faV]
        clear hv
        go_wp2_with fail
        go_ret
        exact ⟨rfl, HQ4.out.bel⟩
      | none =>
        simp only [tellF, faV]
        have HV := Lib.hid hv
        clear hv
        go_wp2_with fail
        refine (HRw.out _).mono ?_
        rintro e w5 ⟨rfl, rfl⟩
        have hr6 := restV_lt which (n := 6) (by decide)
        have hw1 : IntKind.i64.wrap (1 + (restV which 6 : Int)) = 1 + (restV which 6 : Int) := IntWalk.i64_in _ (by omega)
        go_upto_region 6 with (fail)
        generalize hvv : (1 + (restV which 6 : Int)) = v
        have HV6 : Hid (v = 1 ∨ v = 2 ∨ v = 3 ∨ v = 4 ∨ v = 5 ∨ v = 6) := Lib.hid (by omega)
        clear hr6 hw1 hvv
        have HQ5 : Hid (B2 w 29 #[.string x.name, .int .i64 x.ver, .slice x.U.A x.U.n x.U.c, .slice x.C.A x.C.n x.C.c, .slice x.N.A x.N.n x.N.c, .slice x.Q.A x.Q.n x.Q.c, .slice x.E.A x.E.n x.E.c, .slice x.T.A x.T.n x.T.c] #[.string z.name, .int .i64 z.ver, .slice z.U.A z.U.n z.U.c, .slice z.C.A z.C.n z.C.c, .slice z.N.A z.N.n z.N.c, .slice z.Q.A z.Q.n z.Q.c, .slice z.E.A z.E.n z.E.c, .slice z.T.A z.T.n z.T.c] w4.drew) := Lib.hid (HQ4.out.drewN 1)
        go_cut [10, 11] (fun s10 s11 wx => ∃ (g10 g11 : Nat), s10 = .pointer (some ⟨g10, 0, none⟩) ∧ s11 = .pointer (some ⟨g11, 0, none⟩) ∧ Hid (B2 w 29 #[.string x.name, .int .i64 x.ver, .slice x.U.A x.U.n x.U.c, .slice x.C.A x.C.n x.C.c, .slice x.N.A x.N.n x.N.c, .slice x.Q.A x.Q.n x.Q.c, .slice x.E.A x.E.n x.E.c, .slice x.T.A x.T.n x.T.c] #[.string z.name, .int .i64 z.ver, .slice z.U.A z.U.n z.U.c, .slice z.C.A z.C.n z.C.c, .slice z.N.A z.N.n z.N.c, .slice z.Q.A z.Q.n z.Q.c, .slice z.E.A z.E.n z.E.c, .slice z.T.A z.T.n z.T.c] wx) ∧ Hid (Blk wx g10 40 #[.int .i64 2, .int .i64 x.U.n, .int .i64 x.C.n, .int .i64 x.N.n, .int .i64 x.Q.n, .int .i64 x.E.n, .int .i64 x.T.n] ∧ Blk wx g11 40 #[.int .i64 2, .int .i64 z.U.n, .int .i64 z.C.n, .int .i64 z.N.n, .int .i64 z.Q.n, .int .i64 z.E.n, .int .i64 z.T.n]))
        case first =>
          have HSo : Hid (∀ Y, B2 w 29 #[.string x.name, .int .i64 x.ver, .slice x.U.A x.U.n x.U.c, .slice x.C.A x.C.n x.C.c, .slice x.N.A x.N.n x.N.c, .slice x.Q.A x.Q.n x.Q.c, .slice x.E.A x.E.n x.E.c, .slice x.T.A x.T.n x.T.c] #[.string z.name, .int .i64 z.ver, .slice z.U.A z.U.n z.U.c, .slice z.C.A z.C.n z.C.c, .slice z.N.A z.N.n z.N.c, .slice z.Q.A z.Q.n z.Q.c, .slice z.E.A z.E.n z.E.c, .slice z.T.A z.T.n z.T.c] Y → (Y.cell? ⟨w.heap.size, 0, none⟩ = some (.string x.name) ∧ Y.cell? ⟨w.heap.size, 1, none⟩ = some (.int .i64 x.ver) ∧ Y.cell? ⟨w.heap.size, 2, none⟩ = some (.slice x.U.A x.U.n x.U.c) ∧ Y.cell? ⟨w.heap.size, 3, none⟩ = some (.slice x.C.A x.C.n x.C.c) ∧ Y.cell? ⟨w.heap.size, 4, none⟩ = some (.slice x.N.A x.N.n x.N.c) ∧ Y.cell? ⟨w.heap.size, 5, none⟩ = some (.slice x.Q.A x.Q.n x.Q.c) ∧ Y.cell? ⟨w.heap.size, 6, none⟩ = some (.slice x.E.A x.E.n x.E.c) ∧ Y.cell? ⟨w.heap.size, 7, none⟩ = some (.slice x.T.A x.T.n x.T.c) ∧ Y.cell? ⟨w.heap.size + 1, 0, none⟩ = some (.string z.name) ∧ Y.cell? ⟨w.heap.size + 1, 1, none⟩ = some (.int .i64 z.ver) ∧ Y.cell? ⟨w.heap.size + 1, 2, none⟩ = some (.slice z.U.A z.U.n z.U.c) ∧ Y.cell? ⟨w.heap.size + 1, 3, none⟩ = some (.slice z.C.A z.C.n z.C.c) ∧ Y.cell? ⟨w.heap.size + 1, 4, none⟩ = some (.slice z.N.A z.N.n z.N.c) ∧ Y.cell? ⟨w.heap.size + 1, 5, none⟩ = some (.slice z.Q.A z.Q.n z.Q.c) ∧ Y.cell? ⟨w.heap.size + 1, 6, none⟩ = some (.slice z.E.A z.E.n z.E.c) ∧ Y.cell? ⟨w.heap.size + 1, 7, none⟩ = some (.slice z.T.A z.T.n z.T.c))) := Lib.hid fun Y h => ⟨(h.a.cell 0).trans rfl, (h.a.cell 1).trans rfl, (h.a.cell 2).trans rfl, (h.a.cell 3).trans rfl, (h.a.cell 4).trans rfl, (h.a.cell 5).trans rfl, (h.a.cell 6).trans rfl, (h.a.cell 7).trans rfl, (h.b.cell 0).trans rfl, (h.b.cell 1).trans rfl, (h.b.cell 2).trans rfl, (h.b.cell 3).trans rfl, (h.b.cell 4).trans rfl, (h.b.cell 5).trans rfl, (h.b.cell 6).trans rfl, (h.b.cell 7).trans rfl⟩
          have HBq := HQ5
          refine wp_region_held_tail 6 (fun Y => Y.cell? ⟨w.heap.size, 0, none⟩ = some (.string x.name) ∧ Y.cell? ⟨w.heap.size, 1, none⟩ = some (.int .i64 x.ver) ∧ Y.cell? ⟨w.heap.size, 2, none⟩ = some (.slice x.U.A x.U.n x.U.c) ∧ Y.cell? ⟨w.heap.size, 3, none⟩ = some (.slice x.C.A x.C.n x.C.c) ∧ Y.cell? ⟨w.heap.size, 4, none⟩ = some (.slice x.N.A x.N.n x.N.c) ∧ Y.cell? ⟨w.heap.size, 5, none⟩ = some (.slice x.Q.A x.Q.n x.Q.c) ∧ Y.cell? ⟨w.heap.size, 6, none⟩ = some (.slice x.E.A x.E.n x.E.c) ∧ Y.cell? ⟨w.heap.size, 7, none⟩ = some (.slice x.T.A x.T.n x.T.c) ∧ Y.cell? ⟨w.heap.size + 1, 0, none⟩ = some (.string z.name) ∧ Y.cell? ⟨w.heap.size + 1, 1, none⟩ = some (.int .i64 z.ver) ∧ Y.cell? ⟨w.heap.size + 1, 2, none⟩ = some (.slice z.U.A z.U.n z.U.c) ∧ Y.cell? ⟨w.heap.size + 1, 3, none⟩ = some (.slice z.C.A z.C.n z.C.c) ∧ Y.cell? ⟨w.heap.size + 1, 4, none⟩ = some (.slice z.N.A z.N.n z.N.c) ∧ Y.cell? ⟨w.heap.size + 1, 5, none⟩ = some (.slice z.Q.A z.Q.n z.Q.c) ∧ Y.cell? ⟨w.heap.size + 1, 6, none⟩ = some (.slice z.E.A z.E.n z.E.c) ∧ Y.cell? ⟨w.heap.size + 1, 7, none⟩ = some (.slice z.T.A z.T.n z.T.c)) (by kernel_rfl) (by kernel_rfl) ?hSt (fun hHeld => ?qt0)
          case hSt => exact HSo.out _ HBq.out
          case qt0 =>
            simp only [List.take_succ_cons, List.take_zero, List.drop_succ_cons, List.drop_zero]
            refine wpAnyH_take (i := 0) (v := (.agg #[.string x.name, .int .i64 x.ver, .slice x.U.A x.U.n x.U.c, .slice x.C.A x.C.n x.C.c, .slice x.N.A x.N.n x.N.c, .slice x.Q.A x.Q.n x.Q.c, .slice x.E.A x.E.n x.E.c, .slice x.T.A x.T.n x.T.c])) rfl (by kernel_rfl) (by kernel_rfl) (by kernel_rfl) (fun _ _ _ h => h) (Or.inl ⟨by rfl, ?yt_1⟩) (by assumption) ?qt_1
            case yt_1 => (intro w hSw; (try dsimp only at hSw); go_simp)
            case qt_1 =>
              (try simp only [Act.put]); (try simp only [List.setIfInBounds_toArray])
              refine wpAnyH_take (i := 2) (v := (.agg #[.string z.name, .int .i64 z.ver, .slice z.U.A z.U.n z.U.c, .slice z.C.A z.C.n z.C.c, .slice z.N.A z.N.n z.N.c, .slice z.Q.A z.Q.n z.Q.c, .slice z.E.A z.E.n z.E.c, .slice z.T.A z.T.n z.T.c])) rfl (by kernel_rfl) (by kernel_rfl) (by kernel_rfl) (fun _ _ _ h => h) (Or.inl ⟨by rfl, ?yt_2⟩) (by assumption) ?qt_2
              case yt_2 => (intro w hSw; (try dsimp only at hSw); go_simp)
              case qt_2 =>
                (try simp only [Act.put]); (try simp only [List.setIfInBounds_toArray])
                refine wpAnyH_ready (rs := [1, 4, 5]) (by kernel_rfl) (by simp) ?_
                refine AllReadyH.cons rfl (fun K hK => ?st_3) ?mt_3
                case st_3 =>
                  (refine step_call _ (by rfl) 10 #[.agg #[.string x.name, .int .i64 x.ver, .slice x.U.A x.U.n x.U.c, .slice x.C.A x.C.n x.C.c, .slice x.N.A x.N.n x.N.c, .slice x.Q.A x.Q.n x.Q.c, .slice x.E.A x.E.n x.E.c, .slice x.T.A x.T.n x.T.c]] (by go_simp) (HSx.out _) ?_; rintro e6 Y1 ⟨rfl, hc1⟩; refine ⟨_, rfl, ?_⟩; replace HBq := Lib.hid (B2.after HBq.out hc1); (try replace H10 := Lib.hid (H10.out.after hc1)); (try replace H11 := Lib.hid (H11.out.after hc1)); clear hc1)
                  refine hK.out _ _ ?kt_3 (fun hHeld => ?qt_3)
                  case kt_3 => ((try dsimp only); exact HSo.out _ HBq.out)
                  case qt_3 =>
                    clear hK K
                    (try simp only [Act.put]); (try simp only [List.setIfInBounds_toArray])
                    refine wpAnyH_ready (rs := [3, 4, 5]) (by kernel_rfl) (by simp) ?_
                    refine AllReadyH.cons rfl (fun K hK => ?st_4) ?mt_4
                    case st_4 =>
                      (refine step_call _ (by rfl) 10 #[.agg #[.string z.name, .int .i64 z.ver, .slice z.U.A z.U.n z.U.c, .slice z.C.A z.C.n z.C.c, .slice z.N.A z.N.n z.N.c, .slice z.Q.A z.Q.n z.Q.c, .slice z.E.A z.E.n z.E.c, .slice z.T.A z.T.n z.T.c]] (by go_simp) (HSz.out _) ?_; rintro e7 Y2 ⟨rfl, hc2⟩; refine ⟨_, rfl, ?_⟩; replace HBq := Lib.hid (B2.after HBq.out hc2); (try replace H10 := Lib.hid (H10.out.after hc2)); (try replace H11 := Lib.hid (H11.out.after hc2)); clear hc2)
                      refine hK.out _ _ ?kt_4 (fun hHeld => ?qt_4)
                      case kt_4 => ((try dsimp only); exact HSo.out _ HBq.out)
                      case qt_4 =>
                        clear hK K
                        (try simp only [Act.put]); (try simp only [List.setIfInBounds_toArray])
                        refine wpAnyH_ready (rs := [4, 5]) (by kernel_rfl) (by simp) ?_
                        refine AllReadyH.cons rfl (fun K hK => ?st_5) ?mt_5
                        case st_5 =>
                          (refine step_alloc _ (by rfl) 40 #[.int .i64 0, .int .i64 0, .int .i64 0, .int .i64 0, .int .i64 0, .int .i64 0, .int .i64 0] (by go_simp) ?_; intro g10 Y3 hx3 hb3 hs3; have H10 := Lib.hid hx3; (try have HNE : g10 ≠ g11 := by have := H11.out.lt; omega); have HL10 : w.heap.size + 1 < g10 := (Nat.lt_of_lt_of_le HBq.out.size hs3); replace HBq := Lib.hid (B2.after HBq.out hb3); (try replace H11 := Lib.hid (H11.out.after hb3)); clear hx3 hb3 hs3)
                          refine hK.out _ _ ?kt_5 (fun hHeld => ?qt_5)
                          case kt_5 => ((try dsimp only); exact HSo.out _ HBq.out)
                          case qt_5 =>
                            clear hK K
                            (try simp only [Act.put]); (try simp only [List.setIfInBounds_toArray])
                            refine wpAnyH_ready (rs := [5]) (by kernel_rfl) (by simp) ?_
                            refine AllReadyH.cons rfl (fun K hK => ?st_6) ?mt_6
                            case st_6 =>
                              (refine step_alloc _ (by rfl) 40 #[.int .i64 0, .int .i64 0, .int .i64 0, .int .i64 0, .int .i64 0, .int .i64 0, .int .i64 0] (by go_simp) ?_; intro g11 Y4 hx4 hb4 hs4; have H11 := Lib.hid hx4; (try have HNE : g10 ≠ g11 := by have := H10.out.lt; omega); have HL11 : w.heap.size + 1 < g11 := (Nat.lt_of_lt_of_le HBq.out.size hs4); replace HBq := Lib.hid (B2.after HBq.out hb4); (try replace H10 := Lib.hid (H10.out.after hb4)); clear hx4 hb4 hs4)
                              refine hK.out _ _ ?kt_6 (fun hHeld => ?qt_6)
                              case kt_6 => ((try dsimp only); exact HSo.out _ HBq.out)
                              case qt_6 =>
                                clear hK K
                                (try simp only [Act.put]); (try simp only [List.setIfInBounds_toArray])
                                refine wpAnyH_done (by kernel_rfl) ?_ _
                                clear hHeld
                                show wpList _ _ _ _ _ _
                                have hNE2 := HNE.symm
                                have c10_0 := (H10.out.cell 0).trans (show _ = some (.int .i64 0) from rfl)
                                have f10_0 := H10.out.frozen 0
                                have c10_1 := (H10.out.cell 1).trans (show _ = some (.int .i64 0) from rfl)
                                have f10_1 := H10.out.frozen 1
                                have c10_2 := (H10.out.cell 2).trans (show _ = some (.int .i64 0) from rfl)
                                have f10_2 := H10.out.frozen 2
                                have c10_3 := (H10.out.cell 3).trans (show _ = some (.int .i64 0) from rfl)
                                have f10_3 := H10.out.frozen 3
                                have c10_4 := (H10.out.cell 4).trans (show _ = some (.int .i64 0) from rfl)
                                have f10_4 := H10.out.frozen 4
                                have c10_5 := (H10.out.cell 5).trans (show _ = some (.int .i64 0) from rfl)
                                have f10_5 := H10.out.frozen 5
                                have c10_6 := (H10.out.cell 6).trans (show _ = some (.int .i64 0) from rfl)
                                have f10_6 := H10.out.frozen 6
                                have c11_0 := (H11.out.cell 0).trans (show _ = some (.int .i64 0) from rfl)
                                have f11_0 := H11.out.frozen 0
                                have c11_1 := (H11.out.cell 1).trans (show _ = some (.int .i64 0) from rfl)
                                have f11_1 := H11.out.frozen 1
                                have c11_2 := (H11.out.cell 2).trans (show _ = some (.int .i64 0) from rfl)
                                have f11_2 := H11.out.frozen 2
                                have c11_3 := (H11.out.cell 3).trans (show _ = some (.int .i64 0) from rfl)
                                have f11_3 := H11.out.frozen 3
                                have c11_4 := (H11.out.cell 4).trans (show _ = some (.int .i64 0) from rfl)
                                have f11_4 := H11.out.frozen 4
                                have c11_5 := (H11.out.cell 5).trans (show _ = some (.int .i64 0) from rfl)
                                have f11_5 := H11.out.frozen 5
                                have c11_6 := (H11.out.cell 6).trans (show _ = some (.int .i64 0) from rfl)
                                have f11_6 := H11.out.frozen 6
                                have hk10 := ((((((((((((((H10.out.set_ 0 (.int .i64 2)).set_ 1 (.int .i64 x.U.n)).set_ 2 (.int .i64 x.C.n)).set_ 3 (.int .i64 x.N.n)).set_ 4 (.int .i64 x.Q.n)).set_ 5 (.int .i64 x.E.n)).set_ 6 (.int .i64 x.T.n)).far (p := ⟨g11, 0, none⟩) HNE (.int .i64 2)).far (p := ⟨g11, 1, none⟩) HNE (.int .i64 z.U.n)).far (p := ⟨g11, 2, none⟩) HNE (.int .i64 z.C.n)).far (p := ⟨g11, 3, none⟩) HNE (.int .i64 z.N.n)).far (p := ⟨g11, 4, none⟩) HNE (.int .i64 z.Q.n)).far (p := ⟨g11, 5, none⟩) HNE (.int .i64 z.E.n)).far (p := ⟨g11, 6, none⟩) HNE (.int .i64 z.T.n))
                                have hk11 := ((((((((((((((H11.out.far (p := ⟨g10, 0, none⟩) hNE2 (.int .i64 2)).far (p := ⟨g10, 1, none⟩) hNE2 (.int .i64 x.U.n)).far (p := ⟨g10, 2, none⟩) hNE2 (.int .i64 x.C.n)).far (p := ⟨g10, 3, none⟩) hNE2 (.int .i64 x.N.n)).far (p := ⟨g10, 4, none⟩) hNE2 (.int .i64 x.Q.n)).far (p := ⟨g10, 5, none⟩) hNE2 (.int .i64 x.E.n)).far (p := ⟨g10, 6, none⟩) hNE2 (.int .i64 x.T.n)).set_ 0 (.int .i64 2)).set_ 1 (.int .i64 z.U.n)).set_ 2 (.int .i64 z.C.n)).set_ 3 (.int .i64 z.N.n)).set_ 4 (.int .i64 z.Q.n)).set_ 5 (.int .i64 z.E.n)).set_ 6 (.int .i64 z.T.n))
                                have hbq := (B2.far2 (i := 6) (B2.far2 (i := 5) (B2.far2 (i := 4) (B2.far2 (i := 3) (B2.far2 (i := 2) (B2.far2 (i := 1) (B2.far2 (i := 0) (B2.far2 (i := 6) (B2.far2 (i := 5) (B2.far2 (i := 4) (B2.far2 (i := 3) (B2.far2 (i := 2) (B2.far2 (i := 1) (B2.far2 (i := 0) HBq.out HL10 (.int .i64 2)) HL10 (.int .i64 x.U.n)) HL10 (.int .i64 x.C.n)) HL10 (.int .i64 x.N.n)) HL10 (.int .i64 x.Q.n)) HL10 (.int .i64 x.E.n)) HL10 (.int .i64 x.T.n)) HL11 (.int .i64 2)) HL11 (.int .i64 z.U.n)) HL11 (.int .i64 z.C.n)) HL11 (.int .i64 z.N.n)) HL11 (.int .i64 z.Q.n)) HL11 (.int .i64 z.E.n)) HL11 (.int .i64 z.T.n))
                                go_wp2_with fail
                                go_meet
                                case rel => exact ⟨g10, g11, rfl, rfl, Lib.hid hbq, Lib.hid ⟨by simpa using hk10, by simpa using hk11⟩⟩
                            case mt_6 =>
                              exact AllReadyH.nil
                        case mt_5 =>
                          refine AllReadyH.cons rfl (fun K hK => ?st_7) ?mt_7
                          case st_7 =>
                            (refine step_alloc _ (by rfl) 40 #[.int .i64 0, .int .i64 0, .int .i64 0, .int .i64 0, .int .i64 0, .int .i64 0, .int .i64 0] (by go_simp) ?_; intro g11 Y4 hx4 hb4 hs4; have H11 := Lib.hid hx4; (try have HNE : g10 ≠ g11 := by have := H10.out.lt; omega); have HL11 : w.heap.size + 1 < g11 := (Nat.lt_of_lt_of_le HBq.out.size hs4); replace HBq := Lib.hid (B2.after HBq.out hb4); (try replace H10 := Lib.hid (H10.out.after hb4)); clear hx4 hb4 hs4)
                            refine hK.out _ _ ?kt_7 (fun hHeld => ?qt_7)
                            case kt_7 => ((try dsimp only); exact HSo.out _ HBq.out)
                            case qt_7 =>
                              clear hK K
                              (try simp only [Act.put]); (try simp only [List.setIfInBounds_toArray])
                              refine wpAnyH_ready (rs := [4]) (by kernel_rfl) (by simp) ?_
                              refine AllReadyH.cons rfl (fun K hK => ?st_8) ?mt_8
                              case st_8 =>
                                (refine step_alloc _ (by rfl) 40 #[.int .i64 0, .int .i64 0, .int .i64 0, .int .i64 0, .int .i64 0, .int .i64 0, .int .i64 0] (by go_simp) ?_; intro g10 Y3 hx3 hb3 hs3; have H10 := Lib.hid hx3; (try have HNE : g10 ≠ g11 := by have := H11.out.lt; omega); have HL10 : w.heap.size + 1 < g10 := (Nat.lt_of_lt_of_le HBq.out.size hs3); replace HBq := Lib.hid (B2.after HBq.out hb3); (try replace H11 := Lib.hid (H11.out.after hb3)); clear hx3 hb3 hs3)
                                refine hK.out _ _ ?kt_8 (fun hHeld => ?qt_8)
                                case kt_8 => ((try dsimp only); exact HSo.out _ HBq.out)
                                case qt_8 =>
                                  clear hK K
                                  (try simp only [Act.put]); (try simp only [List.setIfInBounds_toArray])
                                  refine wpAnyH_done (by kernel_rfl) ?_ _
                                  clear hHeld
                                  show wpList _ _ _ _ _ _
                                  have hNE2 := HNE.symm
                                  have c10_0 := (H10.out.cell 0).trans (show _ = some (.int .i64 0) from rfl)
                                  have f10_0 := H10.out.frozen 0
                                  have c10_1 := (H10.out.cell 1).trans (show _ = some (.int .i64 0) from rfl)
                                  have f10_1 := H10.out.frozen 1
                                  have c10_2 := (H10.out.cell 2).trans (show _ = some (.int .i64 0) from rfl)
                                  have f10_2 := H10.out.frozen 2
                                  have c10_3 := (H10.out.cell 3).trans (show _ = some (.int .i64 0) from rfl)
                                  have f10_3 := H10.out.frozen 3
                                  have c10_4 := (H10.out.cell 4).trans (show _ = some (.int .i64 0) from rfl)
                                  have f10_4 := H10.out.frozen 4
                                  have c10_5 := (H10.out.cell 5).trans (show _ = some (.int .i64 0) from rfl)
                                  have f10_5 := H10.out.frozen 5
                                  have c10_6 := (H10.out.cell 6).trans (show _ = some (.int .i64 0) from rfl)
                                  have f10_6 := H10.out.frozen 6
                                  have c11_0 := (H11.out.cell 0).trans (show _ = some (.int .i64 0) from rfl)
                                  have f11_0 := H11.out.frozen 0
                                  have c11_1 := (H11.out.cell 1).trans (show _ = some (.int .i64 0) from rfl)
                                  have f11_1 := H11.out.frozen 1
                                  have c11_2 := (H11.out.cell 2).trans (show _ = some (.int .i64 0) from rfl)
                                  have f11_2 := H11.out.frozen 2
                                  have c11_3 := (H11.out.cell 3).trans (show _ = some (.int .i64 0) from rfl)
                                  have f11_3 := H11.out.frozen 3
                                  have c11_4 := (H11.out.cell 4).trans (show _ = some (.int .i64 0) from rfl)
                                  have f11_4 := H11.out.frozen 4
                                  have c11_5 := (H11.out.cell 5).trans (show _ = some (.int .i64 0) from rfl)
                                  have f11_5 := H11.out.frozen 5
                                  have c11_6 := (H11.out.cell 6).trans (show _ = some (.int .i64 0) from rfl)
                                  have f11_6 := H11.out.frozen 6
                                  have hk10 := ((((((((((((((H10.out.set_ 0 (.int .i64 2)).set_ 1 (.int .i64 x.U.n)).set_ 2 (.int .i64 x.C.n)).set_ 3 (.int .i64 x.N.n)).set_ 4 (.int .i64 x.Q.n)).set_ 5 (.int .i64 x.E.n)).set_ 6 (.int .i64 x.T.n)).far (p := ⟨g11, 0, none⟩) HNE (.int .i64 2)).far (p := ⟨g11, 1, none⟩) HNE (.int .i64 z.U.n)).far (p := ⟨g11, 2, none⟩) HNE (.int .i64 z.C.n)).far (p := ⟨g11, 3, none⟩) HNE (.int .i64 z.N.n)).far (p := ⟨g11, 4, none⟩) HNE (.int .i64 z.Q.n)).far (p := ⟨g11, 5, none⟩) HNE (.int .i64 z.E.n)).far (p := ⟨g11, 6, none⟩) HNE (.int .i64 z.T.n))
                                  have hk11 := ((((((((((((((H11.out.far (p := ⟨g10, 0, none⟩) hNE2 (.int .i64 2)).far (p := ⟨g10, 1, none⟩) hNE2 (.int .i64 x.U.n)).far (p := ⟨g10, 2, none⟩) hNE2 (.int .i64 x.C.n)).far (p := ⟨g10, 3, none⟩) hNE2 (.int .i64 x.N.n)).far (p := ⟨g10, 4, none⟩) hNE2 (.int .i64 x.Q.n)).far (p := ⟨g10, 5, none⟩) hNE2 (.int .i64 x.E.n)).far (p := ⟨g10, 6, none⟩) hNE2 (.int .i64 x.T.n)).set_ 0 (.int .i64 2)).set_ 1 (.int .i64 z.U.n)).set_ 2 (.int .i64 z.C.n)).set_ 3 (.int .i64 z.N.n)).set_ 4 (.int .i64 z.Q.n)).set_ 5 (.int .i64 z.E.n)).set_ 6 (.int .i64 z.T.n))
                                  have hbq := (B2.far2 (i := 6) (B2.far2 (i := 5) (B2.far2 (i := 4) (B2.far2 (i := 3) (B2.far2 (i := 2) (B2.far2 (i := 1) (B2.far2 (i := 0) (B2.far2 (i := 6) (B2.far2 (i := 5) (B2.far2 (i := 4) (B2.far2 (i := 3) (B2.far2 (i := 2) (B2.far2 (i := 1) (B2.far2 (i := 0) HBq.out HL10 (.int .i64 2)) HL10 (.int .i64 x.U.n)) HL10 (.int .i64 x.C.n)) HL10 (.int .i64 x.N.n)) HL10 (.int .i64 x.Q.n)) HL10 (.int .i64 x.E.n)) HL10 (.int .i64 x.T.n)) HL11 (.int .i64 2)) HL11 (.int .i64 z.U.n)) HL11 (.int .i64 z.C.n)) HL11 (.int .i64 z.N.n)) HL11 (.int .i64 z.Q.n)) HL11 (.int .i64 z.E.n)) HL11 (.int .i64 z.T.n))
                                  go_wp2_with fail
                                  go_meet
                                  case rel => exact ⟨g10, g11, rfl, rfl, Lib.hid hbq, Lib.hid ⟨by simpa using hk10, by simpa using hk11⟩⟩
                              case mt_8 =>
                                exact AllReadyH.nil
                          case mt_7 =>
                            exact AllReadyH.nil
                    case mt_4 =>
                      refine AllReadyH.cons rfl (fun K hK => ?st_9) ?mt_9
                      case st_9 =>
                        (refine step_alloc _ (by rfl) 40 #[.int .i64 0, .int .i64 0, .int .i64 0, .int .i64 0, .int .i64 0, .int .i64 0, .int .i64 0] (by go_simp) ?_; intro g10 Y3 hx3 hb3 hs3; have H10 := Lib.hid hx3; (try have HNE : g10 ≠ g11 := by have := H11.out.lt; omega); have HL10 : w.heap.size + 1 < g10 := (Nat.lt_of_lt_of_le HBq.out.size hs3); replace HBq := Lib.hid (B2.after HBq.out hb3); (try replace H11 := Lib.hid (H11.out.after hb3)); clear hx3 hb3 hs3)
                        refine hK.out _ _ ?kt_9 (fun hHeld => ?qt_9)
                        case kt_9 => ((try dsimp only); exact HSo.out _ HBq.out)
                        case qt_9 =>
                          clear hK K
                          (try simp only [Act.put]); (try simp only [List.setIfInBounds_toArray])
                          refine wpAnyH_ready (rs := [3, 5]) (by kernel_rfl) (by simp) ?_
                          refine AllReadyH.cons rfl (fun K hK => ?st_10) ?mt_10
                          case st_10 =>
                            (refine step_call _ (by rfl) 10 #[.agg #[.string z.name, .int .i64 z.ver, .slice z.U.A z.U.n z.U.c, .slice z.C.A z.C.n z.C.c, .slice z.N.A z.N.n z.N.c, .slice z.Q.A z.Q.n z.Q.c, .slice z.E.A z.E.n z.E.c, .slice z.T.A z.T.n z.T.c]] (by go_simp) (HSz.out _) ?_; rintro e7 Y2 ⟨rfl, hc2⟩; refine ⟨_, rfl, ?_⟩; replace HBq := Lib.hid (B2.after HBq.out hc2); (try replace H10 := Lib.hid (H10.out.after hc2)); (try replace H11 := Lib.hid (H11.out.after hc2)); clear hc2)
                            refine hK.out _ _ ?kt_10 (fun hHeld => ?qt_10)
                            case kt_10 => ((try dsimp only); exact HSo.out _ HBq.out)
                            case qt_10 =>
                              clear hK K
                              (try simp only [Act.put]); (try simp only [List.setIfInBounds_toArray])
                              refine wpAnyH_ready (rs := [5]) (by kernel_rfl) (by simp) ?_
                              refine AllReadyH.cons rfl (fun K hK => ?st_11) ?mt_11
                              case st_11 =>
                                (refine step_alloc _ (by rfl) 40 #[.int .i64 0, .int .i64 0, .int .i64 0, .int .i64 0, .int .i64 0, .int .i64 0, .int .i64 0] (by go_simp) ?_; intro g11 Y4 hx4 hb4 hs4; have H11 := Lib.hid hx4; (try have HNE : g10 ≠ g11 := by have := H10.out.lt; omega); have HL11 : w.heap.size + 1 < g11 := (Nat.lt_of_lt_of_le HBq.out.size hs4); replace HBq := Lib.hid (B2.after HBq.out hb4); (try replace H10 := Lib.hid (H10.out.after hb4)); clear hx4 hb4 hs4)
                                refine hK.out _ _ ?kt_11 (fun hHeld => ?qt_11)
                                case kt_11 => ((try dsimp only); exact HSo.out _ HBq.out)
                                case qt_11 =>
                                  clear hK K
                                  (try simp only [Act.put]); (try simp only [List.setIfInBounds_toArray])
                                  refine wpAnyH_done (by kernel_rfl) ?_ _
                                  clear hHeld
                                  show wpList _ _ _ _ _ _
                                  have hNE2 := HNE.symm
                                  have c10_0 := (H10.out.cell 0).trans (show _ = some (.int .i64 0) from rfl)
                                  have f10_0 := H10.out.frozen 0
                                  have c10_1 := (H10.out.cell 1).trans (show _ = some (.int .i64 0) from rfl)
                                  have f10_1 := H10.out.frozen 1
                                  have c10_2 := (H10.out.cell 2).trans (show _ = some (.int .i64 0) from rfl)
                                  have f10_2 := H10.out.frozen 2
                                  have c10_3 := (H10.out.cell 3).trans (show _ = some (.int .i64 0) from rfl)
                                  have f10_3 := H10.out.frozen 3
                                  have c10_4 := (H10.out.cell 4).trans (show _ = some (.int .i64 0) from rfl)
                                  have f10_4 := H10.out.frozen 4
                                  have c10_5 := (H10.out.cell 5).trans (show _ = some (.int .i64 0) from rfl)
                                  have f10_5 := H10.out.frozen 5
                                  have c10_6 := (H10.out.cell 6).trans (show _ = some (.int .i64 0) from rfl)
                                  have f10_6 := H10.out.frozen 6
                                  have c11_0 := (H11.out.cell 0).trans (show _ = some (.int .i64 0) from rfl)
                                  have f11_0 := H11.out.frozen 0
                                  have c11_1 := (H11.out.cell 1).trans (show _ = some (.int .i64 0) from rfl)
                                  have f11_1 := H11.out.frozen 1
                                  have c11_2 := (H11.out.cell 2).trans (show _ = some (.int .i64 0) from rfl)
                                  have f11_2 := H11.out.frozen 2
                                  have c11_3 := (H11.out.cell 3).trans (show _ = some (.int .i64 0) from rfl)
                                  have f11_3 := H11.out.frozen 3
                                  have c11_4 := (H11.out.cell 4).trans (show _ = some (.int .i64 0) from rfl)
                                  have f11_4 := H11.out.frozen 4
                                  have c11_5 := (H11.out.cell 5).trans (show _ = some (.int .i64 0) from rfl)
                                  have f11_5 := H11.out.frozen 5
                                  have c11_6 := (H11.out.cell 6).trans (show _ = some (.int .i64 0) from rfl)
                                  have f11_6 := H11.out.frozen 6
                                  have hk10 := ((((((((((((((H10.out.set_ 0 (.int .i64 2)).set_ 1 (.int .i64 x.U.n)).set_ 2 (.int .i64 x.C.n)).set_ 3 (.int .i64 x.N.n)).set_ 4 (.int .i64 x.Q.n)).set_ 5 (.int .i64 x.E.n)).set_ 6 (.int .i64 x.T.n)).far (p := ⟨g11, 0, none⟩) HNE (.int .i64 2)).far (p := ⟨g11, 1, none⟩) HNE (.int .i64 z.U.n)).far (p := ⟨g11, 2, none⟩) HNE (.int .i64 z.C.n)).far (p := ⟨g11, 3, none⟩) HNE (.int .i64 z.N.n)).far (p := ⟨g11, 4, none⟩) HNE (.int .i64 z.Q.n)).far (p := ⟨g11, 5, none⟩) HNE (.int .i64 z.E.n)).far (p := ⟨g11, 6, none⟩) HNE (.int .i64 z.T.n))
                                  have hk11 := ((((((((((((((H11.out.far (p := ⟨g10, 0, none⟩) hNE2 (.int .i64 2)).far (p := ⟨g10, 1, none⟩) hNE2 (.int .i64 x.U.n)).far (p := ⟨g10, 2, none⟩) hNE2 (.int .i64 x.C.n)).far (p := ⟨g10, 3, none⟩) hNE2 (.int .i64 x.N.n)).far (p := ⟨g10, 4, none⟩) hNE2 (.int .i64 x.Q.n)).far (p := ⟨g10, 5, none⟩) hNE2 (.int .i64 x.E.n)).far (p := ⟨g10, 6, none⟩) hNE2 (.int .i64 x.T.n)).set_ 0 (.int .i64 2)).set_ 1 (.int .i64 z.U.n)).set_ 2 (.int .i64 z.C.n)).set_ 3 (.int .i64 z.N.n)).set_ 4 (.int .i64 z.Q.n)).set_ 5 (.int .i64 z.E.n)).set_ 6 (.int .i64 z.T.n))
                                  have hbq := (B2.far2 (i := 6) (B2.far2 (i := 5) (B2.far2 (i := 4) (B2.far2 (i := 3) (B2.far2 (i := 2) (B2.far2 (i := 1) (B2.far2 (i := 0) (B2.far2 (i := 6) (B2.far2 (i := 5) (B2.far2 (i := 4) (B2.far2 (i := 3) (B2.far2 (i := 2) (B2.far2 (i := 1) (B2.far2 (i := 0) HBq.out HL10 (.int .i64 2)) HL10 (.int .i64 x.U.n)) HL10 (.int .i64 x.C.n)) HL10 (.int .i64 x.N.n)) HL10 (.int .i64 x.Q.n)) HL10 (.int .i64 x.E.n)) HL10 (.int .i64 x.T.n)) HL11 (.int .i64 2)) HL11 (.int .i64 z.U.n)) HL11 (.int .i64 z.C.n)) HL11 (.int .i64 z.N.n)) HL11 (.int .i64 z.Q.n)) HL11 (.int .i64 z.E.n)) HL11 (.int .i64 z.T.n))
                                  go_wp2_with fail
                                  go_meet
                                  case rel => exact ⟨g10, g11, rfl, rfl, Lib.hid hbq, Lib.hid ⟨by simpa using hk10, by simpa using hk11⟩⟩
                              case mt_11 =>
                                exact AllReadyH.nil
                          case mt_10 =>
                            refine AllReadyH.cons rfl (fun K hK => ?st_12) ?mt_12
                            case st_12 =>
                              (refine step_alloc _ (by rfl) 40 #[.int .i64 0, .int .i64 0, .int .i64 0, .int .i64 0, .int .i64 0, .int .i64 0, .int .i64 0] (by go_simp) ?_; intro g11 Y4 hx4 hb4 hs4; have H11 := Lib.hid hx4; (try have HNE : g10 ≠ g11 := by have := H10.out.lt; omega); have HL11 : w.heap.size + 1 < g11 := (Nat.lt_of_lt_of_le HBq.out.size hs4); replace HBq := Lib.hid (B2.after HBq.out hb4); (try replace H10 := Lib.hid (H10.out.after hb4)); clear hx4 hb4 hs4)
                              refine hK.out _ _ ?kt_12 (fun hHeld => ?qt_12)
                              case kt_12 => ((try dsimp only); exact HSo.out _ HBq.out)
                              case qt_12 =>
                                clear hK K
                                (try simp only [Act.put]); (try simp only [List.setIfInBounds_toArray])
                                refine wpAnyH_ready (rs := [3]) (by kernel_rfl) (by simp) ?_
                                refine AllReadyH.cons rfl (fun K hK => ?st_13) ?mt_13
                                case st_13 =>
                                  (refine step_call _ (by rfl) 10 #[.agg #[.string z.name, .int .i64 z.ver, .slice z.U.A z.U.n z.U.c, .slice z.C.A z.C.n z.C.c, .slice z.N.A z.N.n z.N.c, .slice z.Q.A z.Q.n z.Q.c, .slice z.E.A z.E.n z.E.c, .slice z.T.A z.T.n z.T.c]] (by go_simp) (HSz.out _) ?_; rintro e7 Y2 ⟨rfl, hc2⟩; refine ⟨_, rfl, ?_⟩; replace HBq := Lib.hid (B2.after HBq.out hc2); (try replace H10 := Lib.hid (H10.out.after hc2)); (try replace H11 := Lib.hid (H11.out.after hc2)); clear hc2)
                                  refine hK.out _ _ ?kt_13 (fun hHeld => ?qt_13)
                                  case kt_13 => ((try dsimp only); exact HSo.out _ HBq.out)
                                  case qt_13 =>
                                    clear hK K
                                    (try simp only [Act.put]); (try simp only [List.setIfInBounds_toArray])
                                    refine wpAnyH_done (by kernel_rfl) ?_ _
                                    clear hHeld
                                    show wpList _ _ _ _ _ _
                                    have hNE2 := HNE.symm
                                    have c10_0 := (H10.out.cell 0).trans (show _ = some (.int .i64 0) from rfl)
                                    have f10_0 := H10.out.frozen 0
                                    have c10_1 := (H10.out.cell 1).trans (show _ = some (.int .i64 0) from rfl)
                                    have f10_1 := H10.out.frozen 1
                                    have c10_2 := (H10.out.cell 2).trans (show _ = some (.int .i64 0) from rfl)
                                    have f10_2 := H10.out.frozen 2
                                    have c10_3 := (H10.out.cell 3).trans (show _ = some (.int .i64 0) from rfl)
                                    have f10_3 := H10.out.frozen 3
                                    have c10_4 := (H10.out.cell 4).trans (show _ = some (.int .i64 0) from rfl)
                                    have f10_4 := H10.out.frozen 4
                                    have c10_5 := (H10.out.cell 5).trans (show _ = some (.int .i64 0) from rfl)
                                    have f10_5 := H10.out.frozen 5
                                    have c10_6 := (H10.out.cell 6).trans (show _ = some (.int .i64 0) from rfl)
                                    have f10_6 := H10.out.frozen 6
                                    have c11_0 := (H11.out.cell 0).trans (show _ = some (.int .i64 0) from rfl)
                                    have f11_0 := H11.out.frozen 0
                                    have c11_1 := (H11.out.cell 1).trans (show _ = some (.int .i64 0) from rfl)
                                    have f11_1 := H11.out.frozen 1
                                    have c11_2 := (H11.out.cell 2).trans (show _ = some (.int .i64 0) from rfl)
                                    have f11_2 := H11.out.frozen 2
                                    have c11_3 := (H11.out.cell 3).trans (show _ = some (.int .i64 0) from rfl)
                                    have f11_3 := H11.out.frozen 3
                                    have c11_4 := (H11.out.cell 4).trans (show _ = some (.int .i64 0) from rfl)
                                    have f11_4 := H11.out.frozen 4
                                    have c11_5 := (H11.out.cell 5).trans (show _ = some (.int .i64 0) from rfl)
                                    have f11_5 := H11.out.frozen 5
                                    have c11_6 := (H11.out.cell 6).trans (show _ = some (.int .i64 0) from rfl)
                                    have f11_6 := H11.out.frozen 6
                                    have hk10 := ((((((((((((((H10.out.set_ 0 (.int .i64 2)).set_ 1 (.int .i64 x.U.n)).set_ 2 (.int .i64 x.C.n)).set_ 3 (.int .i64 x.N.n)).set_ 4 (.int .i64 x.Q.n)).set_ 5 (.int .i64 x.E.n)).set_ 6 (.int .i64 x.T.n)).far (p := ⟨g11, 0, none⟩) HNE (.int .i64 2)).far (p := ⟨g11, 1, none⟩) HNE (.int .i64 z.U.n)).far (p := ⟨g11, 2, none⟩) HNE (.int .i64 z.C.n)).far (p := ⟨g11, 3, none⟩) HNE (.int .i64 z.N.n)).far (p := ⟨g11, 4, none⟩) HNE (.int .i64 z.Q.n)).far (p := ⟨g11, 5, none⟩) HNE (.int .i64 z.E.n)).far (p := ⟨g11, 6, none⟩) HNE (.int .i64 z.T.n))
                                    have hk11 := ((((((((((((((H11.out.far (p := ⟨g10, 0, none⟩) hNE2 (.int .i64 2)).far (p := ⟨g10, 1, none⟩) hNE2 (.int .i64 x.U.n)).far (p := ⟨g10, 2, none⟩) hNE2 (.int .i64 x.C.n)).far (p := ⟨g10, 3, none⟩) hNE2 (.int .i64 x.N.n)).far (p := ⟨g10, 4, none⟩) hNE2 (.int .i64 x.Q.n)).far (p := ⟨g10, 5, none⟩) hNE2 (.int .i64 x.E.n)).far (p := ⟨g10, 6, none⟩) hNE2 (.int .i64 x.T.n)).set_ 0 (.int .i64 2)).set_ 1 (.int .i64 z.U.n)).set_ 2 (.int .i64 z.C.n)).set_ 3 (.int .i64 z.N.n)).set_ 4 (.int .i64 z.Q.n)).set_ 5 (.int .i64 z.E.n)).set_ 6 (.int .i64 z.T.n))
                                    have hbq := (B2.far2 (i := 6) (B2.far2 (i := 5) (B2.far2 (i := 4) (B2.far2 (i := 3) (B2.far2 (i := 2) (B2.far2 (i := 1) (B2.far2 (i := 0) (B2.far2 (i := 6) (B2.far2 (i := 5) (B2.far2 (i := 4) (B2.far2 (i := 3) (B2.far2 (i := 2) (B2.far2 (i := 1) (B2.far2 (i := 0) HBq.out HL10 (.int .i64 2)) HL10 (.int .i64 x.U.n)) HL10 (.int .i64 x.C.n)) HL10 (.int .i64 x.N.n)) HL10 (.int .i64 x.Q.n)) HL10 (.int .i64 x.E.n)) HL10 (.int .i64 x.T.n)) HL11 (.int .i64 2)) HL11 (.int .i64 z.U.n)) HL11 (.int .i64 z.C.n)) HL11 (.int .i64 z.N.n)) HL11 (.int .i64 z.Q.n)) HL11 (.int .i64 z.E.n)) HL11 (.int .i64 z.T.n))
                                    go_wp2_with fail
                                    go_meet
                                    case rel => exact ⟨g10, g11, rfl, rfl, Lib.hid hbq, Lib.hid ⟨by simpa using hk10, by simpa using hk11⟩⟩
                                case mt_13 =>
                                  exact AllReadyH.nil
                            case mt_12 =>
                              exact AllReadyH.nil
                      case mt_9 =>
                        refine AllReadyH.cons rfl (fun K hK => ?st_14) ?mt_14
                        case st_14 =>
                          (refine step_alloc _ (by rfl) 40 #[.int .i64 0, .int .i64 0, .int .i64 0, .int .i64 0, .int .i64 0, .int .i64 0, .int .i64 0] (by go_simp) ?_; intro g11 Y4 hx4 hb4 hs4; have H11 := Lib.hid hx4; (try have HNE : g10 ≠ g11 := by have := H10.out.lt; omega); have HL11 : w.heap.size + 1 < g11 := (Nat.lt_of_lt_of_le HBq.out.size hs4); replace HBq := Lib.hid (B2.after HBq.out hb4); (try replace H10 := Lib.hid (H10.out.after hb4)); clear hx4 hb4 hs4)
                          refine hK.out _ _ ?kt_14 (fun hHeld => ?qt_14)
                          case kt_14 => ((try dsimp only); exact HSo.out _ HBq.out)
                          case qt_14 =>
                            clear hK K
                            (try simp only [Act.put]); (try simp only [List.setIfInBounds_toArray])
                            refine wpAnyH_ready (rs := [3, 4]) (by kernel_rfl) (by simp) ?_
                            refine AllReadyH.cons rfl (fun K hK => ?st_15) ?mt_15
                            case st_15 =>
                              (refine step_call _ (by rfl) 10 #[.agg #[.string z.name, .int .i64 z.ver, .slice z.U.A z.U.n z.U.c, .slice z.C.A z.C.n z.C.c, .slice z.N.A z.N.n z.N.c, .slice z.Q.A z.Q.n z.Q.c, .slice z.E.A z.E.n z.E.c, .slice z.T.A z.T.n z.T.c]] (by go_simp) (HSz.out _) ?_; rintro e7 Y2 ⟨rfl, hc2⟩; refine ⟨_, rfl, ?_⟩; replace HBq := Lib.hid (B2.after HBq.out hc2); (try replace H10 := Lib.hid (H10.out.after hc2)); (try replace H11 := Lib.hid (H11.out.after hc2)); clear hc2)
                              refine hK.out _ _ ?kt_15 (fun hHeld => ?qt_15)
                              case kt_15 => ((try dsimp only); exact HSo.out _ HBq.out)
                              case qt_15 =>
                                clear hK K
                                (try simp only [Act.put]); (try simp only [List.setIfInBounds_toArray])
                                refine wpAnyH_ready (rs := [4]) (by kernel_rfl) (by simp) ?_
                                refine AllReadyH.cons rfl (fun K hK => ?st_16) ?mt_16
                                case st_16 =>
                                  (refine step_alloc _ (by rfl) 40 #[.int .i64 0, .int .i64 0, .int .i64 0, .int .i64 0, .int .i64 0, .int .i64 0, .int .i64 0] (by go_simp) ?_; intro g10 Y3 hx3 hb3 hs3; have H10 := Lib.hid hx3; (try have HNE : g10 ≠ g11 := by have := H11.out.lt; omega); have HL10 : w.heap.size + 1 < g10 := (Nat.lt_of_lt_of_le HBq.out.size hs3); replace HBq := Lib.hid (B2.after HBq.out hb3); (try replace H11 := Lib.hid (H11.out.after hb3)); clear hx3 hb3 hs3)
                                  refine hK.out _ _ ?kt_16 (fun hHeld => ?qt_16)
                                  case kt_16 => ((try dsimp only); exact HSo.out _ HBq.out)
                                  case qt_16 =>
                                    clear hK K
                                    (try simp only [Act.put]); (try simp only [List.setIfInBounds_toArray])
                                    refine wpAnyH_done (by kernel_rfl) ?_ _
                                    clear hHeld
                                    show wpList _ _ _ _ _ _
                                    have hNE2 := HNE.symm
                                    have c10_0 := (H10.out.cell 0).trans (show _ = some (.int .i64 0) from rfl)
                                    have f10_0 := H10.out.frozen 0
                                    have c10_1 := (H10.out.cell 1).trans (show _ = some (.int .i64 0) from rfl)
                                    have f10_1 := H10.out.frozen 1
                                    have c10_2 := (H10.out.cell 2).trans (show _ = some (.int .i64 0) from rfl)
                                    have f10_2 := H10.out.frozen 2
                                    have c10_3 := (H10.out.cell 3).trans (show _ = some (.int .i64 0) from rfl)
                                    have f10_3 := H10.out.frozen 3
                                    have c10_4 := (H10.out.cell 4).trans (show _ = some (.int .i64 0) from rfl)
                                    have f10_4 := H10.out.frozen 4
                                    have c10_5 := (H10.out.cell 5).trans (show _ = some (.int .i64 0) from rfl)
                                    have f10_5 := H10.out.frozen 5
                                    have c10_6 := (H10.out.cell 6).trans (show _ = some (.int .i64 0) from rfl)
                                    have f10_6 := H10.out.frozen 6
                                    have c11_0 := (H11.out.cell 0).trans (show _ = some (.int .i64 0) from rfl)
                                    have f11_0 := H11.out.frozen 0
                                    have c11_1 := (H11.out.cell 1).trans (show _ = some (.int .i64 0) from rfl)
                                    have f11_1 := H11.out.frozen 1
                                    have c11_2 := (H11.out.cell 2).trans (show _ = some (.int .i64 0) from rfl)
                                    have f11_2 := H11.out.frozen 2
                                    have c11_3 := (H11.out.cell 3).trans (show _ = some (.int .i64 0) from rfl)
                                    have f11_3 := H11.out.frozen 3
                                    have c11_4 := (H11.out.cell 4).trans (show _ = some (.int .i64 0) from rfl)
                                    have f11_4 := H11.out.frozen 4
                                    have c11_5 := (H11.out.cell 5).trans (show _ = some (.int .i64 0) from rfl)
                                    have f11_5 := H11.out.frozen 5
                                    have c11_6 := (H11.out.cell 6).trans (show _ = some (.int .i64 0) from rfl)
                                    have f11_6 := H11.out.frozen 6
                                    have hk10 := ((((((((((((((H10.out.set_ 0 (.int .i64 2)).set_ 1 (.int .i64 x.U.n)).set_ 2 (.int .i64 x.C.n)).set_ 3 (.int .i64 x.N.n)).set_ 4 (.int .i64 x.Q.n)).set_ 5 (.int .i64 x.E.n)).set_ 6 (.int .i64 x.T.n)).far (p := ⟨g11, 0, none⟩) HNE (.int .i64 2)).far (p := ⟨g11, 1, none⟩) HNE (.int .i64 z.U.n)).far (p := ⟨g11, 2, none⟩) HNE (.int .i64 z.C.n)).far (p := ⟨g11, 3, none⟩) HNE (.int .i64 z.N.n)).far (p := ⟨g11, 4, none⟩) HNE (.int .i64 z.Q.n)).far (p := ⟨g11, 5, none⟩) HNE (.int .i64 z.E.n)).far (p := ⟨g11, 6, none⟩) HNE (.int .i64 z.T.n))
                                    have hk11 := ((((((((((((((H11.out.far (p := ⟨g10, 0, none⟩) hNE2 (.int .i64 2)).far (p := ⟨g10, 1, none⟩) hNE2 (.int .i64 x.U.n)).far (p := ⟨g10, 2, none⟩) hNE2 (.int .i64 x.C.n)).far (p := ⟨g10, 3, none⟩) hNE2 (.int .i64 x.N.n)).far (p := ⟨g10, 4, none⟩) hNE2 (.int .i64 x.Q.n)).far (p := ⟨g10, 5, none⟩) hNE2 (.int .i64 x.E.n)).far (p := ⟨g10, 6, none⟩) hNE2 (.int .i64 x.T.n)).set_ 0 (.int .i64 2)).set_ 1 (.int .i64 z.U.n)).set_ 2 (.int .i64 z.C.n)).set_ 3 (.int .i64 z.N.n)).set_ 4 (.int .i64 z.Q.n)).set_ 5 (.int .i64 z.E.n)).set_ 6 (.int .i64 z.T.n))
                                    have hbq := (B2.far2 (i := 6) (B2.far2 (i := 5) (B2.far2 (i := 4) (B2.far2 (i := 3) (B2.far2 (i := 2) (B2.far2 (i := 1) (B2.far2 (i := 0) (B2.far2 (i := 6) (B2.far2 (i := 5) (B2.far2 (i := 4) (B2.far2 (i := 3) (B2.far2 (i := 2) (B2.far2 (i := 1) (B2.far2 (i := 0) HBq.out HL10 (.int .i64 2)) HL10 (.int .i64 x.U.n)) HL10 (.int .i64 x.C.n)) HL10 (.int .i64 x.N.n)) HL10 (.int .i64 x.Q.n)) HL10 (.int .i64 x.E.n)) HL10 (.int .i64 x.T.n)) HL11 (.int .i64 2)) HL11 (.int .i64 z.U.n)) HL11 (.int .i64 z.C.n)) HL11 (.int .i64 z.N.n)) HL11 (.int .i64 z.Q.n)) HL11 (.int .i64 z.E.n)) HL11 (.int .i64 z.T.n))
                                    go_wp2_with fail
                                    go_meet
                                    case rel => exact ⟨g10, g11, rfl, rfl, Lib.hid hbq, Lib.hid ⟨by simpa using hk10, by simpa using hk11⟩⟩
                                case mt_16 =>
                                  exact AllReadyH.nil
                            case mt_15 =>
                              refine AllReadyH.cons rfl (fun K hK => ?st_17) ?mt_17
                              case st_17 =>
                                (refine step_alloc _ (by rfl) 40 #[.int .i64 0, .int .i64 0, .int .i64 0, .int .i64 0, .int .i64 0, .int .i64 0, .int .i64 0] (by go_simp) ?_; intro g10 Y3 hx3 hb3 hs3; have H10 := Lib.hid hx3; (try have HNE : g10 ≠ g11 := by have := H11.out.lt; omega); have HL10 : w.heap.size + 1 < g10 := (Nat.lt_of_lt_of_le HBq.out.size hs3); replace HBq := Lib.hid (B2.after HBq.out hb3); (try replace H11 := Lib.hid (H11.out.after hb3)); clear hx3 hb3 hs3)
                                refine hK.out _ _ ?kt_17 (fun hHeld => ?qt_17)
                                case kt_17 => ((try dsimp only); exact HSo.out _ HBq.out)
                                case qt_17 =>
                                  clear hK K
                                  (try simp only [Act.put]); (try simp only [List.setIfInBounds_toArray])
                                  refine wpAnyH_ready (rs := [3]) (by kernel_rfl) (by simp) ?_
                                  refine AllReadyH.cons rfl (fun K hK => ?st_18) ?mt_18
                                  case st_18 =>
                                    (refine step_call _ (by rfl) 10 #[.agg #[.string z.name, .int .i64 z.ver, .slice z.U.A z.U.n z.U.c, .slice z.C.A z.C.n z.C.c, .slice z.N.A z.N.n z.N.c, .slice z.Q.A z.Q.n z.Q.c, .slice z.E.A z.E.n z.E.c, .slice z.T.A z.T.n z.T.c]] (by go_simp) (HSz.out _) ?_; rintro e7 Y2 ⟨rfl, hc2⟩; refine ⟨_, rfl, ?_⟩; replace HBq := Lib.hid (B2.after HBq.out hc2); (try replace H10 := Lib.hid (H10.out.after hc2)); (try replace H11 := Lib.hid (H11.out.after hc2)); clear hc2)
                                    refine hK.out _ _ ?kt_18 (fun hHeld => ?qt_18)
                                    case kt_18 => ((try dsimp only); exact HSo.out _ HBq.out)
                                    case qt_18 =>
                                      clear hK K
                                      (try simp only [Act.put]); (try simp only [List.setIfInBounds_toArray])
                                      refine wpAnyH_done (by kernel_rfl) ?_ _
                                      clear hHeld
                                      show wpList _ _ _ _ _ _
                                      have hNE2 := HNE.symm
                                      have c10_0 := (H10.out.cell 0).trans (show _ = some (.int .i64 0) from rfl)
                                      have f10_0 := H10.out.frozen 0
                                      have c10_1 := (H10.out.cell 1).trans (show _ = some (.int .i64 0) from rfl)
                                      have f10_1 := H10.out.frozen 1
                                      have c10_2 := (H10.out.cell 2).trans (show _ = some (.int .i64 0) from rfl)
                                      have f10_2 := H10.out.frozen 2
                                      have c10_3 := (H10.out.cell 3).trans (show _ = some (.int .i64 0) from rfl)
                                      have f10_3 := H10.out.frozen 3
                                      have c10_4 := (H10.out.cell 4).trans (show _ = some (.int .i64 0) from rfl)
                                      have f10_4 := H10.out.frozen 4
                                      have c10_5 := (H10.out.cell 5).trans (show _ = some (.int .i64 0) from rfl)
                                      have f10_5 := H10.out.frozen 5
                                      have c10_6 := (H10.out.cell 6).trans (show _ = some (.int .i64 0) from rfl)
                                      have f10_6 := H10.out.frozen 6
                                      have c11_0 := (H11.out.cell 0).trans (show _ = some (.int .i64 0) from rfl)
                                      have f11_0 := H11.out.frozen 0
                                      have c11_1 := (H11.out.cell 1).trans (show _ = some (.int .i64 0) from rfl)
                                      have f11_1 := H11.out.frozen 1
                                      have c11_2 := (H11.out.cell 2).trans (show _ = some (.int .i64 0) from rfl)
                                      have f11_2 := H11.out.frozen 2
                                      have c11_3 := (H11.out.cell 3).trans (show _ = some (.int .i64 0) from rfl)
                                      have f11_3 := H11.out.frozen 3
                                      have c11_4 := (H11.out.cell 4).trans (show _ = some (.int .i64 0) from rfl)
                                      have f11_4 := H11.out.frozen 4
                                      have c11_5 := (H11.out.cell 5).trans (show _ = some (.int .i64 0) from rfl)
                                      have f11_5 := H11.out.frozen 5
                                      have c11_6 := (H11.out.cell 6).trans (show _ = some (.int .i64 0) from rfl)
                                      have f11_6 := H11.out.frozen 6
                                      have hk10 := ((((((((((((((H10.out.set_ 0 (.int .i64 2)).set_ 1 (.int .i64 x.U.n)).set_ 2 (.int .i64 x.C.n)).set_ 3 (.int .i64 x.N.n)).set_ 4 (.int .i64 x.Q.n)).set_ 5 (.int .i64 x.E.n)).set_ 6 (.int .i64 x.T.n)).far (p := ⟨g11, 0, none⟩) HNE (.int .i64 2)).far (p := ⟨g11, 1, none⟩) HNE (.int .i64 z.U.n)).far (p := ⟨g11, 2, none⟩) HNE (.int .i64 z.C.n)).far (p := ⟨g11, 3, none⟩) HNE (.int .i64 z.N.n)).far (p := ⟨g11, 4, none⟩) HNE (.int .i64 z.Q.n)).far (p := ⟨g11, 5, none⟩) HNE (.int .i64 z.E.n)).far (p := ⟨g11, 6, none⟩) HNE (.int .i64 z.T.n))
                                      have hk11 := ((((((((((((((H11.out.far (p := ⟨g10, 0, none⟩) hNE2 (.int .i64 2)).far (p := ⟨g10, 1, none⟩) hNE2 (.int .i64 x.U.n)).far (p := ⟨g10, 2, none⟩) hNE2 (.int .i64 x.C.n)).far (p := ⟨g10, 3, none⟩) hNE2 (.int .i64 x.N.n)).far (p := ⟨g10, 4, none⟩) hNE2 (.int .i64 x.Q.n)).far (p := ⟨g10, 5, none⟩) hNE2 (.int .i64 x.E.n)).far (p := ⟨g10, 6, none⟩) hNE2 (.int .i64 x.T.n)).set_ 0 (.int .i64 2)).set_ 1 (.int .i64 z.U.n)).set_ 2 (.int .i64 z.C.n)).set_ 3 (.int .i64 z.N.n)).set_ 4 (.int .i64 z.Q.n)).set_ 5 (.int .i64 z.E.n)).set_ 6 (.int .i64 z.T.n))
                                      have hbq := (B2.far2 (i := 6) (B2.far2 (i := 5) (B2.far2 (i := 4) (B2.far2 (i := 3) (B2.far2 (i := 2) (B2.far2 (i := 1) (B2.far2 (i := 0) (B2.far2 (i := 6) (B2.far2 (i := 5) (B2.far2 (i := 4) (B2.far2 (i := 3) (B2.far2 (i := 2) (B2.far2 (i := 1) (B2.far2 (i := 0) HBq.out HL10 (.int .i64 2)) HL10 (.int .i64 x.U.n)) HL10 (.int .i64 x.C.n)) HL10 (.int .i64 x.N.n)) HL10 (.int .i64 x.Q.n)) HL10 (.int .i64 x.E.n)) HL10 (.int .i64 x.T.n)) HL11 (.int .i64 2)) HL11 (.int .i64 z.U.n)) HL11 (.int .i64 z.C.n)) HL11 (.int .i64 z.N.n)) HL11 (.int .i64 z.Q.n)) HL11 (.int .i64 z.E.n)) HL11 (.int .i64 z.T.n))
                                      go_wp2_with fail
                                      go_meet
                                      case rel => exact ⟨g10, g11, rfl, rfl, Lib.hid hbq, Lib.hid ⟨by simpa using hk10, by simpa using hk11⟩⟩
                                  case mt_18 =>
                                    exact AllReadyH.nil
                              case mt_17 =>
                                exact AllReadyH.nil
                        case mt_14 =>
                          exact AllReadyH.nil
                case mt_3 =>
                  refine AllReadyH.cons rfl (fun K hK => ?st_19) ?mt_19
                  case st_19 =>
                    (refine step_alloc _ (by rfl) 40 #[.int .i64 0, .int .i64 0, .int .i64 0, .int .i64 0, .int .i64 0, .int .i64 0, .int .i64 0] (by go_simp) ?_; intro g10 Y3 hx3 hb3 hs3; have H10 := Lib.hid hx3; (try have HNE : g10 ≠ g11 := by have := H11.out.lt; omega); have HL10 : w.heap.size + 1 < g10 := (Nat.lt_of_lt_of_le HBq.out.size hs3); replace HBq := Lib.hid (B2.after HBq.out hb3); (try replace H11 := Lib.hid (H11.out.after hb3)); clear hx3 hb3 hs3)
                    refine hK.out _ _ ?kt_19 (fun hHeld => ?qt_19)
                    case kt_19 => ((try dsimp only); exact HSo.out _ HBq.out)
                    case qt_19 =>
                      clear hK K
                      (try simp only [Act.put]); (try simp only [List.setIfInBounds_toArray])
                      refine wpAnyH_ready (rs := [1, 5]) (by kernel_rfl) (by simp) ?_
                      refine AllReadyH.cons rfl (fun K hK => ?st_20) ?mt_20
                      case st_20 =>
                        (refine step_call _ (by rfl) 10 #[.agg #[.string x.name, .int .i64 x.ver, .slice x.U.A x.U.n x.U.c, .slice x.C.A x.C.n x.C.c, .slice x.N.A x.N.n x.N.c, .slice x.Q.A x.Q.n x.Q.c, .slice x.E.A x.E.n x.E.c, .slice x.T.A x.T.n x.T.c]] (by go_simp) (HSx.out _) ?_; rintro e6 Y1 ⟨rfl, hc1⟩; refine ⟨_, rfl, ?_⟩; replace HBq := Lib.hid (B2.after HBq.out hc1); (try replace H10 := Lib.hid (H10.out.after hc1)); (try replace H11 := Lib.hid (H11.out.after hc1)); clear hc1)
                        refine hK.out _ _ ?kt_20 (fun hHeld => ?qt_20)
                        case kt_20 => ((try dsimp only); exact HSo.out _ HBq.out)
                        case qt_20 =>
                          clear hK K
                          (try simp only [Act.put]); (try simp only [List.setIfInBounds_toArray])
                          refine wpAnyH_ready (rs := [3, 5]) (by kernel_rfl) (by simp) ?_
                          refine AllReadyH.cons rfl (fun K hK => ?st_21) ?mt_21
                          case st_21 =>
                            (refine step_call _ (by rfl) 10 #[.agg #[.string z.name, .int .i64 z.ver, .slice z.U.A z.U.n z.U.c, .slice z.C.A z.C.n z.C.c, .slice z.N.A z.N.n z.N.c, .slice z.Q.A z.Q.n z.Q.c, .slice z.E.A z.E.n z.E.c, .slice z.T.A z.T.n z.T.c]] (by go_simp) (HSz.out _) ?_; rintro e7 Y2 ⟨rfl, hc2⟩; refine ⟨_, rfl, ?_⟩; replace HBq := Lib.hid (B2.after HBq.out hc2); (try replace H10 := Lib.hid (H10.out.after hc2)); (try replace H11 := Lib.hid (H11.out.after hc2)); clear hc2)
                            refine hK.out _ _ ?kt_21 (fun hHeld => ?qt_21)
                            case kt_21 => ((try dsimp only); exact HSo.out _ HBq.out)
                            case qt_21 =>
                              clear hK K
                              (try simp only [Act.put]); (try simp only [List.setIfInBounds_toArray])
                              refine wpAnyH_ready (rs := [5]) (by kernel_rfl) (by simp) ?_
                              refine AllReadyH.cons rfl (fun K hK => ?st_22) ?mt_22
                              case st_22 =>
                                (refine step_alloc _ (by rfl) 40 #[.int .i64 0, .int .i64 0, .int .i64 0, .int .i64 0, .int .i64 0, .int .i64 0, .int .i64 0] (by go_simp) ?_; intro g11 Y4 hx4 hb4 hs4; have H11 := Lib.hid hx4; (try have HNE : g10 ≠ g11 := by have := H10.out.lt; omega); have HL11 : w.heap.size + 1 < g11 := (Nat.lt_of_lt_of_le HBq.out.size hs4); replace HBq := Lib.hid (B2.after HBq.out hb4); (try replace H10 := Lib.hid (H10.out.after hb4)); clear hx4 hb4 hs4)
                                refine hK.out _ _ ?kt_22 (fun hHeld => ?qt_22)
                                case kt_22 => ((try dsimp only); exact HSo.out _ HBq.out)
                                case qt_22 =>
                                  clear hK K
                                  (try simp only [Act.put]); (try simp only [List.setIfInBounds_toArray])
                                  refine wpAnyH_done (by kernel_rfl) ?_ _
                                  clear hHeld
                                  show wpList _ _ _ _ _ _
                                  have hNE2 := HNE.symm
                                  have c10_0 := (H10.out.cell 0).trans (show _ = some (.int .i64 0) from rfl)
                                  have f10_0 := H10.out.frozen 0
                                  have c10_1 := (H10.out.cell 1).trans (show _ = some (.int .i64 0) from rfl)
                                  have f10_1 := H10.out.frozen 1
                                  have c10_2 := (H10.out.cell 2).trans (show _ = some (.int .i64 0) from rfl)
                                  have f10_2 := H10.out.frozen 2
                                  have c10_3 := (H10.out.cell 3).trans (show _ = some (.int .i64 0) from rfl)
                                  have f10_3 := H10.out.frozen 3
                                  have c10_4 := (H10.out.cell 4).trans (show _ = some (.int .i64 0) from rfl)
                                  have f10_4 := H10.out.frozen 4
                                  have c10_5 := (H10.out.cell 5).trans (show _ = some (.int .i64 0) from rfl)
                                  have f10_5 := H10.out.frozen 5
                                  have c10_6 := (H10.out.cell 6).trans (show _ = some (.int .i64 0) from rfl)
                                  have f10_6 := H10.out.frozen 6
                                  have c11_0 := (H11.out.cell 0).trans (show _ = some (.int .i64 0) from rfl)
                                  have f11_0 := H11.out.frozen 0
                                  have c11_1 := (H11.out.cell 1).trans (show _ = some (.int .i64 0) from rfl)
                                  have f11_1 := H11.out.frozen 1
                                  have c11_2 := (H11.out.cell 2).trans (show _ = some (.int .i64 0) from rfl)
                                  have f11_2 := H11.out.frozen 2
                                  have c11_3 := (H11.out.cell 3).trans (show _ = some (.int .i64 0) from rfl)
                                  have f11_3 := H11.out.frozen 3
                                  have c11_4 := (H11.out.cell 4).trans (show _ = some (.int .i64 0) from rfl)
                                  have f11_4 := H11.out.frozen 4
                                  have c11_5 := (H11.out.cell 5).trans (show _ = some (.int .i64 0) from rfl)
                                  have f11_5 := H11.out.frozen 5
                                  have c11_6 := (H11.out.cell 6).trans (show _ = some (.int .i64 0) from rfl)
                                  have f11_6 := H11.out.frozen 6
                                  have hk10 := ((((((((((((((H10.out.set_ 0 (.int .i64 2)).set_ 1 (.int .i64 x.U.n)).set_ 2 (.int .i64 x.C.n)).set_ 3 (.int .i64 x.N.n)).set_ 4 (.int .i64 x.Q.n)).set_ 5 (.int .i64 x.E.n)).set_ 6 (.int .i64 x.T.n)).far (p := ⟨g11, 0, none⟩) HNE (.int .i64 2)).far (p := ⟨g11, 1, none⟩) HNE (.int .i64 z.U.n)).far (p := ⟨g11, 2, none⟩) HNE (.int .i64 z.C.n)).far (p := ⟨g11, 3, none⟩) HNE (.int .i64 z.N.n)).far (p := ⟨g11, 4, none⟩) HNE (.int .i64 z.Q.n)).far (p := ⟨g11, 5, none⟩) HNE (.int .i64 z.E.n)).far (p := ⟨g11, 6, none⟩) HNE (.int .i64 z.T.n))
                                  have hk11 := ((((((((((((((H11.out.far (p := ⟨g10, 0, none⟩) hNE2 (.int .i64 2)).far (p := ⟨g10, 1, none⟩) hNE2 (.int .i64 x.U.n)).far (p := ⟨g10, 2, none⟩) hNE2 (.int .i64 x.C.n)).far (p := ⟨g10, 3, none⟩) hNE2 (.int .i64 x.N.n)).far (p := ⟨g10, 4, none⟩) hNE2 (.int .i64 x.Q.n)).far (p := ⟨g10, 5, none⟩) hNE2 (.int .i64 x.E.n)).far (p := ⟨g10, 6, none⟩) hNE2 (.int .i64 x.T.n)).set_ 0 (.int .i64 2)).set_ 1 (.int .i64 z.U.n)).set_ 2 (.int .i64 z.C.n)).set_ 3 (.int .i64 z.N.n)).set_ 4 (.int .i64 z.Q.n)).set_ 5 (.int .i64 z.E.n)).set_ 6 (.int .i64 z.T.n))
                                  have hbq := (B2.far2 (i := 6) (B2.far2 (i := 5) (B2.far2 (i := 4) (B2.far2 (i := 3) (B2.far2 (i := 2) (B2.far2 (i := 1) (B2.far2 (i := 0) (B2.far2 (i := 6) (B2.far2 (i := 5) (B2.far2 (i := 4) (B2.far2 (i := 3) (B2.far2 (i := 2) (B2.far2 (i := 1) (B2.far2 (i := 0) HBq.out HL10 (.int .i64 2)) HL10 (.int .i64 x.U.n)) HL10 (.int .i64 x.C.n)) HL10 (.int .i64 x.N.n)) HL10 (.int .i64 x.Q.n)) HL10 (.int .i64 x.E.n)) HL10 (.int .i64 x.T.n)) HL11 (.int .i64 2)) HL11 (.int .i64 z.U.n)) HL11 (.int .i64 z.C.n)) HL11 (.int .i64 z.N.n)) HL11 (.int .i64 z.Q.n)) HL11 (.int .i64 z.E.n)) HL11 (.int .i64 z.T.n))
                                  go_wp2_with fail
                                  go_meet
                                  case rel => exact ⟨g10, g11, rfl, rfl, Lib.hid hbq, Lib.hid ⟨by simpa using hk10, by simpa using hk11⟩⟩
                              case mt_22 =>
                                exact AllReadyH.nil
                          case mt_21 =>
                            refine AllReadyH.cons rfl (fun K hK => ?st_23) ?mt_23
                            case st_23 =>
                              (refine step_alloc _ (by rfl) 40 #[.int .i64 0, .int .i64 0, .int .i64 0, .int .i64 0, .int .i64 0, .int .i64 0, .int .i64 0] (by go_simp) ?_; intro g11 Y4 hx4 hb4 hs4; have H11 := Lib.hid hx4; (try have HNE : g10 ≠ g11 := by have := H10.out.lt; omega); have HL11 : w.heap.size + 1 < g11 := (Nat.lt_of_lt_of_le HBq.out.size hs4); replace HBq := Lib.hid (B2.after HBq.out hb4); (try replace H10 := Lib.hid (H10.out.after hb4)); clear hx4 hb4 hs4)
                              refine hK.out _ _ ?kt_23 (fun hHeld => ?qt_23)
                              case kt_23 => ((try dsimp only); exact HSo.out _ HBq.out)
                              case qt_23 =>
                                clear hK K
                                (try simp only [Act.put]); (try simp only [List.setIfInBounds_toArray])
                                refine wpAnyH_ready (rs := [3]) (by kernel_rfl) (by simp) ?_
                                refine AllReadyH.cons rfl (fun K hK => ?st_24) ?mt_24
                                case st_24 =>
                                  (refine step_call _ (by rfl) 10 #[.agg #[.string z.name, .int .i64 z.ver, .slice z.U.A z.U.n z.U.c, .slice z.C.A z.C.n z.C.c, .slice z.N.A z.N.n z.N.c, .slice z.Q.A z.Q.n z.Q.c, .slice z.E.A z.E.n z.E.c, .slice z.T.A z.T.n z.T.c]] (by go_simp) (HSz.out _) ?_; rintro e7 Y2 ⟨rfl, hc2⟩; refine ⟨_, rfl, ?_⟩; replace HBq := Lib.hid (B2.after HBq.out hc2); (try replace H10 := Lib.hid (H10.out.after hc2)); (try replace H11 := Lib.hid (H11.out.after hc2)); clear hc2)
                                  refine hK.out _ _ ?kt_24 (fun hHeld => ?qt_24)
                                  case kt_24 => ((try dsimp only); exact HSo.out _ HBq.out)
                                  case qt_24 =>
                                    clear hK K
                                    (try simp only [Act.put]); (try simp only [List.setIfInBounds_toArray])
                                    refine wpAnyH_done (by kernel_rfl) ?_ _
                                    clear hHeld
                                    show wpList _ _ _ _ _ _
                                    have hNE2 := HNE.symm
                                    have c10_0 := (H10.out.cell 0).trans (show _ = some (.int .i64 0) from rfl)
                                    have f10_0 := H10.out.frozen 0
                                    have c10_1 := (H10.out.cell 1).trans (show _ = some (.int .i64 0) from rfl)
                                    have f10_1 := H10.out.frozen 1
                                    have c10_2 := (H10.out.cell 2).trans (show _ = some (.int .i64 0) from rfl)
                                    have f10_2 := H10.out.frozen 2
                                    have c10_3 := (H10.out.cell 3).trans (show _ = some (.int .i64 0) from rfl)
                                    have f10_3 := H10.out.frozen 3
                                    have c10_4 := (H10.out.cell 4).trans (show _ = some (.int .i64 0) from rfl)
                                    have f10_4 := H10.out.frozen 4
                                    have c10_5 := (H10.out.cell 5).trans (show _ = some (.int .i64 0) from rfl)
                                    have f10_5 := H10.out.frozen 5
                                    have c10_6 := (H10.out.cell 6).trans (show _ = some (.int .i64 0) from rfl)
                                    have f10_6 := H10.out.frozen 6
                                    have c11_0 := (H11.out.cell 0).trans (show _ = some (.int .i64 0) from rfl)
                                    have f11_0 := H11.out.frozen 0
                                    have c11_1 := (H11.out.cell 1).trans (show _ = some (.int .i64 0) from rfl)
                                    have f11_1 := H11.out.frozen 1
                                    have c11_2 := (H11.out.cell 2).trans (show _ = some (.int .i64 0) from rfl)
                                    have f11_2 := H11.out.frozen 2
                                    have c11_3 := (H11.out.cell 3).trans (show _ = some (.int .i64 0) from rfl)
                                    have f11_3 := H11.out.frozen 3
                                    have c11_4 := (H11.out.cell 4).trans (show _ = some (.int .i64 0) from rfl)
                                    have f11_4 := H11.out.frozen 4
                                    have c11_5 := (H11.out.cell 5).trans (show _ = some (.int .i64 0) from rfl)
                                    have f11_5 := H11.out.frozen 5
                                    have c11_6 := (H11.out.cell 6).trans (show _ = some (.int .i64 0) from rfl)
                                    have f11_6 := H11.out.frozen 6
                                    have hk10 := ((((((((((((((H10.out.set_ 0 (.int .i64 2)).set_ 1 (.int .i64 x.U.n)).set_ 2 (.int .i64 x.C.n)).set_ 3 (.int .i64 x.N.n)).set_ 4 (.int .i64 x.Q.n)).set_ 5 (.int .i64 x.E.n)).set_ 6 (.int .i64 x.T.n)).far (p := ⟨g11, 0, none⟩) HNE (.int .i64 2)).far (p := ⟨g11, 1, none⟩) HNE (.int .i64 z.U.n)).far (p := ⟨g11, 2, none⟩) HNE (.int .i64 z.C.n)).far (p := ⟨g11, 3, none⟩) HNE (.int .i64 z.N.n)).far (p := ⟨g11, 4, none⟩) HNE (.int .i64 z.Q.n)).far (p := ⟨g11, 5, none⟩) HNE (.int .i64 z.E.n)).far (p := ⟨g11, 6, none⟩) HNE (.int .i64 z.T.n))
                                    have hk11 := ((((((((((((((H11.out.far (p := ⟨g10, 0, none⟩) hNE2 (.int .i64 2)).far (p := ⟨g10, 1, none⟩) hNE2 (.int .i64 x.U.n)).far (p := ⟨g10, 2, none⟩) hNE2 (.int .i64 x.C.n)).far (p := ⟨g10, 3, none⟩) hNE2 (.int .i64 x.N.n)).far (p := ⟨g10, 4, none⟩) hNE2 (.int .i64 x.Q.n)).far (p := ⟨g10, 5, none⟩) hNE2 (.int .i64 x.E.n)).far (p := ⟨g10, 6, none⟩) hNE2 (.int .i64 x.T.n)).set_ 0 (.int .i64 2)).set_ 1 (.int .i64 z.U.n)).set_ 2 (.int .i64 z.C.n)).set_ 3 (.int .i64 z.N.n)).set_ 4 (.int .i64 z.Q.n)).set_ 5 (.int .i64 z.E.n)).set_ 6 (.int .i64 z.T.n))
                                    have hbq := (B2.far2 (i := 6) (B2.far2 (i := 5) (B2.far2 (i := 4) (B2.far2 (i := 3) (B2.far2 (i := 2) (B2.far2 (i := 1) (B2.far2 (i := 0) (B2.far2 (i := 6) (B2.far2 (i := 5) (B2.far2 (i := 4) (B2.far2 (i := 3) (B2.far2 (i := 2) (B2.far2 (i := 1) (B2.far2 (i := 0) HBq.out HL10 (.int .i64 2)) HL10 (.int .i64 x.U.n)) HL10 (.int .i64 x.C.n)) HL10 (.int .i64 x.N.n)) HL10 (.int .i64 x.Q.n)) HL10 (.int .i64 x.E.n)) HL10 (.int .i64 x.T.n)) HL11 (.int .i64 2)) HL11 (.int .i64 z.U.n)) HL11 (.int .i64 z.C.n)) HL11 (.int .i64 z.N.n)) HL11 (.int .i64 z.Q.n)) HL11 (.int .i64 z.E.n)) HL11 (.int .i64 z.T.n))
                                    go_wp2_with fail
                                    go_meet
                                    case rel => exact ⟨g10, g11, rfl, rfl, Lib.hid hbq, Lib.hid ⟨by simpa using hk10, by simpa using hk11⟩⟩
                                case mt_24 =>
                                  exact AllReadyH.nil
                            case mt_23 =>
                              exact AllReadyH.nil
                      case mt_20 =>
                        refine AllReadyH.cons rfl (fun K hK => ?st_25) ?mt_25
                        case st_25 =>
                          (refine step_alloc _ (by rfl) 40 #[.int .i64 0, .int .i64 0, .int .i64 0, .int .i64 0, .int .i64 0, .int .i64 0, .int .i64 0] (by go_simp) ?_; intro g11 Y4 hx4 hb4 hs4; have H11 := Lib.hid hx4; (try have HNE : g10 ≠ g11 := by have := H10.out.lt; omega); have HL11 : w.heap.size + 1 < g11 := (Nat.lt_of_lt_of_le HBq.out.size hs4); replace HBq := Lib.hid (B2.after HBq.out hb4); (try replace H10 := Lib.hid (H10.out.after hb4)); clear hx4 hb4 hs4)
                          refine hK.out _ _ ?kt_25 (fun hHeld => ?qt_25)
                          case kt_25 => ((try dsimp only); exact HSo.out _ HBq.out)
                          case qt_25 =>
                            clear hK K
                            (try simp only [Act.put]); (try simp only [List.setIfInBounds_toArray])
                            refine wpAnyH_ready (rs := [1]) (by kernel_rfl) (by simp) ?_
                            refine AllReadyH.cons rfl (fun K hK => ?st_26) ?mt_26
                            case st_26 =>
                              (refine step_call _ (by rfl) 10 #[.agg #[.string x.name, .int .i64 x.ver, .slice x.U.A x.U.n x.U.c, .slice x.C.A x.C.n x.C.c, .slice x.N.A x.N.n x.N.c, .slice x.Q.A x.Q.n x.Q.c, .slice x.E.A x.E.n x.E.c, .slice x.T.A x.T.n x.T.c]] (by go_simp) (HSx.out _) ?_; rintro e6 Y1 ⟨rfl, hc1⟩; refine ⟨_, rfl, ?_⟩; replace HBq := Lib.hid (B2.after HBq.out hc1); (try replace H10 := Lib.hid (H10.out.after hc1)); (try replace H11 := Lib.hid (H11.out.after hc1)); clear hc1)
                              refine hK.out _ _ ?kt_26 (fun hHeld => ?qt_26)
                              case kt_26 => ((try dsimp only); exact HSo.out _ HBq.out)
                              case qt_26 =>
                                clear hK K
                                (try simp only [Act.put]); (try simp only [List.setIfInBounds_toArray])
                                refine wpAnyH_ready (rs := [3]) (by kernel_rfl) (by simp) ?_
                                refine AllReadyH.cons rfl (fun K hK => ?st_27) ?mt_27
                                case st_27 =>
                                  (refine step_call _ (by rfl) 10 #[.agg #[.string z.name, .int .i64 z.ver, .slice z.U.A z.U.n z.U.c, .slice z.C.A z.C.n z.C.c, .slice z.N.A z.N.n z.N.c, .slice z.Q.A z.Q.n z.Q.c, .slice z.E.A z.E.n z.E.c, .slice z.T.A z.T.n z.T.c]] (by go_simp) (HSz.out _) ?_; rintro e7 Y2 ⟨rfl, hc2⟩; refine ⟨_, rfl, ?_⟩; replace HBq := Lib.hid (B2.after HBq.out hc2); (try replace H10 := Lib.hid (H10.out.after hc2)); (try replace H11 := Lib.hid (H11.out.after hc2)); clear hc2)
                                  refine hK.out _ _ ?kt_27 (fun hHeld => ?qt_27)
                                  case kt_27 => ((try dsimp only); exact HSo.out _ HBq.out)
                                  case qt_27 =>
                                    clear hK K
                                    (try simp only [Act.put]); (try simp only [List.setIfInBounds_toArray])
                                    refine wpAnyH_done (by kernel_rfl) ?_ _
                                    clear hHeld
                                    show wpList _ _ _ _ _ _
                                    have hNE2 := HNE.symm
                                    have c10_0 := (H10.out.cell 0).trans (show _ = some (.int .i64 0) from rfl)
                                    have f10_0 := H10.out.frozen 0
                                    have c10_1 := (H10.out.cell 1).trans (show _ = some (.int .i64 0) from rfl)
                                    have f10_1 := H10.out.frozen 1
                                    have c10_2 := (H10.out.cell 2).trans (show _ = some (.int .i64 0) from rfl)
                                    have f10_2 := H10.out.frozen 2
                                    have c10_3 := (H10.out.cell 3).trans (show _ = some (.int .i64 0) from rfl)
                                    have f10_3 := H10.out.frozen 3
                                    have c10_4 := (H10.out.cell 4).trans (show _ = some (.int .i64 0) from rfl)
                                    have f10_4 := H10.out.frozen 4
                                    have c10_5 := (H10.out.cell 5).trans (show _ = some (.int .i64 0) from rfl)
                                    have f10_5 := H10.out.frozen 5
                                    have c10_6 := (H10.out.cell 6).trans (show _ = some (.int .i64 0) from rfl)
                                    have f10_6 := H10.out.frozen 6
                                    have c11_0 := (H11.out.cell 0).trans (show _ = some (.int .i64 0) from rfl)
                                    have f11_0 := H11.out.frozen 0
                                    have c11_1 := (H11.out.cell 1).trans (show _ = some (.int .i64 0) from rfl)
                                    have f11_1 := H11.out.frozen 1
                                    have c11_2 := (H11.out.cell 2).trans (show _ = some (.int .i64 0) from rfl)
                                    have f11_2 := H11.out.frozen 2
                                    have c11_3 := (H11.out.cell 3).trans (show _ = some (.int .i64 0) from rfl)
                                    have f11_3 := H11.out.frozen 3
                                    have c11_4 := (H11.out.cell 4).trans (show _ = some (.int .i64 0) from rfl)
                                    have f11_4 := H11.out.frozen 4
                                    have c11_5 := (H11.out.cell 5).trans (show _ = some (.int .i64 0) from rfl)
                                    have f11_5 := H11.out.frozen 5
                                    have c11_6 := (H11.out.cell 6).trans (show _ = some (.int .i64 0) from rfl)
                                    have f11_6 := H11.out.frozen 6
                                    have hk10 := ((((((((((((((H10.out.set_ 0 (.int .i64 2)).set_ 1 (.int .i64 x.U.n)).set_ 2 (.int .i64 x.C.n)).set_ 3 (.int .i64 x.N.n)).set_ 4 (.int .i64 x.Q.n)).set_ 5 (.int .i64 x.E.n)).set_ 6 (.int .i64 x.T.n)).far (p := ⟨g11, 0, none⟩) HNE (.int .i64 2)).far (p := ⟨g11, 1, none⟩) HNE (.int .i64 z.U.n)).far (p := ⟨g11, 2, none⟩) HNE (.int .i64 z.C.n)).far (p := ⟨g11, 3, none⟩) HNE (.int .i64 z.N.n)).far (p := ⟨g11, 4, none⟩) HNE (.int .i64 z.Q.n)).far (p := ⟨g11, 5, none⟩) HNE (.int .i64 z.E.n)).far (p := ⟨g11, 6, none⟩) HNE (.int .i64 z.T.n))
                                    have hk11 := ((((((((((((((H11.out.far (p := ⟨g10, 0, none⟩) hNE2 (.int .i64 2)).far (p := ⟨g10, 1, none⟩) hNE2 (.int .i64 x.U.n)).far (p := ⟨g10, 2, none⟩) hNE2 (.int .i64 x.C.n)).far (p := ⟨g10, 3, none⟩) hNE2 (.int .i64 x.N.n)).far (p := ⟨g10, 4, none⟩) hNE2 (.int .i64 x.Q.n)).far (p := ⟨g10, 5, none⟩) hNE2 (.int .i64 x.E.n)).far (p := ⟨g10, 6, none⟩) hNE2 (.int .i64 x.T.n)).set_ 0 (.int .i64 2)).set_ 1 (.int .i64 z.U.n)).set_ 2 (.int .i64 z.C.n)).set_ 3 (.int .i64 z.N.n)).set_ 4 (.int .i64 z.Q.n)).set_ 5 (.int .i64 z.E.n)).set_ 6 (.int .i64 z.T.n))
                                    have hbq := (B2.far2 (i := 6) (B2.far2 (i := 5) (B2.far2 (i := 4) (B2.far2 (i := 3) (B2.far2 (i := 2) (B2.far2 (i := 1) (B2.far2 (i := 0) (B2.far2 (i := 6) (B2.far2 (i := 5) (B2.far2 (i := 4) (B2.far2 (i := 3) (B2.far2 (i := 2) (B2.far2 (i := 1) (B2.far2 (i := 0) HBq.out HL10 (.int .i64 2)) HL10 (.int .i64 x.U.n)) HL10 (.int .i64 x.C.n)) HL10 (.int .i64 x.N.n)) HL10 (.int .i64 x.Q.n)) HL10 (.int .i64 x.E.n)) HL10 (.int .i64 x.T.n)) HL11 (.int .i64 2)) HL11 (.int .i64 z.U.n)) HL11 (.int .i64 z.C.n)) HL11 (.int .i64 z.N.n)) HL11 (.int .i64 z.Q.n)) HL11 (.int .i64 z.E.n)) HL11 (.int .i64 z.T.n))
                                    go_wp2_with fail
                                    go_meet
                                    case rel => exact ⟨g10, g11, rfl, rfl, Lib.hid hbq, Lib.hid ⟨by simpa using hk10, by simpa using hk11⟩⟩
                                case mt_27 =>
                                  exact AllReadyH.nil
                            case mt_26 =>
                              exact AllReadyH.nil
                        case mt_25 =>
                          exact AllReadyH.nil
                  case mt_19 =>
                    refine AllReadyH.cons rfl (fun K hK => ?st_28) ?mt_28
                    case st_28 =>
                      (refine step_alloc _ (by rfl) 40 #[.int .i64 0, .int .i64 0, .int .i64 0, .int .i64 0, .int .i64 0, .int .i64 0, .int .i64 0] (by go_simp) ?_; intro g11 Y4 hx4 hb4 hs4; have H11 := Lib.hid hx4; (try have HNE : g10 ≠ g11 := by have := H10.out.lt; omega); have HL11 : w.heap.size + 1 < g11 := (Nat.lt_of_lt_of_le HBq.out.size hs4); replace HBq := Lib.hid (B2.after HBq.out hb4); (try replace H10 := Lib.hid (H10.out.after hb4)); clear hx4 hb4 hs4)
                      refine hK.out _ _ ?kt_28 (fun hHeld => ?qt_28)
                      case kt_28 => ((try dsimp only); exact HSo.out _ HBq.out)
                      case qt_28 =>
                        clear hK K
                        (try simp only [Act.put]); (try simp only [List.setIfInBounds_toArray])
                        refine wpAnyH_ready (rs := [1, 4]) (by kernel_rfl) (by simp) ?_
                        refine AllReadyH.cons rfl (fun K hK => ?st_29) ?mt_29
                        case st_29 =>
                          (refine step_call _ (by rfl) 10 #[.agg #[.string x.name, .int .i64 x.ver, .slice x.U.A x.U.n x.U.c, .slice x.C.A x.C.n x.C.c, .slice x.N.A x.N.n x.N.c, .slice x.Q.A x.Q.n x.Q.c, .slice x.E.A x.E.n x.E.c, .slice x.T.A x.T.n x.T.c]] (by go_simp) (HSx.out _) ?_; rintro e6 Y1 ⟨rfl, hc1⟩; refine ⟨_, rfl, ?_⟩; replace HBq := Lib.hid (B2.after HBq.out hc1); (try replace H10 := Lib.hid (H10.out.after hc1)); (try replace H11 := Lib.hid (H11.out.after hc1)); clear hc1)
                          refine hK.out _ _ ?kt_29 (fun hHeld => ?qt_29)
                          case kt_29 => ((try dsimp only); exact HSo.out _ HBq.out)
                          case qt_29 =>
                            clear hK K
                            (try simp only [Act.put]); (try simp only [List.setIfInBounds_toArray])
                            refine wpAnyH_ready (rs := [3, 4]) (by kernel_rfl) (by simp) ?_
                            refine AllReadyH.cons rfl (fun K hK => ?st_30) ?mt_30
                            case st_30 =>
                              (refine step_call _ (by rfl) 10 #[.agg #[.string z.name, .int .i64 z.ver, .slice z.U.A z.U.n z.U.c, .slice z.C.A z.C.n z.C.c, .slice z.N.A z.N.n z.N.c, .slice z.Q.A z.Q.n z.Q.c, .slice z.E.A z.E.n z.E.c, .slice z.T.A z.T.n z.T.c]] (by go_simp) (HSz.out _) ?_; rintro e7 Y2 ⟨rfl, hc2⟩; refine ⟨_, rfl, ?_⟩; replace HBq := Lib.hid (B2.after HBq.out hc2); (try replace H10 := Lib.hid (H10.out.after hc2)); (try replace H11 := Lib.hid (H11.out.after hc2)); clear hc2)
                              refine hK.out _ _ ?kt_30 (fun hHeld => ?qt_30)
                              case kt_30 => ((try dsimp only); exact HSo.out _ HBq.out)
                              case qt_30 =>
                                clear hK K
                                (try simp only [Act.put]); (try simp only [List.setIfInBounds_toArray])
                                refine wpAnyH_ready (rs := [4]) (by kernel_rfl) (by simp) ?_
                                refine AllReadyH.cons rfl (fun K hK => ?st_31) ?mt_31
                                case st_31 =>
                                  (refine step_alloc _ (by rfl) 40 #[.int .i64 0, .int .i64 0, .int .i64 0, .int .i64 0, .int .i64 0, .int .i64 0, .int .i64 0] (by go_simp) ?_; intro g10 Y3 hx3 hb3 hs3; have H10 := Lib.hid hx3; (try have HNE : g10 ≠ g11 := by have := H11.out.lt; omega); have HL10 : w.heap.size + 1 < g10 := (Nat.lt_of_lt_of_le HBq.out.size hs3); replace HBq := Lib.hid (B2.after HBq.out hb3); (try replace H11 := Lib.hid (H11.out.after hb3)); clear hx3 hb3 hs3)
                                  refine hK.out _ _ ?kt_31 (fun hHeld => ?qt_31)
                                  case kt_31 => ((try dsimp only); exact HSo.out _ HBq.out)
                                  case qt_31 =>
                                    clear hK K
                                    (try simp only [Act.put]); (try simp only [List.setIfInBounds_toArray])
                                    refine wpAnyH_done (by kernel_rfl) ?_ _
                                    clear hHeld
                                    show wpList _ _ _ _ _ _
                                    have hNE2 := HNE.symm
                                    have c10_0 := (H10.out.cell 0).trans (show _ = some (.int .i64 0) from rfl)
                                    have f10_0 := H10.out.frozen 0
                                    have c10_1 := (H10.out.cell 1).trans (show _ = some (.int .i64 0) from rfl)
                                    have f10_1 := H10.out.frozen 1
                                    have c10_2 := (H10.out.cell 2).trans (show _ = some (.int .i64 0) from rfl)
                                    have f10_2 := H10.out.frozen 2
                                    have c10_3 := (H10.out.cell 3).trans (show _ = some (.int .i64 0) from rfl)
                                    have f10_3 := H10.out.frozen 3
                                    have c10_4 := (H10.out.cell 4).trans (show _ = some (.int .i64 0) from rfl)
                                    have f10_4 := H10.out.frozen 4
                                    have c10_5 := (H10.out.cell 5).trans (show _ = some (.int .i64 0) from rfl)
                                    have f10_5 := H10.out.frozen 5
                                    have c10_6 := (H10.out.cell 6).trans (show _ = some (.int .i64 0) from rfl)
                                    have f10_6 := H10.out.frozen 6
                                    have c11_0 := (H11.out.cell 0).trans (show _ = some (.int .i64 0) from rfl)
                                    have f11_0 := H11.out.frozen 0
                                    have c11_1 := (H11.out.cell 1).trans (show _ = some (.int .i64 0) from rfl)
                                    have f11_1 := H11.out.frozen 1
                                    have c11_2 := (H11.out.cell 2).trans (show _ = some (.int .i64 0) from rfl)
                                    have f11_2 := H11.out.frozen 2
                                    have c11_3 := (H11.out.cell 3).trans (show _ = some (.int .i64 0) from rfl)
                                    have f11_3 := H11.out.frozen 3
                                    have c11_4 := (H11.out.cell 4).trans (show _ = some (.int .i64 0) from rfl)
                                    have f11_4 := H11.out.frozen 4
                                    have c11_5 := (H11.out.cell 5).trans (show _ = some (.int .i64 0) from rfl)
                                    have f11_5 := H11.out.frozen 5
                                    have c11_6 := (H11.out.cell 6).trans (show _ = some (.int .i64 0) from rfl)
                                    have f11_6 := H11.out.frozen 6
                                    have hk10 := ((((((((((((((H10.out.set_ 0 (.int .i64 2)).set_ 1 (.int .i64 x.U.n)).set_ 2 (.int .i64 x.C.n)).set_ 3 (.int .i64 x.N.n)).set_ 4 (.int .i64 x.Q.n)).set_ 5 (.int .i64 x.E.n)).set_ 6 (.int .i64 x.T.n)).far (p := ⟨g11, 0, none⟩) HNE (.int .i64 2)).far (p := ⟨g11, 1, none⟩) HNE (.int .i64 z.U.n)).far (p := ⟨g11, 2, none⟩) HNE (.int .i64 z.C.n)).far (p := ⟨g11, 3, none⟩) HNE (.int .i64 z.N.n)).far (p := ⟨g11, 4, none⟩) HNE (.int .i64 z.Q.n)).far (p := ⟨g11, 5, none⟩) HNE (.int .i64 z.E.n)).far (p := ⟨g11, 6, none⟩) HNE (.int .i64 z.T.n))
                                    have hk11 := ((((((((((((((H11.out.far (p := ⟨g10, 0, none⟩) hNE2 (.int .i64 2)).far (p := ⟨g10, 1, none⟩) hNE2 (.int .i64 x.U.n)).far (p := ⟨g10, 2, none⟩) hNE2 (.int .i64 x.C.n)).far (p := ⟨g10, 3, none⟩) hNE2 (.int .i64 x.N.n)).far (p := ⟨g10, 4, none⟩) hNE2 (.int .i64 x.Q.n)).far (p := ⟨g10, 5, none⟩) hNE2 (.int .i64 x.E.n)).far (p := ⟨g10, 6, none⟩) hNE2 (.int .i64 x.T.n)).set_ 0 (.int .i64 2)).set_ 1 (.int .i64 z.U.n)).set_ 2 (.int .i64 z.C.n)).set_ 3 (.int .i64 z.N.n)).set_ 4 (.int .i64 z.Q.n)).set_ 5 (.int .i64 z.E.n)).set_ 6 (.int .i64 z.T.n))
                                    have hbq := (B2.far2 (i := 6) (B2.far2 (i := 5) (B2.far2 (i := 4) (B2.far2 (i := 3) (B2.far2 (i := 2) (B2.far2 (i := 1) (B2.far2 (i := 0) (B2.far2 (i := 6) (B2.far2 (i := 5) (B2.far2 (i := 4) (B2.far2 (i := 3) (B2.far2 (i := 2) (B2.far2 (i := 1) (B2.far2 (i := 0) HBq.out HL10 (.int .i64 2)) HL10 (.int .i64 x.U.n)) HL10 (.int .i64 x.C.n)) HL10 (.int .i64 x.N.n)) HL10 (.int .i64 x.Q.n)) HL10 (.int .i64 x.E.n)) HL10 (.int .i64 x.T.n)) HL11 (.int .i64 2)) HL11 (.int .i64 z.U.n)) HL11 (.int .i64 z.C.n)) HL11 (.int .i64 z.N.n)) HL11 (.int .i64 z.Q.n)) HL11 (.int .i64 z.E.n)) HL11 (.int .i64 z.T.n))
                                    go_wp2_with fail
                                    go_meet
                                    case rel => exact ⟨g10, g11, rfl, rfl, Lib.hid hbq, Lib.hid ⟨by simpa using hk10, by simpa using hk11⟩⟩
                                case mt_31 =>
                                  exact AllReadyH.nil
                            case mt_30 =>
                              refine AllReadyH.cons rfl (fun K hK => ?st_32) ?mt_32
                              case st_32 =>
                                (refine step_alloc _ (by rfl) 40 #[.int .i64 0, .int .i64 0, .int .i64 0, .int .i64 0, .int .i64 0, .int .i64 0, .int .i64 0] (by go_simp) ?_; intro g10 Y3 hx3 hb3 hs3; have H10 := Lib.hid hx3; (try have HNE : g10 ≠ g11 := by have := H11.out.lt; omega); have HL10 : w.heap.size + 1 < g10 := (Nat.lt_of_lt_of_le HBq.out.size hs3); replace HBq := Lib.hid (B2.after HBq.out hb3); (try replace H11 := Lib.hid (H11.out.after hb3)); clear hx3 hb3 hs3)
                                refine hK.out _ _ ?kt_32 (fun hHeld => ?qt_32)
                                case kt_32 => ((try dsimp only); exact HSo.out _ HBq.out)
                                case qt_32 =>
                                  clear hK K
                                  (try simp only [Act.put]); (try simp only [List.setIfInBounds_toArray])
                                  refine wpAnyH_ready (rs := [3]) (by kernel_rfl) (by simp) ?_
                                  refine AllReadyH.cons rfl (fun K hK => ?st_33) ?mt_33
                                  case st_33 =>
                                    (refine step_call _ (by rfl) 10 #[.agg #[.string z.name, .int .i64 z.ver, .slice z.U.A z.U.n z.U.c, .slice z.C.A z.C.n z.C.c, .slice z.N.A z.N.n z.N.c, .slice z.Q.A z.Q.n z.Q.c, .slice z.E.A z.E.n z.E.c, .slice z.T.A z.T.n z.T.c]] (by go_simp) (HSz.out _) ?_; rintro e7 Y2 ⟨rfl, hc2⟩; refine ⟨_, rfl, ?_⟩; replace HBq := Lib.hid (B2.after HBq.out hc2); (try replace H10 := Lib.hid (H10.out.after hc2)); (try replace H11 := Lib.hid (H11.out.after hc2)); clear hc2)
                                    refine hK.out _ _ ?kt_33 (fun hHeld => ?qt_33)
                                    case kt_33 => ((try dsimp only); exact HSo.out _ HBq.out)
                                    case qt_33 =>
                                      clear hK K
                                      (try simp only [Act.put]); (try simp only [List.setIfInBounds_toArray])
                                      refine wpAnyH_done (by kernel_rfl) ?_ _
                                      clear hHeld
                                      show wpList _ _ _ _ _ _
                                      have hNE2 := HNE.symm
                                      have c10_0 := (H10.out.cell 0).trans (show _ = some (.int .i64 0) from rfl)
                                      have f10_0 := H10.out.frozen 0
                                      have c10_1 := (H10.out.cell 1).trans (show _ = some (.int .i64 0) from rfl)
                                      have f10_1 := H10.out.frozen 1
                                      have c10_2 := (H10.out.cell 2).trans (show _ = some (.int .i64 0) from rfl)
                                      have f10_2 := H10.out.frozen 2
                                      have c10_3 := (H10.out.cell 3).trans (show _ = some (.int .i64 0) from rfl)
                                      have f10_3 := H10.out.frozen 3
                                      have c10_4 := (H10.out.cell 4).trans (show _ = some (.int .i64 0) from rfl)
                                      have f10_4 := H10.out.frozen 4
                                      have c10_5 := (H10.out.cell 5).trans (show _ = some (.int .i64 0) from rfl)
                                      have f10_5 := H10.out.frozen 5
                                      have c10_6 := (H10.out.cell 6).trans (show _ = some (.int .i64 0) from rfl)
                                      have f10_6 := H10.out.frozen 6
                                      have c11_0 := (H11.out.cell 0).trans (show _ = some (.int .i64 0) from rfl)
                                      have f11_0 := H11.out.frozen 0
                                      have c11_1 := (H11.out.cell 1).trans (show _ = some (.int .i64 0) from rfl)
                                      have f11_1 := H11.out.frozen 1
                                      have c11_2 := (H11.out.cell 2).trans (show _ = some (.int .i64 0) from rfl)
                                      have f11_2 := H11.out.frozen 2
                                      have c11_3 := (H11.out.cell 3).trans (show _ = some (.int .i64 0) from rfl)
                                      have f11_3 := H11.out.frozen 3
                                      have c11_4 := (H11.out.cell 4).trans (show _ = some (.int .i64 0) from rfl)
                                      have f11_4 := H11.out.frozen 4
                                      have c11_5 := (H11.out.cell 5).trans (show _ = some (.int .i64 0) from rfl)
                                      have f11_5 := H11.out.frozen 5
                                      have c11_6 := (H11.out.cell 6).trans (show _ = some (.int .i64 0) from rfl)
                                      have f11_6 := H11.out.frozen 6
                                      have hk10 := ((((((((((((((H10.out.set_ 0 (.int .i64 2)).set_ 1 (.int .i64 x.U.n)).set_ 2 (.int .i64 x.C.n)).set_ 3 (.int .i64 x.N.n)).set_ 4 (.int .i64 x.Q.n)).set_ 5 (.int .i64 x.E.n)).set_ 6 (.int .i64 x.T.n)).far (p := ⟨g11, 0, none⟩) HNE (.int .i64 2)).far (p := ⟨g11, 1, none⟩) HNE (.int .i64 z.U.n)).far (p := ⟨g11, 2, none⟩) HNE (.int .i64 z.C.n)).far (p := ⟨g11, 3, none⟩) HNE (.int .i64 z.N.n)).far (p := ⟨g11, 4, none⟩) HNE (.int .i64 z.Q.n)).far (p := ⟨g11, 5, none⟩) HNE (.int .i64 z.E.n)).far (p := ⟨g11, 6, none⟩) HNE (.int .i64 z.T.n))
                                      have hk11 := ((((((((((((((H11.out.far (p := ⟨g10, 0, none⟩) hNE2 (.int .i64 2)).far (p := ⟨g10, 1, none⟩) hNE2 (.int .i64 x.U.n)).far (p := ⟨g10, 2, none⟩) hNE2 (.int .i64 x.C.n)).far (p := ⟨g10, 3, none⟩) hNE2 (.int .i64 x.N.n)).far (p := ⟨g10, 4, none⟩) hNE2 (.int .i64 x.Q.n)).far (p := ⟨g10, 5, none⟩) hNE2 (.int .i64 x.E.n)).far (p := ⟨g10, 6, none⟩) hNE2 (.int .i64 x.T.n)).set_ 0 (.int .i64 2)).set_ 1 (.int .i64 z.U.n)).set_ 2 (.int .i64 z.C.n)).set_ 3 (.int .i64 z.N.n)).set_ 4 (.int .i64 z.Q.n)).set_ 5 (.int .i64 z.E.n)).set_ 6 (.int .i64 z.T.n))
                                      have hbq := (B2.far2 (i := 6) (B2.far2 (i := 5) (B2.far2 (i := 4) (B2.far2 (i := 3) (B2.far2 (i := 2) (B2.far2 (i := 1) (B2.far2 (i := 0) (B2.far2 (i := 6) (B2.far2 (i := 5) (B2.far2 (i := 4) (B2.far2 (i := 3) (B2.far2 (i := 2) (B2.far2 (i := 1) (B2.far2 (i := 0) HBq.out HL10 (.int .i64 2)) HL10 (.int .i64 x.U.n)) HL10 (.int .i64 x.C.n)) HL10 (.int .i64 x.N.n)) HL10 (.int .i64 x.Q.n)) HL10 (.int .i64 x.E.n)) HL10 (.int .i64 x.T.n)) HL11 (.int .i64 2)) HL11 (.int .i64 z.U.n)) HL11 (.int .i64 z.C.n)) HL11 (.int .i64 z.N.n)) HL11 (.int .i64 z.Q.n)) HL11 (.int .i64 z.E.n)) HL11 (.int .i64 z.T.n))
                                      go_wp2_with fail
                                      go_meet
                                      case rel => exact ⟨g10, g11, rfl, rfl, Lib.hid hbq, Lib.hid ⟨by simpa using hk10, by simpa using hk11⟩⟩
                                  case mt_33 =>
                                    exact AllReadyH.nil
                              case mt_32 =>
                                exact AllReadyH.nil
                        case mt_29 =>
                          refine AllReadyH.cons rfl (fun K hK => ?st_34) ?mt_34
                          case st_34 =>
                            (refine step_alloc _ (by rfl) 40 #[.int .i64 0, .int .i64 0, .int .i64 0, .int .i64 0, .int .i64 0, .int .i64 0, .int .i64 0] (by go_simp) ?_; intro g10 Y3 hx3 hb3 hs3; have H10 := Lib.hid hx3; (try have HNE : g10 ≠ g11 := by have := H11.out.lt; omega); have HL10 : w.heap.size + 1 < g10 := (Nat.lt_of_lt_of_le HBq.out.size hs3); replace HBq := Lib.hid (B2.after HBq.out hb3); (try replace H11 := Lib.hid (H11.out.after hb3)); clear hx3 hb3 hs3)
                            refine hK.out _ _ ?kt_34 (fun hHeld => ?qt_34)
                            case kt_34 => ((try dsimp only); exact HSo.out _ HBq.out)
                            case qt_34 =>
                              clear hK K
                              (try simp only [Act.put]); (try simp only [List.setIfInBounds_toArray])
                              refine wpAnyH_ready (rs := [1]) (by kernel_rfl) (by simp) ?_
                              refine AllReadyH.cons rfl (fun K hK => ?st_35) ?mt_35
                              case st_35 =>
                                (refine step_call _ (by rfl) 10 #[.agg #[.string x.name, .int .i64 x.ver, .slice x.U.A x.U.n x.U.c, .slice x.C.A x.C.n x.C.c, .slice x.N.A x.N.n x.N.c, .slice x.Q.A x.Q.n x.Q.c, .slice x.E.A x.E.n x.E.c, .slice x.T.A x.T.n x.T.c]] (by go_simp) (HSx.out _) ?_; rintro e6 Y1 ⟨rfl, hc1⟩; refine ⟨_, rfl, ?_⟩; replace HBq := Lib.hid (B2.after HBq.out hc1); (try replace H10 := Lib.hid (H10.out.after hc1)); (try replace H11 := Lib.hid (H11.out.after hc1)); clear hc1)
                                refine hK.out _ _ ?kt_35 (fun hHeld => ?qt_35)
                                case kt_35 => ((try dsimp only); exact HSo.out _ HBq.out)
                                case qt_35 =>
                                  clear hK K
                                  (try simp only [Act.put]); (try simp only [List.setIfInBounds_toArray])
                                  refine wpAnyH_ready (rs := [3]) (by kernel_rfl) (by simp) ?_
                                  refine AllReadyH.cons rfl (fun K hK => ?st_36) ?mt_36
                                  case st_36 =>
                                    (refine step_call _ (by rfl) 10 #[.agg #[.string z.name, .int .i64 z.ver, .slice z.U.A z.U.n z.U.c, .slice z.C.A z.C.n z.C.c, .slice z.N.A z.N.n z.N.c, .slice z.Q.A z.Q.n z.Q.c, .slice z.E.A z.E.n z.E.c, .slice z.T.A z.T.n z.T.c]] (by go_simp) (HSz.out _) ?_; rintro e7 Y2 ⟨rfl, hc2⟩; refine ⟨_, rfl, ?_⟩; replace HBq := Lib.hid (B2.after HBq.out hc2); (try replace H10 := Lib.hid (H10.out.after hc2)); (try replace H11 := Lib.hid (H11.out.after hc2)); clear hc2)
                                    refine hK.out _ _ ?kt_36 (fun hHeld => ?qt_36)
                                    case kt_36 => ((try dsimp only); exact HSo.out _ HBq.out)
                                    case qt_36 =>
                                      clear hK K
                                      (try simp only [Act.put]); (try simp only [List.setIfInBounds_toArray])
                                      refine wpAnyH_done (by kernel_rfl) ?_ _
                                      clear hHeld
                                      show wpList _ _ _ _ _ _
                                      have hNE2 := HNE.symm
                                      have c10_0 := (H10.out.cell 0).trans (show _ = some (.int .i64 0) from rfl)
                                      have f10_0 := H10.out.frozen 0
                                      have c10_1 := (H10.out.cell 1).trans (show _ = some (.int .i64 0) from rfl)
                                      have f10_1 := H10.out.frozen 1
                                      have c10_2 := (H10.out.cell 2).trans (show _ = some (.int .i64 0) from rfl)
                                      have f10_2 := H10.out.frozen 2
                                      have c10_3 := (H10.out.cell 3).trans (show _ = some (.int .i64 0) from rfl)
                                      have f10_3 := H10.out.frozen 3
                                      have c10_4 := (H10.out.cell 4).trans (show _ = some (.int .i64 0) from rfl)
                                      have f10_4 := H10.out.frozen 4
                                      have c10_5 := (H10.out.cell 5).trans (show _ = some (.int .i64 0) from rfl)
                                      have f10_5 := H10.out.frozen 5
                                      have c10_6 := (H10.out.cell 6).trans (show _ = some (.int .i64 0) from rfl)
                                      have f10_6 := H10.out.frozen 6
                                      have c11_0 := (H11.out.cell 0).trans (show _ = some (.int .i64 0) from rfl)
                                      have f11_0 := H11.out.frozen 0
                                      have c11_1 := (H11.out.cell 1).trans (show _ = some (.int .i64 0) from rfl)
                                      have f11_1 := H11.out.frozen 1
                                      have c11_2 := (H11.out.cell 2).trans (show _ = some (.int .i64 0) from rfl)
                                      have f11_2 := H11.out.frozen 2
                                      have c11_3 := (H11.out.cell 3).trans (show _ = some (.int .i64 0) from rfl)
                                      have f11_3 := H11.out.frozen 3
                                      have c11_4 := (H11.out.cell 4).trans (show _ = some (.int .i64 0) from rfl)
                                      have f11_4 := H11.out.frozen 4
                                      have c11_5 := (H11.out.cell 5).trans (show _ = some (.int .i64 0) from rfl)
                                      have f11_5 := H11.out.frozen 5
                                      have c11_6 := (H11.out.cell 6).trans (show _ = some (.int .i64 0) from rfl)
                                      have f11_6 := H11.out.frozen 6
                                      have hk10 := ((((((((((((((H10.out.set_ 0 (.int .i64 2)).set_ 1 (.int .i64 x.U.n)).set_ 2 (.int .i64 x.C.n)).set_ 3 (.int .i64 x.N.n)).set_ 4 (.int .i64 x.Q.n)).set_ 5 (.int .i64 x.E.n)).set_ 6 (.int .i64 x.T.n)).far (p := ⟨g11, 0, none⟩) HNE (.int .i64 2)).far (p := ⟨g11, 1, none⟩) HNE (.int .i64 z.U.n)).far (p := ⟨g11, 2, none⟩) HNE (.int .i64 z.C.n)).far (p := ⟨g11, 3, none⟩) HNE (.int .i64 z.N.n)).far (p := ⟨g11, 4, none⟩) HNE (.int .i64 z.Q.n)).far (p := ⟨g11, 5, none⟩) HNE (.int .i64 z.E.n)).far (p := ⟨g11, 6, none⟩) HNE (.int .i64 z.T.n))
                                      have hk11 := ((((((((((((((H11.out.far (p := ⟨g10, 0, none⟩) hNE2 (.int .i64 2)).far (p := ⟨g10, 1, none⟩) hNE2 (.int .i64 x.U.n)).far (p := ⟨g10, 2, none⟩) hNE2 (.int .i64 x.C.n)).far (p := ⟨g10, 3, none⟩) hNE2 (.int .i64 x.N.n)).far (p := ⟨g10, 4, none⟩) hNE2 (.int .i64 x.Q.n)).far (p := ⟨g10, 5, none⟩) hNE2 (.int .i64 x.E.n)).far (p := ⟨g10, 6, none⟩) hNE2 (.int .i64 x.T.n)).set_ 0 (.int .i64 2)).set_ 1 (.int .i64 z.U.n)).set_ 2 (.int .i64 z.C.n)).set_ 3 (.int .i64 z.N.n)).set_ 4 (.int .i64 z.Q.n)).set_ 5 (.int .i64 z.E.n)).set_ 6 (.int .i64 z.T.n))
                                      have hbq := (B2.far2 (i := 6) (B2.far2 (i := 5) (B2.far2 (i := 4) (B2.far2 (i := 3) (B2.far2 (i := 2) (B2.far2 (i := 1) (B2.far2 (i := 0) (B2.far2 (i := 6) (B2.far2 (i := 5) (B2.far2 (i := 4) (B2.far2 (i := 3) (B2.far2 (i := 2) (B2.far2 (i := 1) (B2.far2 (i := 0) HBq.out HL10 (.int .i64 2)) HL10 (.int .i64 x.U.n)) HL10 (.int .i64 x.C.n)) HL10 (.int .i64 x.N.n)) HL10 (.int .i64 x.Q.n)) HL10 (.int .i64 x.E.n)) HL10 (.int .i64 x.T.n)) HL11 (.int .i64 2)) HL11 (.int .i64 z.U.n)) HL11 (.int .i64 z.C.n)) HL11 (.int .i64 z.N.n)) HL11 (.int .i64 z.Q.n)) HL11 (.int .i64 z.E.n)) HL11 (.int .i64 z.T.n))
                                      go_wp2_with fail
                                      go_meet
                                      case rel => exact ⟨g10, g11, rfl, rfl, Lib.hid hbq, Lib.hid ⟨by simpa using hk10, by simpa using hk11⟩⟩
                                  case mt_36 =>
                                    exact AllReadyH.nil
                              case mt_35 =>
                                exact AllReadyH.nil
                          case mt_34 =>
                            exact AllReadyH.nil
                    case mt_28 =>
                      exact AllReadyH.nil
        case rest =>
          obtain ⟨g10, g11, rfl, rfl, HQ6, HA7⟩ := hcut
          rename World => wc
          rcases HV6.out with rfl | rfl | rfl | rfl | rfl | rfl
          · clear HV6
            have n11 := (HA7.out.2.cell 1).trans (show _ = some (.int .i64 z.U.n) from rfl)
            by_cases hn : z.U.n = 0
            · have d0 : ((z.U.n : Int) == 0) = true := by rw [hn]; rfl
              clear hn
              go_wp2_with fail
              go_ret
              exact ⟨rfl, HQ6.out.bel⟩
            · have d0 : ((z.U.n : Int) == 0) = false := by rw [beq_eq_false_iff_ne]; omega
              have HZL : Hid (z.U.n = z.us.length) := Lib.hid HZ.out.un
              have hle : z.U.n ≤ 1200 := by have := HFH.out.n; have := HZL.out; omega
              have hpos : 0 < z.U.n := by omega
              have hk := restV_lt at_ hpos
              clear hn
              go_wp2_with fail
              refine (HRk.out _ _ hpos (by omega)).mono ?_
              rintro e w7 ⟨rfl, rfl⟩
              generalize restV at_ z.U.n = kk at hk ⊢
              have a0 := (HQ6.out.a.cell 0).trans (show _ = some (.string x.name) from rfl)
              have a1 := (HQ6.out.a.cell 1).trans (show _ = some (.int .i64 x.ver) from rfl)
              have a2 := (HQ6.out.a.cell 2).trans (show _ = some (.slice x.U.A x.U.n x.U.c) from rfl)
              have a3 := (HQ6.out.a.cell 3).trans (show _ = some (.slice x.C.A x.C.n x.C.c) from rfl)
              have a4 := (HQ6.out.a.cell 4).trans (show _ = some (.slice x.N.A x.N.n x.N.c) from rfl)
              have a5 := (HQ6.out.a.cell 5).trans (show _ = some (.slice x.Q.A x.Q.n x.Q.c) from rfl)
              have a6 := (HQ6.out.a.cell 6).trans (show _ = some (.slice x.E.A x.E.n x.E.c) from rfl)
              have a7 := (HQ6.out.a.cell 7).trans (show _ = some (.slice x.T.A x.T.n x.T.c) from rfl)
              go_wp2_with fail
              clear a0 a1 a2 a3 a4 a5 a6 a7 d0 n11
              refine (HTw.out HFG.out _ HQ6.out.bel).mono ?_
              rintro e w8 ⟨y, rfl, hy, hE, hb8, hO⟩
              have HB8 : Hid (Below w.heap.size w w8) := Lib.hid (HQ6.out.bel.trans (hb8.mono HQ6.out.bel.size))
              have HS : Hid (HSt w x z y w8.heap.size g10 (w8.alloc (.cells #[.string y.name, .int .i64 y.ver, .slice y.U.A y.U.n y.U.c, .slice y.C.A y.C.n y.C.c, .slice y.N.A y.N.n y.N.c, .slice y.Q.A y.Q.n y.Q.c, .slice y.E.A y.E.n y.E.c, .slice y.T.A y.T.n y.T.c] 29)).drew) := Lib.hid (HSt.after (Y := w8.alloc (.cells #[.string y.name, .int .i64 y.ver, .slice y.U.A y.U.n y.U.c, .slice y.C.A y.C.n y.C.c, .slice y.N.A y.N.n y.N.c, .slice y.Q.A y.Q.n y.Q.c, .slice y.E.A y.E.n y.E.c, .slice y.T.A y.T.n y.T.c] 29)) ⟨(HQ6.out.after hb8).after (below_of_alloc _), Blk.new _ _ _, ((HA7.out.1).after hb8).alloc _, (TwinOwn.lower hO (w := w) (HQ6.out.bel.size)).after (below_of_alloc _), langK.mono (langK.below hy (below_of_alloc _)) (Nat.le_refl _) (below_of_alloc _).size⟩ (drew1_below _))
              have HGX : Hid (w.heap.size + 1 < w8.heap.size) := Lib.hid (by have := (HQ6.out.after hb8).size; exact this)
              have HE := Lib.hid hE
              have HYN : Hid (y.U.n = x.U.n) := Lib.hid (twin_nstr hE hy HX.out)
              have hyl : y.U.n ≤ 1200 := by have h0 := HYN.out; have h1 := HFG.out.n; have h2 : x.U.n = x.us.length := HX.out.un; omega
              clear hy hE hb8 hO
              obtain ⟨b, o, hA, _, hb, hat⟩ := Row.at_ HZ.out.u (by omega)
              obtain ⟨q, hq⟩ : ∃ q, z.us[kk]? = some q := ⟨z.us[kk]'(by have := HZL.out; omega), List.getElem?_eq_getElem _⟩
              have q0 := hat kk (.string q) (by rw [strCells, List.getElem?_map, hq]; rfl)
              have HSo : Hid (∀ Y, B2 w 29 #[.string x.name, .int .i64 x.ver, .slice x.U.A x.U.n x.U.c, .slice x.C.A x.C.n x.C.c, .slice x.N.A x.N.n x.N.c, .slice x.Q.A x.Q.n x.Q.c, .slice x.E.A x.E.n x.E.c, .slice x.T.A x.T.n x.T.c] #[.string z.name, .int .i64 z.ver, .slice z.U.A z.U.n z.U.c, .slice z.C.A z.C.n z.C.c, .slice z.N.A z.N.n z.N.c, .slice z.Q.A z.Q.n z.Q.c, .slice z.E.A z.E.n z.E.c, .slice z.T.A z.T.n z.T.c] Y → Blk Y w8.heap.size 29 #[.string y.name, .int .i64 y.ver, .slice y.U.A y.U.n y.U.c, .slice y.C.A y.C.n y.C.c, .slice y.N.A y.N.n y.N.c, .slice y.Q.A y.Q.n y.Q.c, .slice y.E.A y.E.n y.E.c, .slice y.T.A y.T.n y.T.c] → (Y.cell? ⟨w8.heap.size, 2, none⟩ = some (.slice y.U.A y.U.n y.U.c) ∧ Y.cell? ⟨w.heap.size + 1, 2, none⟩ = some (.slice (some ⟨b, o, none⟩) z.U.n z.U.c) ∧ Y.cell? ⟨b, o + kk, none⟩ = some (.string q))) := Lib.hid fun Y h h2 => ⟨(h2.cell 2).trans rfl, (h.b.cell 2).trans (by rw [← hA]; rfl), (h.bel.cell (p := ⟨_, _, none⟩) (Nat.lt_of_lt_of_le hb hh)).trans q0⟩
              have HPQ := Lib.hid hq
              have hcn := (HZ.out.u).2.1
              have hcm := (HZ.out.u).2.2.1
              unfold maxLen at hcm
              obtain ⟨i1, hi1, hz1, hs1, hb1⟩ := info_parts info_str
              clear hat hq q0 hA
              go_upto_region 14 with (fail)
              have HSq := HS
              refine wp_region_held_tail 8 (fun Y => Y.cell? ⟨w8.heap.size, 2, none⟩ = some (.slice y.U.A y.U.n y.U.c) ∧ Y.cell? ⟨w.heap.size + 1, 2, none⟩ = some (.slice (some ⟨b, o, none⟩) z.U.n z.U.c) ∧ Y.cell? ⟨b, o + kk, none⟩ = some (.string q)) (by kernel_rfl) (by kernel_rfl) ?hSv (fun hHeld => ?qv0)
              case hSv => exact HSo.out _ HSq.out.q HSq.out.bx
              case qv0 =>
                simp only [List.take_succ_cons, List.take_zero, List.drop_succ_cons, List.drop_zero]
                refine wpAnyH_take (i := 0) (v := (.pointer (some ⟨w8.heap.size, 2, none⟩))) rfl (by kernel_rfl) (by kernel_rfl) (by kernel_rfl) (fun _ _ _ h => h) (Or.inl ⟨by rfl, ?yv_1⟩) (by assumption) ?qv_1
                case yv_1 => (intro w hSw; (try dsimp only at hSw); go_simp)
                case qv_1 =>
                  (try simp only [Act.put]); (try simp only [List.setIfInBounds_toArray])
                  refine wpAnyH_take (i := 1) (v := (.slice y.U.A y.U.n y.U.c)) rfl (by kernel_rfl) (by kernel_rfl) (by kernel_rfl) (fun _ _ _ h => h) (Or.inl ⟨by rfl, ?yv_2⟩) (by assumption) ?qv_2
                  case yv_2 => (intro w hSw; (try dsimp only at hSw); go_simp)
                  case qv_2 =>
                    (try simp only [Act.put]); (try simp only [List.setIfInBounds_toArray])
                    refine wpAnyH_take (i := 2) (v := (.pointer (some ⟨w.heap.size + 1, 2, none⟩))) rfl (by kernel_rfl) (by kernel_rfl) (by kernel_rfl) (fun _ _ _ h => h) (Or.inl ⟨by rfl, ?yv_3⟩) (by assumption) ?qv_3
                    case yv_3 => (intro w hSw; (try dsimp only at hSw); go_simp)
                    case qv_3 =>
                      (try simp only [Act.put]); (try simp only [List.setIfInBounds_toArray])
                      refine wpAnyH_take (i := 3) (v := (.slice (some ⟨b, o, none⟩) z.U.n z.U.c)) rfl (by kernel_rfl) (by kernel_rfl) (by kernel_rfl) (fun _ _ _ h => h) (Or.inl ⟨by rfl, ?yv_4⟩) (by assumption) ?qv_4
                      case yv_4 => (intro w hSw; (try dsimp only at hSw); go_simp)
                      case qv_4 =>
                        (try simp only [Act.put]); (try simp only [List.setIfInBounds_toArray])
                        refine wpAnyH_take (i := 4) (v := (.int .i64 kk)) rfl (by kernel_rfl) (by kernel_rfl) (by kernel_rfl) (fun _ _ _ h => h) (Or.inl ⟨by rfl, ?yv_5⟩) (by assumption) ?qv_5
                        case yv_5 => (intro w hSw; (try dsimp only at hSw); go_simp)
                        case qv_5 =>
                          (try simp only [Act.put]); (try simp only [List.setIfInBounds_toArray])
                          refine wpAnyH_take (i := 5) (v := (.pointer (some ⟨b, o + kk, none⟩))) rfl (by kernel_rfl) (by kernel_rfl) (by kernel_rfl) (fun _ _ _ h => h) (Or.inl ⟨by rfl, ?yv_6⟩) (by assumption) ?qv_6
                          case yv_6 => (intro w hSw; (try dsimp only at hSw); go_simp)
                          case qv_6 =>
                            (try simp only [Act.put]); (try simp only [List.setIfInBounds_toArray])
                            refine wpAnyH_take (i := 6) (v := (.string q)) rfl (by kernel_rfl) (by kernel_rfl) (by kernel_rfl) (fun _ _ _ h => h) (Or.inl ⟨by rfl, ?yv_7⟩) (by assumption) ?qv_7
                            case yv_7 => (intro w hSw; (try dsimp only at hSw); go_simp)
                            case qv_7 =>
                              (try simp only [Act.put]); (try simp only [List.setIfInBounds_toArray])
                              refine wpAnyH_ready (rs := [7]) (by kernel_rfl) (by simp) ?_
                              refine AllReadyH.cons rfl (fun K hK => ?sv_8) ?mv_8
                              case sv_8 =>
                                (refine step_mk1 _ (by rfl) 9 #[.string q] (by go_simp) ?_; intro gq Yq hxq hbq hsq; have HUq := Lib.hid hxq; have HRq : Hid (Row Yq gq (gq + 1) 1 (some ⟨gq, 0, none⟩) 1 1 [.string q]) := Lib.hid (row_blk HUq.out rfl (Nat.le_refl _) (by unfold maxLen; omega)); have HSq := Lib.hid (HSq.out.after hbq); clear hxq hbq hsq)
                                refine hK.out _ _ ?kv_8 (fun hHeld => ?qv_8)
                                case kv_8 => ((try dsimp only); exact HSo.out _ HSq.out.q HSq.out.bx)
                                case qv_8 =>
                                  clear hK K
                                  (try simp only [Act.put]); (try simp only [List.setIfInBounds_toArray])
                                  refine wpAnyH_done (by kernel_rfl) ?_ _
                                  clear hHeld
                                  show wpList _ _ _ _ _ _
                                  go_wp2_with (at_builtin; with_reducible show wpList _ _ _ (⟨some 68, _, _, _, _, _⟩ :: _) _ _; go_must (refine wpList_app (o := ⟨some 68, _, _, _, _, _⟩) _ rfl (.tmp 61) (.tmp 67) _ rfl (w.heap.size + 2) 9 i1 _ 1 16 Tryz.underlying22 hi1 hz1 hs1 hb1 rfl (by omega) (.slice y.U.A y.U.n y.U.c) y.U.n (strCells y.us) (by go_simp) HSq.out.o.u gq (gq + 1) (some ⟨gq, 0, none⟩) 1 1 [.string q] (by go_simp) HRq.out (by simp [Value.oneCell']) (by unfold maxLen; omega) (by omega) (by have := HSq.out.q.size; omega) ?_); go_must (intro vn Yn hownN hgrN _; obtain ⟨A', c', rfl⟩ := own_form hownN; have HEN := Lib.hid (push_str HSq.out HGX.out q hownN hgrN); have HMn := mid_of HSq.out HSq.out.o.u (by decide) hgrN; have s1 := (HMn.2.cell 2).trans (show _ = some (.slice y.U.A y.U.n y.U.c) from rfl); have s2 := HMn.2.frozen 2; have e0 := (HEN.out.bx.cell 0).trans (show _ = some (.string y.name) from rfl); have e1 := (HEN.out.bx.cell 1).trans (show _ = some (.int .i64 y.ver) from rfl); have e2 := (HEN.out.bx.cell 2).trans (show _ = some (.slice A' (y.U.n + 1) c') from rfl); have e3 := (HEN.out.bx.cell 3).trans (show _ = some (.slice y.C.A y.C.n y.C.c) from rfl); have e4 := (HEN.out.bx.cell 4).trans (show _ = some (.slice y.N.A y.N.n y.N.c) from rfl); have e5 := (HEN.out.bx.cell 5).trans (show _ = some (.slice y.Q.A y.Q.n y.Q.c) from rfl); have e6 := (HEN.out.bx.cell 6).trans (show _ = some (.slice y.E.A y.E.n y.E.c) from rfl); have e7 := (HEN.out.bx.cell 7).trans (show _ = some (.slice y.T.A y.T.n y.T.c) from rfl);  clear hownN hgrN HMn))
                                  clear s1 s2 e0 e1 e2 e3 e4 e5 e6 e7
                                  have HCk : Calls Tryz.prog 7 #[.agg #[.string y.name, .int .i64 y.ver, .slice A' (y.U.n + 1) c', .slice y.C.A y.C.n y.C.c, .slice y.N.A y.N.n y.N.c, .slice y.Q.A y.Q.n y.Q.c, .slice y.E.A y.E.n y.E.c, .slice y.T.A y.T.n y.T.c]] (Yn.setCell ⟨w8.heap.size, 2, none⟩ (.slice A' (y.U.n + 1) c')) (Told (Yn.setCell ⟨w8.heap.size, 2, none⟩ (.slice A' (y.U.n + 1) c')) (langF ({ y with U := ⟨A', y.U.n + 1, c'⟩, us := y.us ++ [q] } : LangM))) := check_any _ _ ({ y with U := ⟨A', y.U.n + 1, c'⟩, us := y.us ++ [q] } : LangM) HEN.out.l (Nat.le_refl _) (fit_str HFX.out HFZ.out HE.out (List.mem_of_getElem? HPQ.out))
                                  have HAt : Hid (AtElem 1 x.U.n (langF ({ y with U := ⟨A', y.U.n + 1, c'⟩, us := y.us ++ [q] } : LangM))) := Lib.hid (at_str HV.out HE.out HX.out)
                                  have HErr : Hid (∀ f, langF ({ y with U := ⟨A', y.U.n + 1, c'⟩, us := y.us ++ [q] } : LangM) = some f → f.err ≠ 0) := Lib.hid fun f hf => langG_err (k := cont ({ y with U := ⟨A', y.U.n + 1, c'⟩, us := y.us ++ [q] } : LangM)) (by rw [← langG_eq]; exact hf)
                                  refine HCk.mono ?_
                                  rintro e w9 ⟨rfl, hb9⟩
                                  have HEN9 := Lib.hid (HEN.out.after hb9)
                                  clear hb9 HCk
                                  generalize langF ({ y with U := ⟨A', y.U.n + 1, c'⟩, us := y.us ++ [q] } : LangM) = v9 at HAt HErr ⊢
                                  have hs9 : ∀ o, (w9.alloc o).cell? ⟨g10, 1, none⟩ = some (.int .i64 x.U.n) := fun o => ((HEN9.out.bs.alloc o).cell 1).trans rfl
                                  cases v9 with
                                  | none =>
                                    simp only [tellF, faV]
                                    go_wp2_with fail
                                    go_quiet (fail)
                                    go_wp2_with fail
                                    all_goals (
                                      go_ret
                                      exact ⟨rfl, (by (repeat (first | exact HEN9.out.q.bel | refine below_more ?_ _ | refine below_drew ?_ | refine below_drewN ?_ _)))⟩)
                                  | some f =>
                                    obtain ⟨h1, h2⟩ := HAt.out f rfl
                                    have h3 := HErr.out f rfl
                                    obtain ⟨flst, fpos, fpart, ferr⟩ := f
                                    simp only at h1 h2 h3
                                    subst h1 h2
                                    have he : (ferr == 0) = false := beq_eq_false_iff_ne.2 h3
                                    clear h3 HAt HErr
                                    simp only [tellF, faV]
                                    go_wp2_with fail
                                    go_quiet (fail)
                                    go_wp2_with fail
                                    all_goals (
                                      go_ret
                                      exact ⟨by first | rfl | (simp; done), (by (repeat (first | exact HEN9.out.q.bel | refine below_more ?_ _ | refine below_drew ?_ | refine below_drewN ?_ _)))⟩)
                              case mv_8 =>
                                exact AllReadyH.nil
          · clear HV6
            have n11 := (HA7.out.2.cell 2).trans (show _ = some (.int .i64 z.C.n) from rfl)
            by_cases hn : z.C.n = 0
            · have d0 : ((z.C.n : Int) == 0) = true := by rw [hn]; rfl
              clear hn
              go_wp2_with fail
              go_ret
              exact ⟨rfl, HQ6.out.bel⟩
            · have d0 : ((z.C.n : Int) == 0) = false := by rw [beq_eq_false_iff_ne]; omega
              have HZL : Hid (z.C.n = z.cs.length) := Lib.hid HZ.out.c.n
              have hle : z.C.n ≤ 1200 := by have := HFH.out.n; have := HZL.out; omega
              have hpos : 0 < z.C.n := by omega
              have hk := restV_lt at_ hpos
              clear hn
              go_wp2_with fail
              refine (HRk.out _ _ hpos (by omega)).mono ?_
              rintro e w7 ⟨rfl, rfl⟩
              generalize restV at_ z.C.n = kk at hk ⊢
              have a0 := (HQ6.out.a.cell 0).trans (show _ = some (.string x.name) from rfl)
              have a1 := (HQ6.out.a.cell 1).trans (show _ = some (.int .i64 x.ver) from rfl)
              have a2 := (HQ6.out.a.cell 2).trans (show _ = some (.slice x.U.A x.U.n x.U.c) from rfl)
              have a3 := (HQ6.out.a.cell 3).trans (show _ = some (.slice x.C.A x.C.n x.C.c) from rfl)
              have a4 := (HQ6.out.a.cell 4).trans (show _ = some (.slice x.N.A x.N.n x.N.c) from rfl)
              have a5 := (HQ6.out.a.cell 5).trans (show _ = some (.slice x.Q.A x.Q.n x.Q.c) from rfl)
              have a6 := (HQ6.out.a.cell 6).trans (show _ = some (.slice x.E.A x.E.n x.E.c) from rfl)
              have a7 := (HQ6.out.a.cell 7).trans (show _ = some (.slice x.T.A x.T.n x.T.c) from rfl)
              go_wp2_with fail
              clear a0 a1 a2 a3 a4 a5 a6 a7 d0 n11
              refine (HTw.out HFG.out _ HQ6.out.bel).mono ?_
              rintro e w8 ⟨y, rfl, hy, hE, hb8, hO⟩
              have HB8 : Hid (Below w.heap.size w w8) := Lib.hid (HQ6.out.bel.trans (hb8.mono HQ6.out.bel.size))
              have HS : Hid (HSt w x z y w8.heap.size g10 (w8.alloc (.cells #[.string y.name, .int .i64 y.ver, .slice y.U.A y.U.n y.U.c, .slice y.C.A y.C.n y.C.c, .slice y.N.A y.N.n y.N.c, .slice y.Q.A y.Q.n y.Q.c, .slice y.E.A y.E.n y.E.c, .slice y.T.A y.T.n y.T.c] 29)).drew) := Lib.hid (HSt.after (Y := w8.alloc (.cells #[.string y.name, .int .i64 y.ver, .slice y.U.A y.U.n y.U.c, .slice y.C.A y.C.n y.C.c, .slice y.N.A y.N.n y.N.c, .slice y.Q.A y.Q.n y.Q.c, .slice y.E.A y.E.n y.E.c, .slice y.T.A y.T.n y.T.c] 29)) ⟨(HQ6.out.after hb8).after (below_of_alloc _), Blk.new _ _ _, ((HA7.out.1).after hb8).alloc _, (TwinOwn.lower hO (w := w) (HQ6.out.bel.size)).after (below_of_alloc _), langK.mono (langK.below hy (below_of_alloc _)) (Nat.le_refl _) (below_of_alloc _).size⟩ (drew1_below _))
              have HGX : Hid (w.heap.size + 1 < w8.heap.size) := Lib.hid (by have := (HQ6.out.after hb8).size; exact this)
              have HE := Lib.hid hE
              have HYN : Hid (y.C.n = x.C.n) := Lib.hid (twin_ncon hE hy HX.out)
              have hyl : y.C.n ≤ 1200 := by have h0 := HYN.out; have h1 := HFG.out.n; have h2 : x.C.n = x.cs.length := HX.out.c.n; omega
              clear hy hE hb8 hO
              obtain ⟨b, o, hA, _, hb, hat⟩ := Row.at_ HZ.out.c.row (by omega)
              obtain ⟨q, hq⟩ : ∃ q, z.cs[kk]? = some q := ⟨z.cs[kk]'(by have := HZL.out; omega), List.getElem?_eq_getElem _⟩
              have q0 := hat (kk * 6 + 0) _ ((flatN_get (f := conC) (s := 6) (fun _ => rfl) z.cs kk q hq 0 (by omega)).trans rfl)
              rw [show o + (kk * 6 + 0) = o + kk * 6 from by omega] at q0
              have q1 := hat (kk * 6 + 1) _ ((flatN_get (f := conC) (s := 6) (fun _ => rfl) z.cs kk q hq 1 (by omega)).trans rfl)
              rw [show o + (kk * 6 + 1) = o + kk * 6 + 1 from by omega] at q1
              have q2 := hat (kk * 6 + 2) _ ((flatN_get (f := conC) (s := 6) (fun _ => rfl) z.cs kk q hq 2 (by omega)).trans rfl)
              rw [show o + (kk * 6 + 2) = o + kk * 6 + 2 from by omega] at q2
              have q3 := hat (kk * 6 + 3) _ ((flatN_get (f := conC) (s := 6) (fun _ => rfl) z.cs kk q hq 3 (by omega)).trans rfl)
              rw [show o + (kk * 6 + 3) = o + kk * 6 + 3 from by omega] at q3
              have q4 := hat (kk * 6 + 4) _ ((flatN_get (f := conC) (s := 6) (fun _ => rfl) z.cs kk q hq 4 (by omega)).trans rfl)
              rw [show o + (kk * 6 + 4) = o + kk * 6 + 4 from by omega] at q4
              have q5 := hat (kk * 6 + 5) _ ((flatN_get (f := conC) (s := 6) (fun _ => rfl) z.cs kk q hq 5 (by omega)).trans rfl)
              rw [show o + (kk * 6 + 5) = o + kk * 6 + 5 from by omega] at q5
              have HSo : Hid (∀ Y, B2 w 29 #[.string x.name, .int .i64 x.ver, .slice x.U.A x.U.n x.U.c, .slice x.C.A x.C.n x.C.c, .slice x.N.A x.N.n x.N.c, .slice x.Q.A x.Q.n x.Q.c, .slice x.E.A x.E.n x.E.c, .slice x.T.A x.T.n x.T.c] #[.string z.name, .int .i64 z.ver, .slice z.U.A z.U.n z.U.c, .slice z.C.A z.C.n z.C.c, .slice z.N.A z.N.n z.N.c, .slice z.Q.A z.Q.n z.Q.c, .slice z.E.A z.E.n z.E.c, .slice z.T.A z.T.n z.T.c] Y → Blk Y w8.heap.size 29 #[.string y.name, .int .i64 y.ver, .slice y.U.A y.U.n y.U.c, .slice y.C.A y.C.n y.C.c, .slice y.N.A y.N.n y.N.c, .slice y.Q.A y.Q.n y.Q.c, .slice y.E.A y.E.n y.E.c, .slice y.T.A y.T.n y.T.c] → (Y.cell? ⟨w8.heap.size, 3, none⟩ = some (.slice y.C.A y.C.n y.C.c) ∧ Y.cell? ⟨w.heap.size + 1, 3, none⟩ = some (.slice (some ⟨b, o, none⟩) z.C.n z.C.c) ∧ Y.cell? ⟨b, o + kk * 6, none⟩ = some (.string q.1.name) ∧ Y.cell? ⟨b, o + kk * 6 + 1, none⟩ = some (.string q.1.super) ∧ Y.cell? ⟨b, o + kk * 6 + 2, none⟩ = some (.bool q.1.abs) ∧ Y.cell? ⟨b, o + kk * 6 + 3, none⟩ = some (.slice q.2.p.A q.2.p.n q.2.p.c) ∧ Y.cell? ⟨b, o + kk * 6 + 4, none⟩ = some (.slice q.2.k.A q.2.k.n q.2.k.c) ∧ Y.cell? ⟨b, o + kk * 6 + 5, none⟩ = some (.slice q.2.r.A q.2.r.n q.2.r.c))) := Lib.hid fun Y h h2 => ⟨(h2.cell 3).trans rfl, (h.b.cell 3).trans (by rw [← hA]; rfl), (h.bel.cell (p := ⟨_, _, none⟩) (Nat.lt_of_lt_of_le hb hh)).trans q0, (h.bel.cell (p := ⟨_, _, none⟩) (Nat.lt_of_lt_of_le hb hh)).trans q1, (h.bel.cell (p := ⟨_, _, none⟩) (Nat.lt_of_lt_of_le hb hh)).trans q2, (h.bel.cell (p := ⟨_, _, none⟩) (Nat.lt_of_lt_of_le hb hh)).trans q3, (h.bel.cell (p := ⟨_, _, none⟩) (Nat.lt_of_lt_of_le hb hh)).trans q4, (h.bel.cell (p := ⟨_, _, none⟩) (Nat.lt_of_lt_of_le hb hh)).trans q5⟩
              have HPQ := Lib.hid hq
              have hcn := (HZ.out.c.row).2.1
              have hcm := (HZ.out.c.row).2.2.1
              unfold maxLen at hcm
              obtain ⟨i1, hi1, hz1, hs1, hb1⟩ := info_parts info_con
              clear hat hq q0 q1 q2 q3 q4 q5 hA
              go_upto_region 16 with (fail)
              have HSq := HS
              refine wp_region_held_tail 8 (fun Y => Y.cell? ⟨w8.heap.size, 3, none⟩ = some (.slice y.C.A y.C.n y.C.c) ∧ Y.cell? ⟨w.heap.size + 1, 3, none⟩ = some (.slice (some ⟨b, o, none⟩) z.C.n z.C.c) ∧ Y.cell? ⟨b, o + kk * 6, none⟩ = some (.string q.1.name) ∧ Y.cell? ⟨b, o + kk * 6 + 1, none⟩ = some (.string q.1.super) ∧ Y.cell? ⟨b, o + kk * 6 + 2, none⟩ = some (.bool q.1.abs) ∧ Y.cell? ⟨b, o + kk * 6 + 3, none⟩ = some (.slice q.2.p.A q.2.p.n q.2.p.c) ∧ Y.cell? ⟨b, o + kk * 6 + 4, none⟩ = some (.slice q.2.k.A q.2.k.n q.2.k.c) ∧ Y.cell? ⟨b, o + kk * 6 + 5, none⟩ = some (.slice q.2.r.A q.2.r.n q.2.r.c)) (by kernel_rfl) (by kernel_rfl) ?hSv (fun hHeld => ?qv0)
              case hSv => exact HSo.out _ HSq.out.q HSq.out.bx
              case qv0 =>
                simp only [List.take_succ_cons, List.take_zero, List.drop_succ_cons, List.drop_zero]
                refine wpAnyH_take (i := 0) (v := (.pointer (some ⟨w8.heap.size, 3, none⟩))) rfl (by kernel_rfl) (by kernel_rfl) (by kernel_rfl) (fun _ _ _ h => h) (Or.inl ⟨by rfl, ?yv_1⟩) (by assumption) ?qv_1
                case yv_1 => (intro w hSw; (try dsimp only at hSw); go_simp)
                case qv_1 =>
                  (try simp only [Act.put]); (try simp only [List.setIfInBounds_toArray])
                  refine wpAnyH_take (i := 1) (v := (.slice y.C.A y.C.n y.C.c)) rfl (by kernel_rfl) (by kernel_rfl) (by kernel_rfl) (fun _ _ _ h => h) (Or.inl ⟨by rfl, ?yv_2⟩) (by assumption) ?qv_2
                  case yv_2 => (intro w hSw; (try dsimp only at hSw); go_simp)
                  case qv_2 =>
                    (try simp only [Act.put]); (try simp only [List.setIfInBounds_toArray])
                    refine wpAnyH_take (i := 2) (v := (.pointer (some ⟨w.heap.size + 1, 3, none⟩))) rfl (by kernel_rfl) (by kernel_rfl) (by kernel_rfl) (fun _ _ _ h => h) (Or.inl ⟨by rfl, ?yv_3⟩) (by assumption) ?qv_3
                    case yv_3 => (intro w hSw; (try dsimp only at hSw); go_simp)
                    case qv_3 =>
                      (try simp only [Act.put]); (try simp only [List.setIfInBounds_toArray])
                      refine wpAnyH_take (i := 3) (v := (.slice (some ⟨b, o, none⟩) z.C.n z.C.c)) rfl (by kernel_rfl) (by kernel_rfl) (by kernel_rfl) (fun _ _ _ h => h) (Or.inl ⟨by rfl, ?yv_4⟩) (by assumption) ?qv_4
                      case yv_4 => (intro w hSw; (try dsimp only at hSw); go_simp)
                      case qv_4 =>
                        (try simp only [Act.put]); (try simp only [List.setIfInBounds_toArray])
                        refine wpAnyH_take (i := 4) (v := (.int .i64 kk)) rfl (by kernel_rfl) (by kernel_rfl) (by kernel_rfl) (fun _ _ _ h => h) (Or.inl ⟨by rfl, ?yv_5⟩) (by assumption) ?qv_5
                        case yv_5 => (intro w hSw; (try dsimp only at hSw); go_simp)
                        case qv_5 =>
                          (try simp only [Act.put]); (try simp only [List.setIfInBounds_toArray])
                          refine wpAnyH_take (i := 5) (v := (.pointer (some ⟨b, o + kk * 6, none⟩))) rfl (by kernel_rfl) (by kernel_rfl) (by kernel_rfl) (fun _ _ _ h => h) (Or.inl ⟨by rfl, ?yv_6⟩) (by assumption) ?qv_6
                          case yv_6 => (intro w hSw; (try dsimp only at hSw); go_simp)
                          case qv_6 =>
                            (try simp only [Act.put]); (try simp only [List.setIfInBounds_toArray])
                            refine wpAnyH_take (i := 6) (v := (.agg #[.string q.1.name, .string q.1.super, .bool q.1.abs, .slice q.2.p.A q.2.p.n q.2.p.c, .slice q.2.k.A q.2.k.n q.2.k.c, .slice q.2.r.A q.2.r.n q.2.r.c])) rfl (by kernel_rfl) (by kernel_rfl) (by kernel_rfl) (fun _ _ _ h => h) (Or.inl ⟨by rfl, ?yv_7⟩) (by assumption) ?qv_7
                            case yv_7 => (intro w hSw; (try dsimp only at hSw); go_simp)
                            case qv_7 =>
                              (try simp only [Act.put]); (try simp only [List.setIfInBounds_toArray])
                              refine wpAnyH_ready (rs := [7]) (by kernel_rfl) (by simp) ?_
                              refine AllReadyH.cons rfl (fun K hK => ?sv_8) ?mv_8
                              case sv_8 =>
                                (refine step_mk1 _ (by rfl) 47 #[.string q.1.name, .string q.1.super, .bool q.1.abs, .slice q.2.p.A q.2.p.n q.2.p.c, .slice q.2.k.A q.2.k.n q.2.k.c, .slice q.2.r.A q.2.r.n q.2.r.c] (by go_simp) ?_; intro gq Yq hxq hbq hsq; have HUq := Lib.hid hxq; have HRq : Hid (Row Yq gq (gq + 1) 6 (some ⟨gq, 0, none⟩) 1 1 [.string q.1.name, .string q.1.super, .bool q.1.abs, .slice q.2.p.A q.2.p.n q.2.p.c, .slice q.2.k.A q.2.k.n q.2.k.c, .slice q.2.r.A q.2.r.n q.2.r.c]) := Lib.hid (row_blk HUq.out rfl (Nat.le_refl _) (by unfold maxLen; omega)); have HSq := Lib.hid (HSq.out.after hbq); clear hxq hbq hsq)
                                refine hK.out _ _ ?kv_8 (fun hHeld => ?qv_8)
                                case kv_8 => ((try dsimp only); exact HSo.out _ HSq.out.q HSq.out.bx)
                                case qv_8 =>
                                  clear hK K
                                  (try simp only [Act.put]); (try simp only [List.setIfInBounds_toArray])
                                  refine wpAnyH_done (by kernel_rfl) ?_ _
                                  clear hHeld
                                  show wpList _ _ _ _ _ _
                                  go_wp2_with (at_builtin; with_reducible show wpList _ _ _ (⟨some 80, _, _, _, _, _⟩ :: _) _ _; go_must (refine wpList_app (o := ⟨some 80, _, _, _, _, _⟩) _ rfl (.tmp 73) (.tmp 79) _ rfl (w.heap.size + 2) 47 i1 _ 6 112 Tryz.underlying23 hi1 hz1 hs1 hb1 rfl (by omega) (.slice y.C.A y.C.n y.C.c) y.C.n (y.cs.flatMap conC) (by go_simp) (own_len HSq.out.o.c.own HSq.out.l.c.n) gq (gq + 1) (some ⟨gq, 0, none⟩) 1 1 [.string q.1.name, .string q.1.super, .bool q.1.abs, .slice q.2.p.A q.2.p.n q.2.p.c, .slice q.2.k.A q.2.k.n q.2.k.c, .slice q.2.r.A q.2.r.n q.2.r.c] (by go_simp) HRq.out (by simp [Value.oneCell']) (by unfold maxLen; omega) (by omega) (by have := HSq.out.q.size; omega) ?_); go_must (intro vn Yn hownN hgrN _; obtain ⟨A', c', rfl⟩ := own_form hownN; have HEN := Lib.hid (push_con HSq.out HGX.out q (conK.mono (conK.below (HZ.out.c.all q (List.mem_of_getElem? HPQ.out)) (Below.refl _ _)) (Nat.le_refl _) hh) hownN hgrN); have HMn := mid_of HSq.out (own_len HSq.out.o.c.own HSq.out.l.c.n) (by decide) hgrN; have s1 := (HMn.2.cell 3).trans (show _ = some (.slice y.C.A y.C.n y.C.c) from rfl); have s2 := HMn.2.frozen 3; have e0 := (HEN.out.bx.cell 0).trans (show _ = some (.string y.name) from rfl); have e1 := (HEN.out.bx.cell 1).trans (show _ = some (.int .i64 y.ver) from rfl); have e2 := (HEN.out.bx.cell 2).trans (show _ = some (.slice y.U.A y.U.n y.U.c) from rfl); have e3 := (HEN.out.bx.cell 3).trans (show _ = some (.slice A' (y.C.n + 1) c') from rfl); have e4 := (HEN.out.bx.cell 4).trans (show _ = some (.slice y.N.A y.N.n y.N.c) from rfl); have e5 := (HEN.out.bx.cell 5).trans (show _ = some (.slice y.Q.A y.Q.n y.Q.c) from rfl); have e6 := (HEN.out.bx.cell 6).trans (show _ = some (.slice y.E.A y.E.n y.E.c) from rfl); have e7 := (HEN.out.bx.cell 7).trans (show _ = some (.slice y.T.A y.T.n y.T.c) from rfl);  clear hownN hgrN HMn))
                                  clear s1 s2 e0 e1 e2 e3 e4 e5 e6 e7
                                  have HCk : Calls Tryz.prog 7 #[.agg #[.string y.name, .int .i64 y.ver, .slice y.U.A y.U.n y.U.c, .slice A' (y.C.n + 1) c', .slice y.N.A y.N.n y.N.c, .slice y.Q.A y.Q.n y.Q.c, .slice y.E.A y.E.n y.E.c, .slice y.T.A y.T.n y.T.c]] (Yn.setCell ⟨w8.heap.size, 3, none⟩ (.slice A' (y.C.n + 1) c')) (Told (Yn.setCell ⟨w8.heap.size, 3, none⟩ (.slice A' (y.C.n + 1) c')) (langF ({ y with C := ⟨A', y.C.n + 1, c'⟩, cs := y.cs ++ [q] } : LangM))) := check_any _ _ ({ y with C := ⟨A', y.C.n + 1, c'⟩, cs := y.cs ++ [q] } : LangM) HEN.out.l (Nat.le_refl _) (fit_con HFX.out HFZ.out HE.out (List.mem_of_getElem? HPQ.out))
                                  have HAt : Hid (AtElem 2 x.C.n (langF ({ y with C := ⟨A', y.C.n + 1, c'⟩, cs := y.cs ++ [q] } : LangM))) := Lib.hid (at_con HV.out HE.out HX.out)
                                  have HErr : Hid (∀ f, langF ({ y with C := ⟨A', y.C.n + 1, c'⟩, cs := y.cs ++ [q] } : LangM) = some f → f.err ≠ 0) := Lib.hid fun f hf => langG_err (k := cont ({ y with C := ⟨A', y.C.n + 1, c'⟩, cs := y.cs ++ [q] } : LangM)) (by rw [← langG_eq]; exact hf)
                                  refine HCk.mono ?_
                                  rintro e w9 ⟨rfl, hb9⟩
                                  have HEN9 := Lib.hid (HEN.out.after hb9)
                                  clear hb9 HCk
                                  generalize langF ({ y with C := ⟨A', y.C.n + 1, c'⟩, cs := y.cs ++ [q] } : LangM) = v9 at HAt HErr ⊢
                                  have hs9 : ∀ o, (w9.alloc o).cell? ⟨g10, 2, none⟩ = some (.int .i64 x.C.n) := fun o => ((HEN9.out.bs.alloc o).cell 2).trans rfl
                                  cases v9 with
                                  | none =>
                                    simp only [tellF, faV]
                                    go_wp2_with fail
                                    go_quiet (fail)
                                    go_wp2_with fail
                                    all_goals (
                                      go_ret
                                      exact ⟨rfl, (by (repeat (first | exact HEN9.out.q.bel | refine below_more ?_ _ | refine below_drew ?_ | refine below_drewN ?_ _)))⟩)
                                  | some f =>
                                    obtain ⟨h1, h2⟩ := HAt.out f rfl
                                    have h3 := HErr.out f rfl
                                    obtain ⟨flst, fpos, fpart, ferr⟩ := f
                                    simp only at h1 h2 h3
                                    subst h1 h2
                                    have he : (ferr == 0) = false := beq_eq_false_iff_ne.2 h3
                                    clear h3 HAt HErr
                                    simp only [tellF, faV]
                                    go_wp2_with fail
                                    go_quiet (fail)
                                    go_wp2_with fail
                                    all_goals (
                                      go_ret
                                      exact ⟨by first | rfl | (simp; done), (by (repeat (first | exact HEN9.out.q.bel | refine below_more ?_ _ | refine below_drew ?_ | refine below_drewN ?_ _)))⟩)
                              case mv_8 =>
                                exact AllReadyH.nil
          · clear HV6
            have n11 := (HA7.out.2.cell 3).trans (show _ = some (.int .i64 z.N.n) from rfl)
            by_cases hn : z.N.n = 0
            · have d0 : ((z.N.n : Int) == 0) = true := by rw [hn]; rfl
              clear hn
              go_wp2_with fail
              go_ret
              exact ⟨rfl, HQ6.out.bel⟩
            · have d0 : ((z.N.n : Int) == 0) = false := by rw [beq_eq_false_iff_ne]; omega
              have HZL : Hid (z.N.n = z.ru.length) := Lib.hid HZ.out.nn
              have hle : z.N.n ≤ 1200 := by have := HFH.out.n; have := HZL.out; omega
              have hpos : 0 < z.N.n := by omega
              have hk := restV_lt at_ hpos
              clear hn
              go_wp2_with fail
              refine (HRk.out _ _ hpos (by omega)).mono ?_
              rintro e w7 ⟨rfl, rfl⟩
              generalize restV at_ z.N.n = kk at hk ⊢
              have a0 := (HQ6.out.a.cell 0).trans (show _ = some (.string x.name) from rfl)
              have a1 := (HQ6.out.a.cell 1).trans (show _ = some (.int .i64 x.ver) from rfl)
              have a2 := (HQ6.out.a.cell 2).trans (show _ = some (.slice x.U.A x.U.n x.U.c) from rfl)
              have a3 := (HQ6.out.a.cell 3).trans (show _ = some (.slice x.C.A x.C.n x.C.c) from rfl)
              have a4 := (HQ6.out.a.cell 4).trans (show _ = some (.slice x.N.A x.N.n x.N.c) from rfl)
              have a5 := (HQ6.out.a.cell 5).trans (show _ = some (.slice x.Q.A x.Q.n x.Q.c) from rfl)
              have a6 := (HQ6.out.a.cell 6).trans (show _ = some (.slice x.E.A x.E.n x.E.c) from rfl)
              have a7 := (HQ6.out.a.cell 7).trans (show _ = some (.slice x.T.A x.T.n x.T.c) from rfl)
              go_wp2_with fail
              clear a0 a1 a2 a3 a4 a5 a6 a7 d0 n11
              refine (HTw.out HFG.out _ HQ6.out.bel).mono ?_
              rintro e w8 ⟨y, rfl, hy, hE, hb8, hO⟩
              have HB8 : Hid (Below w.heap.size w w8) := Lib.hid (HQ6.out.bel.trans (hb8.mono HQ6.out.bel.size))
              have HS : Hid (HSt w x z y w8.heap.size g10 (w8.alloc (.cells #[.string y.name, .int .i64 y.ver, .slice y.U.A y.U.n y.U.c, .slice y.C.A y.C.n y.C.c, .slice y.N.A y.N.n y.N.c, .slice y.Q.A y.Q.n y.Q.c, .slice y.E.A y.E.n y.E.c, .slice y.T.A y.T.n y.T.c] 29)).drew) := Lib.hid (HSt.after (Y := w8.alloc (.cells #[.string y.name, .int .i64 y.ver, .slice y.U.A y.U.n y.U.c, .slice y.C.A y.C.n y.C.c, .slice y.N.A y.N.n y.N.c, .slice y.Q.A y.Q.n y.Q.c, .slice y.E.A y.E.n y.E.c, .slice y.T.A y.T.n y.T.c] 29)) ⟨(HQ6.out.after hb8).after (below_of_alloc _), Blk.new _ _ _, ((HA7.out.1).after hb8).alloc _, (TwinOwn.lower hO (w := w) (HQ6.out.bel.size)).after (below_of_alloc _), langK.mono (langK.below hy (below_of_alloc _)) (Nat.le_refl _) (below_of_alloc _).size⟩ (drew1_below _))
              have HGX : Hid (w.heap.size + 1 < w8.heap.size) := Lib.hid (by have := (HQ6.out.after hb8).size; exact this)
              have HE := Lib.hid hE
              have HYN : Hid (y.N.n = x.N.n) := Lib.hid (twin_nru hE hy HX.out)
              have hyl : y.N.n ≤ 1200 := by have h0 := HYN.out; have h1 := HFG.out.n; have h2 : x.N.n = x.ru.length := HX.out.nn; omega
              clear hy hE hb8 hO
              obtain ⟨b, o, hA, _, hb, hat⟩ := Row.at_ HZ.out.n (by omega)
              obtain ⟨q, hq⟩ : ∃ q, z.ru[kk]? = some q := ⟨z.ru[kk]'(by have := HZL.out; omega), List.getElem?_eq_getElem _⟩
              have q0 := hat (kk * 4 + 0) _ ((flatN_get (f := ruC) (s := 4) (fun _ => rfl) z.ru kk q hq 0 (by omega)).trans rfl)
              rw [show o + (kk * 4 + 0) = o + kk * 4 from by omega] at q0
              have q1 := hat (kk * 4 + 1) _ ((flatN_get (f := ruC) (s := 4) (fun _ => rfl) z.ru kk q hq 1 (by omega)).trans rfl)
              rw [show o + (kk * 4 + 1) = o + kk * 4 + 1 from by omega] at q1
              have q2 := hat (kk * 4 + 2) _ ((flatN_get (f := ruC) (s := 4) (fun _ => rfl) z.ru kk q hq 2 (by omega)).trans rfl)
              rw [show o + (kk * 4 + 2) = o + kk * 4 + 2 from by omega] at q2
              have q3 := hat (kk * 4 + 3) _ ((flatN_get (f := ruC) (s := 4) (fun _ => rfl) z.ru kk q hq 3 (by omega)).trans rfl)
              rw [show o + (kk * 4 + 3) = o + kk * 4 + 3 from by omega] at q3
              have HSo : Hid (∀ Y, B2 w 29 #[.string x.name, .int .i64 x.ver, .slice x.U.A x.U.n x.U.c, .slice x.C.A x.C.n x.C.c, .slice x.N.A x.N.n x.N.c, .slice x.Q.A x.Q.n x.Q.c, .slice x.E.A x.E.n x.E.c, .slice x.T.A x.T.n x.T.c] #[.string z.name, .int .i64 z.ver, .slice z.U.A z.U.n z.U.c, .slice z.C.A z.C.n z.C.c, .slice z.N.A z.N.n z.N.c, .slice z.Q.A z.Q.n z.Q.c, .slice z.E.A z.E.n z.E.c, .slice z.T.A z.T.n z.T.c] Y → Blk Y w8.heap.size 29 #[.string y.name, .int .i64 y.ver, .slice y.U.A y.U.n y.U.c, .slice y.C.A y.C.n y.C.c, .slice y.N.A y.N.n y.N.c, .slice y.Q.A y.Q.n y.Q.c, .slice y.E.A y.E.n y.E.c, .slice y.T.A y.T.n y.T.c] → (Y.cell? ⟨w8.heap.size, 4, none⟩ = some (.slice y.N.A y.N.n y.N.c) ∧ Y.cell? ⟨w.heap.size + 1, 4, none⟩ = some (.slice (some ⟨b, o, none⟩) z.N.n z.N.c) ∧ Y.cell? ⟨b, o + kk * 4, none⟩ = some (.string q.con) ∧ Y.cell? ⟨b, o + kk * 4 + 1, none⟩ = some (.string q.name) ∧ Y.cell? ⟨b, o + kk * 4 + 2, none⟩ = some (.bool q.scope) ∧ Y.cell? ⟨b, o + kk * 4 + 3, none⟩ = some (.string q.expr))) := Lib.hid fun Y h h2 => ⟨(h2.cell 4).trans rfl, (h.b.cell 4).trans (by rw [← hA]; rfl), (h.bel.cell (p := ⟨_, _, none⟩) (Nat.lt_of_lt_of_le hb hh)).trans q0, (h.bel.cell (p := ⟨_, _, none⟩) (Nat.lt_of_lt_of_le hb hh)).trans q1, (h.bel.cell (p := ⟨_, _, none⟩) (Nat.lt_of_lt_of_le hb hh)).trans q2, (h.bel.cell (p := ⟨_, _, none⟩) (Nat.lt_of_lt_of_le hb hh)).trans q3⟩
              have HPQ := Lib.hid hq
              have hcn := (HZ.out.n).2.1
              have hcm := (HZ.out.n).2.2.1
              unfold maxLen at hcm
              obtain ⟨i1, hi1, hz1, hs1, hb1⟩ := info_parts info_ru
              clear hat hq q0 q1 q2 q3 hA
              go_upto_region 18 with (fail)
              have HSq := HS
              refine wp_region_held_tail 8 (fun Y => Y.cell? ⟨w8.heap.size, 4, none⟩ = some (.slice y.N.A y.N.n y.N.c) ∧ Y.cell? ⟨w.heap.size + 1, 4, none⟩ = some (.slice (some ⟨b, o, none⟩) z.N.n z.N.c) ∧ Y.cell? ⟨b, o + kk * 4, none⟩ = some (.string q.con) ∧ Y.cell? ⟨b, o + kk * 4 + 1, none⟩ = some (.string q.name) ∧ Y.cell? ⟨b, o + kk * 4 + 2, none⟩ = some (.bool q.scope) ∧ Y.cell? ⟨b, o + kk * 4 + 3, none⟩ = some (.string q.expr)) (by kernel_rfl) (by kernel_rfl) ?hSv (fun hHeld => ?qv0)
              case hSv => exact HSo.out _ HSq.out.q HSq.out.bx
              case qv0 =>
                simp only [List.take_succ_cons, List.take_zero, List.drop_succ_cons, List.drop_zero]
                refine wpAnyH_take (i := 0) (v := (.pointer (some ⟨w8.heap.size, 4, none⟩))) rfl (by kernel_rfl) (by kernel_rfl) (by kernel_rfl) (fun _ _ _ h => h) (Or.inl ⟨by rfl, ?yv_1⟩) (by assumption) ?qv_1
                case yv_1 => (intro w hSw; (try dsimp only at hSw); go_simp)
                case qv_1 =>
                  (try simp only [Act.put]); (try simp only [List.setIfInBounds_toArray])
                  refine wpAnyH_take (i := 1) (v := (.slice y.N.A y.N.n y.N.c)) rfl (by kernel_rfl) (by kernel_rfl) (by kernel_rfl) (fun _ _ _ h => h) (Or.inl ⟨by rfl, ?yv_2⟩) (by assumption) ?qv_2
                  case yv_2 => (intro w hSw; (try dsimp only at hSw); go_simp)
                  case qv_2 =>
                    (try simp only [Act.put]); (try simp only [List.setIfInBounds_toArray])
                    refine wpAnyH_take (i := 2) (v := (.pointer (some ⟨w.heap.size + 1, 4, none⟩))) rfl (by kernel_rfl) (by kernel_rfl) (by kernel_rfl) (fun _ _ _ h => h) (Or.inl ⟨by rfl, ?yv_3⟩) (by assumption) ?qv_3
                    case yv_3 => (intro w hSw; (try dsimp only at hSw); go_simp)
                    case qv_3 =>
                      (try simp only [Act.put]); (try simp only [List.setIfInBounds_toArray])
                      refine wpAnyH_take (i := 3) (v := (.slice (some ⟨b, o, none⟩) z.N.n z.N.c)) rfl (by kernel_rfl) (by kernel_rfl) (by kernel_rfl) (fun _ _ _ h => h) (Or.inl ⟨by rfl, ?yv_4⟩) (by assumption) ?qv_4
                      case yv_4 => (intro w hSw; (try dsimp only at hSw); go_simp)
                      case qv_4 =>
                        (try simp only [Act.put]); (try simp only [List.setIfInBounds_toArray])
                        refine wpAnyH_take (i := 4) (v := (.int .i64 kk)) rfl (by kernel_rfl) (by kernel_rfl) (by kernel_rfl) (fun _ _ _ h => h) (Or.inl ⟨by rfl, ?yv_5⟩) (by assumption) ?qv_5
                        case yv_5 => (intro w hSw; (try dsimp only at hSw); go_simp)
                        case qv_5 =>
                          (try simp only [Act.put]); (try simp only [List.setIfInBounds_toArray])
                          refine wpAnyH_take (i := 5) (v := (.pointer (some ⟨b, o + kk * 4, none⟩))) rfl (by kernel_rfl) (by kernel_rfl) (by kernel_rfl) (fun _ _ _ h => h) (Or.inl ⟨by rfl, ?yv_6⟩) (by assumption) ?qv_6
                          case yv_6 => (intro w hSw; (try dsimp only at hSw); go_simp)
                          case qv_6 =>
                            (try simp only [Act.put]); (try simp only [List.setIfInBounds_toArray])
                            refine wpAnyH_take (i := 6) (v := (.agg #[.string q.con, .string q.name, .bool q.scope, .string q.expr])) rfl (by kernel_rfl) (by kernel_rfl) (by kernel_rfl) (fun _ _ _ h => h) (Or.inl ⟨by rfl, ?yv_7⟩) (by assumption) ?qv_7
                            case yv_7 => (intro w hSw; (try dsimp only at hSw); go_simp)
                            case qv_7 =>
                              (try simp only [Act.put]); (try simp only [List.setIfInBounds_toArray])
                              refine wpAnyH_ready (rs := [7]) (by kernel_rfl) (by simp) ?_
                              refine AllReadyH.cons rfl (fun K hK => ?sv_8) ?mv_8
                              case sv_8 =>
                                (refine step_mk1 _ (by rfl) 49 #[.string q.con, .string q.name, .bool q.scope, .string q.expr] (by go_simp) ?_; intro gq Yq hxq hbq hsq; have HUq := Lib.hid hxq; have HRq : Hid (Row Yq gq (gq + 1) 4 (some ⟨gq, 0, none⟩) 1 1 [.string q.con, .string q.name, .bool q.scope, .string q.expr]) := Lib.hid (row_blk HUq.out rfl (Nat.le_refl _) (by unfold maxLen; omega)); have HSq := Lib.hid (HSq.out.after hbq); clear hxq hbq hsq)
                                refine hK.out _ _ ?kv_8 (fun hHeld => ?qv_8)
                                case kv_8 => ((try dsimp only); exact HSo.out _ HSq.out.q HSq.out.bx)
                                case qv_8 =>
                                  clear hK K
                                  (try simp only [Act.put]); (try simp only [List.setIfInBounds_toArray])
                                  refine wpAnyH_done (by kernel_rfl) ?_ _
                                  clear hHeld
                                  show wpList _ _ _ _ _ _
                                  go_wp2_with (at_builtin; with_reducible show wpList _ _ _ (⟨some 92, _, _, _, _, _⟩ :: _) _ _; go_must (refine wpList_app (o := ⟨some 92, _, _, _, _, _⟩) _ rfl (.tmp 85) (.tmp 91) _ rfl (w.heap.size + 2) 49 i1 _ 4 56 Tryz.underlying24 hi1 hz1 hs1 hb1 rfl (by omega) (.slice y.N.A y.N.n y.N.c) y.N.n (ruCells y.ru) (by go_simp) HSq.out.o.n gq (gq + 1) (some ⟨gq, 0, none⟩) 1 1 [.string q.con, .string q.name, .bool q.scope, .string q.expr] (by go_simp) HRq.out (by simp [Value.oneCell']) (by unfold maxLen; omega) (by omega) (by have := HSq.out.q.size; omega) ?_); go_must (intro vn Yn hownN hgrN _; obtain ⟨A', c', rfl⟩ := own_form hownN; have HEN := Lib.hid (push_ru HSq.out HGX.out q hownN hgrN); have HMn := mid_of HSq.out HSq.out.o.n (by decide) hgrN; have s1 := (HMn.2.cell 4).trans (show _ = some (.slice y.N.A y.N.n y.N.c) from rfl); have s2 := HMn.2.frozen 4; have e0 := (HEN.out.bx.cell 0).trans (show _ = some (.string y.name) from rfl); have e1 := (HEN.out.bx.cell 1).trans (show _ = some (.int .i64 y.ver) from rfl); have e2 := (HEN.out.bx.cell 2).trans (show _ = some (.slice y.U.A y.U.n y.U.c) from rfl); have e3 := (HEN.out.bx.cell 3).trans (show _ = some (.slice y.C.A y.C.n y.C.c) from rfl); have e4 := (HEN.out.bx.cell 4).trans (show _ = some (.slice A' (y.N.n + 1) c') from rfl); have e5 := (HEN.out.bx.cell 5).trans (show _ = some (.slice y.Q.A y.Q.n y.Q.c) from rfl); have e6 := (HEN.out.bx.cell 6).trans (show _ = some (.slice y.E.A y.E.n y.E.c) from rfl); have e7 := (HEN.out.bx.cell 7).trans (show _ = some (.slice y.T.A y.T.n y.T.c) from rfl);  clear hownN hgrN HMn))
                                  clear s1 s2 e0 e1 e2 e3 e4 e5 e6 e7
                                  have HCk : Calls Tryz.prog 7 #[.agg #[.string y.name, .int .i64 y.ver, .slice y.U.A y.U.n y.U.c, .slice y.C.A y.C.n y.C.c, .slice A' (y.N.n + 1) c', .slice y.Q.A y.Q.n y.Q.c, .slice y.E.A y.E.n y.E.c, .slice y.T.A y.T.n y.T.c]] (Yn.setCell ⟨w8.heap.size, 4, none⟩ (.slice A' (y.N.n + 1) c')) (Told (Yn.setCell ⟨w8.heap.size, 4, none⟩ (.slice A' (y.N.n + 1) c')) (langF ({ y with N := ⟨A', y.N.n + 1, c'⟩, ru := y.ru ++ [q] } : LangM))) := check_any _ _ ({ y with N := ⟨A', y.N.n + 1, c'⟩, ru := y.ru ++ [q] } : LangM) HEN.out.l (Nat.le_refl _) (fit_ru HFX.out HFZ.out HE.out (List.mem_of_getElem? HPQ.out))
                                  have HAt : Hid (AtElem 3 x.N.n (langF ({ y with N := ⟨A', y.N.n + 1, c'⟩, ru := y.ru ++ [q] } : LangM))) := Lib.hid (at_ru HV.out HE.out HX.out)
                                  have HErr : Hid (∀ f, langF ({ y with N := ⟨A', y.N.n + 1, c'⟩, ru := y.ru ++ [q] } : LangM) = some f → f.err ≠ 0) := Lib.hid fun f hf => langG_err (k := cont ({ y with N := ⟨A', y.N.n + 1, c'⟩, ru := y.ru ++ [q] } : LangM)) (by rw [← langG_eq]; exact hf)
                                  refine HCk.mono ?_
                                  rintro e w9 ⟨rfl, hb9⟩
                                  have HEN9 := Lib.hid (HEN.out.after hb9)
                                  clear hb9 HCk
                                  generalize langF ({ y with N := ⟨A', y.N.n + 1, c'⟩, ru := y.ru ++ [q] } : LangM) = v9 at HAt HErr ⊢
                                  have hs9 : ∀ o, (w9.alloc o).cell? ⟨g10, 3, none⟩ = some (.int .i64 x.N.n) := fun o => ((HEN9.out.bs.alloc o).cell 3).trans rfl
                                  cases v9 with
                                  | none =>
                                    simp only [tellF, faV]
                                    go_wp2_with fail
                                    go_quiet (fail)
                                    go_wp2_with fail
                                    all_goals (
                                      go_ret
                                      exact ⟨rfl, (by (repeat (first | exact HEN9.out.q.bel | refine below_more ?_ _ | refine below_drew ?_ | refine below_drewN ?_ _)))⟩)
                                  | some f =>
                                    obtain ⟨h1, h2⟩ := HAt.out f rfl
                                    have h3 := HErr.out f rfl
                                    obtain ⟨flst, fpos, fpart, ferr⟩ := f
                                    simp only at h1 h2 h3
                                    subst h1 h2
                                    have he : (ferr == 0) = false := beq_eq_false_iff_ne.2 h3
                                    clear h3 HAt HErr
                                    simp only [tellF, faV]
                                    go_wp2_with fail
                                    go_quiet (fail)
                                    go_wp2_with fail
                                    all_goals (
                                      go_ret
                                      exact ⟨by first | rfl | (simp; done), (by (repeat (first | exact HEN9.out.q.bel | refine below_more ?_ _ | refine below_drew ?_ | refine below_drewN ?_ _)))⟩)
                              case mv_8 =>
                                exact AllReadyH.nil
          · clear HV6
            have n11 := (HA7.out.2.cell 4).trans (show _ = some (.int .i64 z.Q.n) from rfl)
            by_cases hn : z.Q.n = 0
            · have d0 : ((z.Q.n : Int) == 0) = true := by rw [hn]; rfl
              clear hn
              go_wp2_with fail
              go_ret
              exact ⟨rfl, HQ6.out.bel⟩
            · have d0 : ((z.Q.n : Int) == 0) = false := by rw [beq_eq_false_iff_ne]; omega
              have HZL : Hid (z.Q.n = z.qs.length) := Lib.hid HZ.out.q.n
              have hle : z.Q.n ≤ 1200 := by have := HFH.out.n; have := HZL.out; omega
              have hpos : 0 < z.Q.n := by omega
              have hk := restV_lt at_ hpos
              clear hn
              go_wp2_with fail
              refine (HRk.out _ _ hpos (by omega)).mono ?_
              rintro e w7 ⟨rfl, rfl⟩
              generalize restV at_ z.Q.n = kk at hk ⊢
              have a0 := (HQ6.out.a.cell 0).trans (show _ = some (.string x.name) from rfl)
              have a1 := (HQ6.out.a.cell 1).trans (show _ = some (.int .i64 x.ver) from rfl)
              have a2 := (HQ6.out.a.cell 2).trans (show _ = some (.slice x.U.A x.U.n x.U.c) from rfl)
              have a3 := (HQ6.out.a.cell 3).trans (show _ = some (.slice x.C.A x.C.n x.C.c) from rfl)
              have a4 := (HQ6.out.a.cell 4).trans (show _ = some (.slice x.N.A x.N.n x.N.c) from rfl)
              have a5 := (HQ6.out.a.cell 5).trans (show _ = some (.slice x.Q.A x.Q.n x.Q.c) from rfl)
              have a6 := (HQ6.out.a.cell 6).trans (show _ = some (.slice x.E.A x.E.n x.E.c) from rfl)
              have a7 := (HQ6.out.a.cell 7).trans (show _ = some (.slice x.T.A x.T.n x.T.c) from rfl)
              go_wp2_with fail
              clear a0 a1 a2 a3 a4 a5 a6 a7 d0 n11
              refine (HTw.out HFG.out _ HQ6.out.bel).mono ?_
              rintro e w8 ⟨y, rfl, hy, hE, hb8, hO⟩
              have HB8 : Hid (Below w.heap.size w w8) := Lib.hid (HQ6.out.bel.trans (hb8.mono HQ6.out.bel.size))
              have HS : Hid (HSt w x z y w8.heap.size g10 (w8.alloc (.cells #[.string y.name, .int .i64 y.ver, .slice y.U.A y.U.n y.U.c, .slice y.C.A y.C.n y.C.c, .slice y.N.A y.N.n y.N.c, .slice y.Q.A y.Q.n y.Q.c, .slice y.E.A y.E.n y.E.c, .slice y.T.A y.T.n y.T.c] 29)).drew) := Lib.hid (HSt.after (Y := w8.alloc (.cells #[.string y.name, .int .i64 y.ver, .slice y.U.A y.U.n y.U.c, .slice y.C.A y.C.n y.C.c, .slice y.N.A y.N.n y.N.c, .slice y.Q.A y.Q.n y.Q.c, .slice y.E.A y.E.n y.E.c, .slice y.T.A y.T.n y.T.c] 29)) ⟨(HQ6.out.after hb8).after (below_of_alloc _), Blk.new _ _ _, ((HA7.out.1).after hb8).alloc _, (TwinOwn.lower hO (w := w) (HQ6.out.bel.size)).after (below_of_alloc _), langK.mono (langK.below hy (below_of_alloc _)) (Nat.le_refl _) (below_of_alloc _).size⟩ (drew1_below _))
              have HGX : Hid (w.heap.size + 1 < w8.heap.size) := Lib.hid (by have := (HQ6.out.after hb8).size; exact this)
              have HE := Lib.hid hE
              have HYN : Hid (y.Q.n = x.Q.n) := Lib.hid (twin_neq hE hy HX.out)
              have hyl : y.Q.n ≤ 1200 := by have h0 := HYN.out; have h1 := HFG.out.n; have h2 : x.Q.n = x.qs.length := HX.out.q.n; omega
              clear hy hE hb8 hO
              obtain ⟨b, o, hA, _, hb, hat⟩ := Row.at_ HZ.out.q.row (by omega)
              obtain ⟨q, hq⟩ : ∃ q, z.qs[kk]? = some q := ⟨z.qs[kk]'(by have := HZL.out; omega), List.getElem?_eq_getElem _⟩
              have q0 := hat (kk * 3 + 0) _ ((flatN_get (f := eqC) (s := 3) (fun _ => rfl) z.qs kk q hq 0 (by omega)).trans rfl)
              rw [show o + (kk * 3 + 0) = o + kk * 3 from by omega] at q0
              have q1 := hat (kk * 3 + 1) _ ((flatN_get (f := eqC) (s := 3) (fun _ => rfl) z.qs kk q hq 1 (by omega)).trans rfl)
              rw [show o + (kk * 3 + 1) = o + kk * 3 + 1 from by omega] at q1
              have q2 := hat (kk * 3 + 2) _ ((flatN_get (f := eqC) (s := 3) (fun _ => rfl) z.qs kk q hq 2 (by omega)).trans rfl)
              rw [show o + (kk * 3 + 2) = o + kk * 3 + 2 from by omega] at q2
              have HSo : Hid (∀ Y, B2 w 29 #[.string x.name, .int .i64 x.ver, .slice x.U.A x.U.n x.U.c, .slice x.C.A x.C.n x.C.c, .slice x.N.A x.N.n x.N.c, .slice x.Q.A x.Q.n x.Q.c, .slice x.E.A x.E.n x.E.c, .slice x.T.A x.T.n x.T.c] #[.string z.name, .int .i64 z.ver, .slice z.U.A z.U.n z.U.c, .slice z.C.A z.C.n z.C.c, .slice z.N.A z.N.n z.N.c, .slice z.Q.A z.Q.n z.Q.c, .slice z.E.A z.E.n z.E.c, .slice z.T.A z.T.n z.T.c] Y → Blk Y w8.heap.size 29 #[.string y.name, .int .i64 y.ver, .slice y.U.A y.U.n y.U.c, .slice y.C.A y.C.n y.C.c, .slice y.N.A y.N.n y.N.c, .slice y.Q.A y.Q.n y.Q.c, .slice y.E.A y.E.n y.E.c, .slice y.T.A y.T.n y.T.c] → (Y.cell? ⟨w8.heap.size, 5, none⟩ = some (.slice y.Q.A y.Q.n y.Q.c) ∧ Y.cell? ⟨w.heap.size + 1, 5, none⟩ = some (.slice (some ⟨b, o, none⟩) z.Q.n z.Q.c) ∧ Y.cell? ⟨b, o + kk * 3, none⟩ = some (.string q.con) ∧ Y.cell? ⟨b, o + kk * 3 + 1, none⟩ = some (.slice q.L.A q.L.n q.L.c) ∧ Y.cell? ⟨b, o + kk * 3 + 2, none⟩ = some (.slice q.R.A q.R.n q.R.c))) := Lib.hid fun Y h h2 => ⟨(h2.cell 5).trans rfl, (h.b.cell 5).trans (by rw [← hA]; rfl), (h.bel.cell (p := ⟨_, _, none⟩) (Nat.lt_of_lt_of_le hb hh)).trans q0, (h.bel.cell (p := ⟨_, _, none⟩) (Nat.lt_of_lt_of_le hb hh)).trans q1, (h.bel.cell (p := ⟨_, _, none⟩) (Nat.lt_of_lt_of_le hb hh)).trans q2⟩
              have HPQ := Lib.hid hq
              have hcn := (HZ.out.q.row).2.1
              have hcm := (HZ.out.q.row).2.2.1
              unfold maxLen at hcm
              obtain ⟨i1, hi1, hz1, hs1, hb1⟩ := info_parts info_eq
              clear hat hq q0 q1 q2 hA
              go_upto_region 20 with (fail)
              have HSq := HS
              refine wp_region_held_tail 8 (fun Y => Y.cell? ⟨w8.heap.size, 5, none⟩ = some (.slice y.Q.A y.Q.n y.Q.c) ∧ Y.cell? ⟨w.heap.size + 1, 5, none⟩ = some (.slice (some ⟨b, o, none⟩) z.Q.n z.Q.c) ∧ Y.cell? ⟨b, o + kk * 3, none⟩ = some (.string q.con) ∧ Y.cell? ⟨b, o + kk * 3 + 1, none⟩ = some (.slice q.L.A q.L.n q.L.c) ∧ Y.cell? ⟨b, o + kk * 3 + 2, none⟩ = some (.slice q.R.A q.R.n q.R.c)) (by kernel_rfl) (by kernel_rfl) ?hSv (fun hHeld => ?qv0)
              case hSv => exact HSo.out _ HSq.out.q HSq.out.bx
              case qv0 =>
                simp only [List.take_succ_cons, List.take_zero, List.drop_succ_cons, List.drop_zero]
                refine wpAnyH_take (i := 0) (v := (.pointer (some ⟨w8.heap.size, 5, none⟩))) rfl (by kernel_rfl) (by kernel_rfl) (by kernel_rfl) (fun _ _ _ h => h) (Or.inl ⟨by rfl, ?yv_1⟩) (by assumption) ?qv_1
                case yv_1 => (intro w hSw; (try dsimp only at hSw); go_simp)
                case qv_1 =>
                  (try simp only [Act.put]); (try simp only [List.setIfInBounds_toArray])
                  refine wpAnyH_take (i := 1) (v := (.slice y.Q.A y.Q.n y.Q.c)) rfl (by kernel_rfl) (by kernel_rfl) (by kernel_rfl) (fun _ _ _ h => h) (Or.inl ⟨by rfl, ?yv_2⟩) (by assumption) ?qv_2
                  case yv_2 => (intro w hSw; (try dsimp only at hSw); go_simp)
                  case qv_2 =>
                    (try simp only [Act.put]); (try simp only [List.setIfInBounds_toArray])
                    refine wpAnyH_take (i := 2) (v := (.pointer (some ⟨w.heap.size + 1, 5, none⟩))) rfl (by kernel_rfl) (by kernel_rfl) (by kernel_rfl) (fun _ _ _ h => h) (Or.inl ⟨by rfl, ?yv_3⟩) (by assumption) ?qv_3
                    case yv_3 => (intro w hSw; (try dsimp only at hSw); go_simp)
                    case qv_3 =>
                      (try simp only [Act.put]); (try simp only [List.setIfInBounds_toArray])
                      refine wpAnyH_take (i := 3) (v := (.slice (some ⟨b, o, none⟩) z.Q.n z.Q.c)) rfl (by kernel_rfl) (by kernel_rfl) (by kernel_rfl) (fun _ _ _ h => h) (Or.inl ⟨by rfl, ?yv_4⟩) (by assumption) ?qv_4
                      case yv_4 => (intro w hSw; (try dsimp only at hSw); go_simp)
                      case qv_4 =>
                        (try simp only [Act.put]); (try simp only [List.setIfInBounds_toArray])
                        refine wpAnyH_take (i := 4) (v := (.int .i64 kk)) rfl (by kernel_rfl) (by kernel_rfl) (by kernel_rfl) (fun _ _ _ h => h) (Or.inl ⟨by rfl, ?yv_5⟩) (by assumption) ?qv_5
                        case yv_5 => (intro w hSw; (try dsimp only at hSw); go_simp)
                        case qv_5 =>
                          (try simp only [Act.put]); (try simp only [List.setIfInBounds_toArray])
                          refine wpAnyH_take (i := 5) (v := (.pointer (some ⟨b, o + kk * 3, none⟩))) rfl (by kernel_rfl) (by kernel_rfl) (by kernel_rfl) (fun _ _ _ h => h) (Or.inl ⟨by rfl, ?yv_6⟩) (by assumption) ?qv_6
                          case yv_6 => (intro w hSw; (try dsimp only at hSw); go_simp)
                          case qv_6 =>
                            (try simp only [Act.put]); (try simp only [List.setIfInBounds_toArray])
                            refine wpAnyH_take (i := 6) (v := (.agg #[.string q.con, .slice q.L.A q.L.n q.L.c, .slice q.R.A q.R.n q.R.c])) rfl (by kernel_rfl) (by kernel_rfl) (by kernel_rfl) (fun _ _ _ h => h) (Or.inl ⟨by rfl, ?yv_7⟩) (by assumption) ?qv_7
                            case yv_7 => (intro w hSw; (try dsimp only at hSw); go_simp)
                            case qv_7 =>
                              (try simp only [Act.put]); (try simp only [List.setIfInBounds_toArray])
                              refine wpAnyH_ready (rs := [7]) (by kernel_rfl) (by simp) ?_
                              refine AllReadyH.cons rfl (fun K hK => ?sv_8) ?mv_8
                              case sv_8 =>
                                (refine step_mk1 _ (by rfl) 52 #[.string q.con, .slice q.L.A q.L.n q.L.c, .slice q.R.A q.R.n q.R.c] (by go_simp) ?_; intro gq Yq hxq hbq hsq; have HUq := Lib.hid hxq; have HRq : Hid (Row Yq gq (gq + 1) 3 (some ⟨gq, 0, none⟩) 1 1 [.string q.con, .slice q.L.A q.L.n q.L.c, .slice q.R.A q.R.n q.R.c]) := Lib.hid (row_blk HUq.out rfl (Nat.le_refl _) (by unfold maxLen; omega)); have HSq := Lib.hid (HSq.out.after hbq); clear hxq hbq hsq)
                                refine hK.out _ _ ?kv_8 (fun hHeld => ?qv_8)
                                case kv_8 => ((try dsimp only); exact HSo.out _ HSq.out.q HSq.out.bx)
                                case qv_8 =>
                                  clear hK K
                                  (try simp only [Act.put]); (try simp only [List.setIfInBounds_toArray])
                                  refine wpAnyH_done (by kernel_rfl) ?_ _
                                  clear hHeld
                                  show wpList _ _ _ _ _ _
                                  go_wp2_with (at_builtin; with_reducible show wpList _ _ _ (⟨some 104, _, _, _, _, _⟩ :: _) _ _; go_must (refine wpList_app (o := ⟨some 104, _, _, _, _, _⟩) _ rfl (.tmp 97) (.tmp 103) _ rfl (w.heap.size + 2) 52 i1 _ 3 64 Tryz.underlying25 hi1 hz1 hs1 hb1 rfl (by omega) (.slice y.Q.A y.Q.n y.Q.c) y.Q.n (y.qs.flatMap eqC) (by go_simp) (own_len HSq.out.o.q.own HSq.out.l.q.n) gq (gq + 1) (some ⟨gq, 0, none⟩) 1 1 [.string q.con, .slice q.L.A q.L.n q.L.c, .slice q.R.A q.R.n q.R.c] (by go_simp) HRq.out (by simp [Value.oneCell']) (by unfold maxLen; omega) (by omega) (by have := HSq.out.q.size; omega) ?_); go_must (intro vn Yn hownN hgrN _; obtain ⟨A', c', rfl⟩ := own_form hownN; have HEN := Lib.hid (push_eq HSq.out HGX.out q (eqK.mono (HZ.out.q.all q (List.mem_of_getElem? HPQ.out)) (Nat.le_refl _) hh) hownN hgrN); have HMn := mid_of HSq.out (own_len HSq.out.o.q.own HSq.out.l.q.n) (by decide) hgrN; have s1 := (HMn.2.cell 5).trans (show _ = some (.slice y.Q.A y.Q.n y.Q.c) from rfl); have s2 := HMn.2.frozen 5; have e0 := (HEN.out.bx.cell 0).trans (show _ = some (.string y.name) from rfl); have e1 := (HEN.out.bx.cell 1).trans (show _ = some (.int .i64 y.ver) from rfl); have e2 := (HEN.out.bx.cell 2).trans (show _ = some (.slice y.U.A y.U.n y.U.c) from rfl); have e3 := (HEN.out.bx.cell 3).trans (show _ = some (.slice y.C.A y.C.n y.C.c) from rfl); have e4 := (HEN.out.bx.cell 4).trans (show _ = some (.slice y.N.A y.N.n y.N.c) from rfl); have e5 := (HEN.out.bx.cell 5).trans (show _ = some (.slice A' (y.Q.n + 1) c') from rfl); have e6 := (HEN.out.bx.cell 6).trans (show _ = some (.slice y.E.A y.E.n y.E.c) from rfl); have e7 := (HEN.out.bx.cell 7).trans (show _ = some (.slice y.T.A y.T.n y.T.c) from rfl);  clear hownN hgrN HMn))
                                  clear s1 s2 e0 e1 e2 e3 e4 e5 e6 e7
                                  have HCk : Calls Tryz.prog 7 #[.agg #[.string y.name, .int .i64 y.ver, .slice y.U.A y.U.n y.U.c, .slice y.C.A y.C.n y.C.c, .slice y.N.A y.N.n y.N.c, .slice A' (y.Q.n + 1) c', .slice y.E.A y.E.n y.E.c, .slice y.T.A y.T.n y.T.c]] (Yn.setCell ⟨w8.heap.size, 5, none⟩ (.slice A' (y.Q.n + 1) c')) (Told (Yn.setCell ⟨w8.heap.size, 5, none⟩ (.slice A' (y.Q.n + 1) c')) (langF ({ y with Q := ⟨A', y.Q.n + 1, c'⟩, qs := y.qs ++ [q] } : LangM))) := check_any _ _ ({ y with Q := ⟨A', y.Q.n + 1, c'⟩, qs := y.qs ++ [q] } : LangM) HEN.out.l (Nat.le_refl _) (fit_eq HFX.out HFZ.out HE.out (List.mem_of_getElem? HPQ.out))
                                  have HAt : Hid (AtElem 4 x.Q.n (langF ({ y with Q := ⟨A', y.Q.n + 1, c'⟩, qs := y.qs ++ [q] } : LangM))) := Lib.hid (at_eq HV.out HE.out HX.out)
                                  have HErr : Hid (∀ f, langF ({ y with Q := ⟨A', y.Q.n + 1, c'⟩, qs := y.qs ++ [q] } : LangM) = some f → f.err ≠ 0) := Lib.hid fun f hf => langG_err (k := cont ({ y with Q := ⟨A', y.Q.n + 1, c'⟩, qs := y.qs ++ [q] } : LangM)) (by rw [← langG_eq]; exact hf)
                                  refine HCk.mono ?_
                                  rintro e w9 ⟨rfl, hb9⟩
                                  have HEN9 := Lib.hid (HEN.out.after hb9)
                                  clear hb9 HCk
                                  generalize langF ({ y with Q := ⟨A', y.Q.n + 1, c'⟩, qs := y.qs ++ [q] } : LangM) = v9 at HAt HErr ⊢
                                  have hs9 : ∀ o, (w9.alloc o).cell? ⟨g10, 4, none⟩ = some (.int .i64 x.Q.n) := fun o => ((HEN9.out.bs.alloc o).cell 4).trans rfl
                                  cases v9 with
                                  | none =>
                                    simp only [tellF, faV]
                                    go_wp2_with fail
                                    go_quiet (fail)
                                    go_wp2_with fail
                                    all_goals (
                                      go_ret
                                      exact ⟨rfl, (by (repeat (first | exact HEN9.out.q.bel | refine below_more ?_ _ | refine below_drew ?_ | refine below_drewN ?_ _)))⟩)
                                  | some f =>
                                    obtain ⟨h1, h2⟩ := HAt.out f rfl
                                    have h3 := HErr.out f rfl
                                    obtain ⟨flst, fpos, fpart, ferr⟩ := f
                                    simp only at h1 h2 h3
                                    subst h1 h2
                                    have he : (ferr == 0) = false := beq_eq_false_iff_ne.2 h3
                                    clear h3 HAt HErr
                                    simp only [tellF, faV]
                                    go_wp2_with fail
                                    go_quiet (fail)
                                    go_wp2_with fail
                                    all_goals (
                                      go_ret
                                      exact ⟨by first | rfl | (simp; done), (by (repeat (first | exact HEN9.out.q.bel | refine below_more ?_ _ | refine below_drew ?_ | refine below_drewN ?_ _)))⟩)
                              case mv_8 =>
                                exact AllReadyH.nil
          · clear HV6
            have n11 := (HA7.out.2.cell 5).trans (show _ = some (.int .i64 z.E.n) from rfl)
            by_cases hn : z.E.n = 0
            · have d0 : ((z.E.n : Int) == 0) = true := by rw [hn]; rfl
              clear hn
              go_wp2_with fail
              go_ret
              exact ⟨rfl, HQ6.out.bel⟩
            · have d0 : ((z.E.n : Int) == 0) = false := by rw [beq_eq_false_iff_ne]; omega
              have HZL : Hid (z.E.n = z.es.length) := Lib.hid HZ.out.e.n
              have hle : z.E.n ≤ 1200 := by have := HFH.out.n; have := HZL.out; omega
              have hpos : 0 < z.E.n := by omega
              have hk := restV_lt at_ hpos
              clear hn
              go_wp2_with fail
              refine (HRk.out _ _ hpos (by omega)).mono ?_
              rintro e w7 ⟨rfl, rfl⟩
              generalize restV at_ z.E.n = kk at hk ⊢
              have a0 := (HQ6.out.a.cell 0).trans (show _ = some (.string x.name) from rfl)
              have a1 := (HQ6.out.a.cell 1).trans (show _ = some (.int .i64 x.ver) from rfl)
              have a2 := (HQ6.out.a.cell 2).trans (show _ = some (.slice x.U.A x.U.n x.U.c) from rfl)
              have a3 := (HQ6.out.a.cell 3).trans (show _ = some (.slice x.C.A x.C.n x.C.c) from rfl)
              have a4 := (HQ6.out.a.cell 4).trans (show _ = some (.slice x.N.A x.N.n x.N.c) from rfl)
              have a5 := (HQ6.out.a.cell 5).trans (show _ = some (.slice x.Q.A x.Q.n x.Q.c) from rfl)
              have a6 := (HQ6.out.a.cell 6).trans (show _ = some (.slice x.E.A x.E.n x.E.c) from rfl)
              have a7 := (HQ6.out.a.cell 7).trans (show _ = some (.slice x.T.A x.T.n x.T.c) from rfl)
              go_wp2_with fail
              clear a0 a1 a2 a3 a4 a5 a6 a7 d0 n11
              refine (HTw.out HFG.out _ HQ6.out.bel).mono ?_
              rintro e w8 ⟨y, rfl, hy, hE, hb8, hO⟩
              have HB8 : Hid (Below w.heap.size w w8) := Lib.hid (HQ6.out.bel.trans (hb8.mono HQ6.out.bel.size))
              have HS : Hid (HSt w x z y w8.heap.size g10 (w8.alloc (.cells #[.string y.name, .int .i64 y.ver, .slice y.U.A y.U.n y.U.c, .slice y.C.A y.C.n y.C.c, .slice y.N.A y.N.n y.N.c, .slice y.Q.A y.Q.n y.Q.c, .slice y.E.A y.E.n y.E.c, .slice y.T.A y.T.n y.T.c] 29)).drew) := Lib.hid (HSt.after (Y := w8.alloc (.cells #[.string y.name, .int .i64 y.ver, .slice y.U.A y.U.n y.U.c, .slice y.C.A y.C.n y.C.c, .slice y.N.A y.N.n y.N.c, .slice y.Q.A y.Q.n y.Q.c, .slice y.E.A y.E.n y.E.c, .slice y.T.A y.T.n y.T.c] 29)) ⟨(HQ6.out.after hb8).after (below_of_alloc _), Blk.new _ _ _, ((HA7.out.1).after hb8).alloc _, (TwinOwn.lower hO (w := w) (HQ6.out.bel.size)).after (below_of_alloc _), langK.mono (langK.below hy (below_of_alloc _)) (Nat.le_refl _) (below_of_alloc _).size⟩ (drew1_below _))
              have HGX : Hid (w.heap.size + 1 < w8.heap.size) := Lib.hid (by have := (HQ6.out.after hb8).size; exact this)
              have HE := Lib.hid hE
              have HYN : Hid (y.E.n = x.E.n) := Lib.hid (twin_ned hE hy HX.out)
              have hyl : y.E.n ≤ 1200 := by have h0 := HYN.out; have h1 := HFG.out.n; have h2 : x.E.n = x.es.length := HX.out.e.n; omega
              clear hy hE hb8 hO
              obtain ⟨b, o, hA, _, hb, hat⟩ := Row.at_ HZ.out.e.row (by omega)
              obtain ⟨q, hq⟩ : ∃ q, z.es[kk]? = some q := ⟨z.es[kk]'(by have := HZL.out; omega), List.getElem?_eq_getElem _⟩
              have q0 := hat (kk * 2 + 0) _ ((flatN_get (f := rowC) (s := 2) (fun _ => rfl) z.es kk q hq 0 (by omega)).trans rfl)
              rw [show o + (kk * 2 + 0) = o + kk * 2 from by omega] at q0
              have q1 := hat (kk * 2 + 1) _ ((flatN_get (f := rowC) (s := 2) (fun _ => rfl) z.es kk q hq 1 (by omega)).trans rfl)
              rw [show o + (kk * 2 + 1) = o + kk * 2 + 1 from by omega] at q1
              have HSo : Hid (∀ Y, B2 w 29 #[.string x.name, .int .i64 x.ver, .slice x.U.A x.U.n x.U.c, .slice x.C.A x.C.n x.C.c, .slice x.N.A x.N.n x.N.c, .slice x.Q.A x.Q.n x.Q.c, .slice x.E.A x.E.n x.E.c, .slice x.T.A x.T.n x.T.c] #[.string z.name, .int .i64 z.ver, .slice z.U.A z.U.n z.U.c, .slice z.C.A z.C.n z.C.c, .slice z.N.A z.N.n z.N.c, .slice z.Q.A z.Q.n z.Q.c, .slice z.E.A z.E.n z.E.c, .slice z.T.A z.T.n z.T.c] Y → Blk Y w8.heap.size 29 #[.string y.name, .int .i64 y.ver, .slice y.U.A y.U.n y.U.c, .slice y.C.A y.C.n y.C.c, .slice y.N.A y.N.n y.N.c, .slice y.Q.A y.Q.n y.Q.c, .slice y.E.A y.E.n y.E.c, .slice y.T.A y.T.n y.T.c] → (Y.cell? ⟨w8.heap.size, 6, none⟩ = some (.slice y.E.A y.E.n y.E.c) ∧ Y.cell? ⟨w.heap.size + 1, 6, none⟩ = some (.slice (some ⟨b, o, none⟩) z.E.n z.E.c) ∧ Y.cell? ⟨b, o + kk * 2, none⟩ = some (.string q.1.con) ∧ Y.cell? ⟨b, o + kk * 2 + 1, none⟩ = some (.slice q.2.A q.2.n q.2.c))) := Lib.hid fun Y h h2 => ⟨(h2.cell 6).trans rfl, (h.b.cell 6).trans (by rw [← hA]; rfl), (h.bel.cell (p := ⟨_, _, none⟩) (Nat.lt_of_lt_of_le hb hh)).trans q0, (h.bel.cell (p := ⟨_, _, none⟩) (Nat.lt_of_lt_of_le hb hh)).trans q1⟩
              have HPQ := Lib.hid hq
              have hcn := (HZ.out.e.row).2.1
              have hcm := (HZ.out.e.row).2.2.1
              unfold maxLen at hcm
              obtain ⟨i1, hi1, hz1, hs1, hb1⟩ := info_parts info_ed
              clear hat hq q0 q1 hA
              go_upto_region 22 with (fail)
              have HSq := HS
              refine wp_region_held_tail 8 (fun Y => Y.cell? ⟨w8.heap.size, 6, none⟩ = some (.slice y.E.A y.E.n y.E.c) ∧ Y.cell? ⟨w.heap.size + 1, 6, none⟩ = some (.slice (some ⟨b, o, none⟩) z.E.n z.E.c) ∧ Y.cell? ⟨b, o + kk * 2, none⟩ = some (.string q.1.con) ∧ Y.cell? ⟨b, o + kk * 2 + 1, none⟩ = some (.slice q.2.A q.2.n q.2.c)) (by kernel_rfl) (by kernel_rfl) ?hSv (fun hHeld => ?qv0)
              case hSv => exact HSo.out _ HSq.out.q HSq.out.bx
              case qv0 =>
                simp only [List.take_succ_cons, List.take_zero, List.drop_succ_cons, List.drop_zero]
                refine wpAnyH_take (i := 0) (v := (.pointer (some ⟨w8.heap.size, 6, none⟩))) rfl (by kernel_rfl) (by kernel_rfl) (by kernel_rfl) (fun _ _ _ h => h) (Or.inl ⟨by rfl, ?yv_1⟩) (by assumption) ?qv_1
                case yv_1 => (intro w hSw; (try dsimp only at hSw); go_simp)
                case qv_1 =>
                  (try simp only [Act.put]); (try simp only [List.setIfInBounds_toArray])
                  refine wpAnyH_take (i := 1) (v := (.slice y.E.A y.E.n y.E.c)) rfl (by kernel_rfl) (by kernel_rfl) (by kernel_rfl) (fun _ _ _ h => h) (Or.inl ⟨by rfl, ?yv_2⟩) (by assumption) ?qv_2
                  case yv_2 => (intro w hSw; (try dsimp only at hSw); go_simp)
                  case qv_2 =>
                    (try simp only [Act.put]); (try simp only [List.setIfInBounds_toArray])
                    refine wpAnyH_take (i := 2) (v := (.pointer (some ⟨w.heap.size + 1, 6, none⟩))) rfl (by kernel_rfl) (by kernel_rfl) (by kernel_rfl) (fun _ _ _ h => h) (Or.inl ⟨by rfl, ?yv_3⟩) (by assumption) ?qv_3
                    case yv_3 => (intro w hSw; (try dsimp only at hSw); go_simp)
                    case qv_3 =>
                      (try simp only [Act.put]); (try simp only [List.setIfInBounds_toArray])
                      refine wpAnyH_take (i := 3) (v := (.slice (some ⟨b, o, none⟩) z.E.n z.E.c)) rfl (by kernel_rfl) (by kernel_rfl) (by kernel_rfl) (fun _ _ _ h => h) (Or.inl ⟨by rfl, ?yv_4⟩) (by assumption) ?qv_4
                      case yv_4 => (intro w hSw; (try dsimp only at hSw); go_simp)
                      case qv_4 =>
                        (try simp only [Act.put]); (try simp only [List.setIfInBounds_toArray])
                        refine wpAnyH_take (i := 4) (v := (.int .i64 kk)) rfl (by kernel_rfl) (by kernel_rfl) (by kernel_rfl) (fun _ _ _ h => h) (Or.inl ⟨by rfl, ?yv_5⟩) (by assumption) ?qv_5
                        case yv_5 => (intro w hSw; (try dsimp only at hSw); go_simp)
                        case qv_5 =>
                          (try simp only [Act.put]); (try simp only [List.setIfInBounds_toArray])
                          refine wpAnyH_take (i := 5) (v := (.pointer (some ⟨b, o + kk * 2, none⟩))) rfl (by kernel_rfl) (by kernel_rfl) (by kernel_rfl) (fun _ _ _ h => h) (Or.inl ⟨by rfl, ?yv_6⟩) (by assumption) ?qv_6
                          case yv_6 => (intro w hSw; (try dsimp only at hSw); go_simp)
                          case qv_6 =>
                            (try simp only [Act.put]); (try simp only [List.setIfInBounds_toArray])
                            refine wpAnyH_take (i := 6) (v := (.agg #[.string q.1.con, .slice q.2.A q.2.n q.2.c])) rfl (by kernel_rfl) (by kernel_rfl) (by kernel_rfl) (fun _ _ _ h => h) (Or.inl ⟨by rfl, ?yv_7⟩) (by assumption) ?qv_7
                            case yv_7 => (intro w hSw; (try dsimp only at hSw); go_simp)
                            case qv_7 =>
                              (try simp only [Act.put]); (try simp only [List.setIfInBounds_toArray])
                              refine wpAnyH_ready (rs := [7]) (by kernel_rfl) (by simp) ?_
                              refine AllReadyH.cons rfl (fun K hK => ?sv_8) ?mv_8
                              case sv_8 =>
                                (refine step_mk1 _ (by rfl) 55 #[.string q.1.con, .slice q.2.A q.2.n q.2.c] (by go_simp) ?_; intro gq Yq hxq hbq hsq; have HUq := Lib.hid hxq; have HRq : Hid (Row Yq gq (gq + 1) 2 (some ⟨gq, 0, none⟩) 1 1 [.string q.1.con, .slice q.2.A q.2.n q.2.c]) := Lib.hid (row_blk HUq.out rfl (Nat.le_refl _) (by unfold maxLen; omega)); have HSq := Lib.hid (HSq.out.after hbq); clear hxq hbq hsq)
                                refine hK.out _ _ ?kv_8 (fun hHeld => ?qv_8)
                                case kv_8 => ((try dsimp only); exact HSo.out _ HSq.out.q HSq.out.bx)
                                case qv_8 =>
                                  clear hK K
                                  (try simp only [Act.put]); (try simp only [List.setIfInBounds_toArray])
                                  refine wpAnyH_done (by kernel_rfl) ?_ _
                                  clear hHeld
                                  show wpList _ _ _ _ _ _
                                  go_wp2_with (at_builtin; with_reducible show wpList _ _ _ (⟨some 116, _, _, _, _, _⟩ :: _) _ _; go_must (refine wpList_app (o := ⟨some 116, _, _, _, _, _⟩) _ rfl (.tmp 109) (.tmp 115) _ rfl (w.heap.size + 2) 55 i1 _ 2 40 Tryz.underlying26 hi1 hz1 hs1 hb1 rfl (by omega) (.slice y.E.A y.E.n y.E.c) y.E.n (y.es.flatMap rowC) (by go_simp) (own_len HSq.out.o.e.own HSq.out.l.e.n) gq (gq + 1) (some ⟨gq, 0, none⟩) 1 1 [.string q.1.con, .slice q.2.A q.2.n q.2.c] (by go_simp) HRq.out (by simp [Value.oneCell']) (by unfold maxLen; omega) (by omega) (by have := HSq.out.q.size; omega) ?_); go_must (intro vn Yn hownN hgrN _; obtain ⟨A', c', rfl⟩ := own_form hownN; have HEN := Lib.hid (push_ed HSq.out HGX.out q (rowK.mono (HZ.out.e.all q (List.mem_of_getElem? HPQ.out)) (Nat.le_refl _) hh) hownN hgrN); have HMn := mid_of HSq.out (own_len HSq.out.o.e.own HSq.out.l.e.n) (by decide) hgrN; have s1 := (HMn.2.cell 6).trans (show _ = some (.slice y.E.A y.E.n y.E.c) from rfl); have s2 := HMn.2.frozen 6; have e0 := (HEN.out.bx.cell 0).trans (show _ = some (.string y.name) from rfl); have e1 := (HEN.out.bx.cell 1).trans (show _ = some (.int .i64 y.ver) from rfl); have e2 := (HEN.out.bx.cell 2).trans (show _ = some (.slice y.U.A y.U.n y.U.c) from rfl); have e3 := (HEN.out.bx.cell 3).trans (show _ = some (.slice y.C.A y.C.n y.C.c) from rfl); have e4 := (HEN.out.bx.cell 4).trans (show _ = some (.slice y.N.A y.N.n y.N.c) from rfl); have e5 := (HEN.out.bx.cell 5).trans (show _ = some (.slice y.Q.A y.Q.n y.Q.c) from rfl); have e6 := (HEN.out.bx.cell 6).trans (show _ = some (.slice A' (y.E.n + 1) c') from rfl); have e7 := (HEN.out.bx.cell 7).trans (show _ = some (.slice y.T.A y.T.n y.T.c) from rfl);  clear hownN hgrN HMn))
                                  clear s1 s2 e0 e1 e2 e3 e4 e5 e6 e7
                                  have HCk : Calls Tryz.prog 7 #[.agg #[.string y.name, .int .i64 y.ver, .slice y.U.A y.U.n y.U.c, .slice y.C.A y.C.n y.C.c, .slice y.N.A y.N.n y.N.c, .slice y.Q.A y.Q.n y.Q.c, .slice A' (y.E.n + 1) c', .slice y.T.A y.T.n y.T.c]] (Yn.setCell ⟨w8.heap.size, 6, none⟩ (.slice A' (y.E.n + 1) c')) (Told (Yn.setCell ⟨w8.heap.size, 6, none⟩ (.slice A' (y.E.n + 1) c')) (langF ({ y with E := ⟨A', y.E.n + 1, c'⟩, es := y.es ++ [q] } : LangM))) := check_any _ _ ({ y with E := ⟨A', y.E.n + 1, c'⟩, es := y.es ++ [q] } : LangM) HEN.out.l (Nat.le_refl _) (fit_ed HFX.out HFZ.out HE.out (List.mem_of_getElem? HPQ.out))
                                  have HAt : Hid (AtElem 5 x.E.n (langF ({ y with E := ⟨A', y.E.n + 1, c'⟩, es := y.es ++ [q] } : LangM))) := Lib.hid (at_ed HV.out HE.out HX.out)
                                  have HErr : Hid (∀ f, langF ({ y with E := ⟨A', y.E.n + 1, c'⟩, es := y.es ++ [q] } : LangM) = some f → f.err ≠ 0) := Lib.hid fun f hf => langG_err (k := cont ({ y with E := ⟨A', y.E.n + 1, c'⟩, es := y.es ++ [q] } : LangM)) (by rw [← langG_eq]; exact hf)
                                  refine HCk.mono ?_
                                  rintro e w9 ⟨rfl, hb9⟩
                                  have HEN9 := Lib.hid (HEN.out.after hb9)
                                  clear hb9 HCk
                                  generalize langF ({ y with E := ⟨A', y.E.n + 1, c'⟩, es := y.es ++ [q] } : LangM) = v9 at HAt HErr ⊢
                                  have hs9 : ∀ o, (w9.alloc o).cell? ⟨g10, 5, none⟩ = some (.int .i64 x.E.n) := fun o => ((HEN9.out.bs.alloc o).cell 5).trans rfl
                                  cases v9 with
                                  | none =>
                                    simp only [tellF, faV]
                                    go_wp2_with fail
                                    go_quiet (fail)
                                    go_wp2_with fail
                                    all_goals (
                                      go_ret
                                      exact ⟨rfl, (by (repeat (first | exact HEN9.out.q.bel | refine below_more ?_ _ | refine below_drew ?_ | refine below_drewN ?_ _)))⟩)
                                  | some f =>
                                    obtain ⟨h1, h2⟩ := HAt.out f rfl
                                    have h3 := HErr.out f rfl
                                    obtain ⟨flst, fpos, fpart, ferr⟩ := f
                                    simp only at h1 h2 h3
                                    subst h1 h2
                                    have he : (ferr == 0) = false := beq_eq_false_iff_ne.2 h3
                                    clear h3 HAt HErr
                                    simp only [tellF, faV]
                                    go_wp2_with fail
                                    go_quiet (fail)
                                    go_wp2_with fail
                                    all_goals (
                                      go_ret
                                      exact ⟨by first | rfl | (simp; done), (by (repeat (first | exact HEN9.out.q.bel | refine below_more ?_ _ | refine below_drew ?_ | refine below_drewN ?_ _)))⟩)
                              case mv_8 =>
                                exact AllReadyH.nil
          · clear HV6
            have n11 := (HA7.out.2.cell 6).trans (show _ = some (.int .i64 z.T.n) from rfl)
            by_cases hn : z.T.n = 0
            · have d0 : ((z.T.n : Int) == 0) = true := by rw [hn]; rfl
              clear hn
              go_wp2_with fail
              go_ret
              exact ⟨rfl, HQ6.out.bel⟩
            · have d0 : ((z.T.n : Int) == 0) = false := by rw [beq_eq_false_iff_ne]; omega
              have HZL : Hid (z.T.n = z.ts.length) := Lib.hid HZ.out.t.n
              have hle : z.T.n ≤ 1200 := by have := HFH.out.n; have := HZL.out; omega
              have hpos : 0 < z.T.n := by omega
              have hk := restV_lt at_ hpos
              clear hn
              go_wp2_with fail
              refine (HRk.out _ _ hpos (by omega)).mono ?_
              rintro e w7 ⟨rfl, rfl⟩
              generalize restV at_ z.T.n = kk at hk ⊢
              have a0 := (HQ6.out.a.cell 0).trans (show _ = some (.string x.name) from rfl)
              have a1 := (HQ6.out.a.cell 1).trans (show _ = some (.int .i64 x.ver) from rfl)
              have a2 := (HQ6.out.a.cell 2).trans (show _ = some (.slice x.U.A x.U.n x.U.c) from rfl)
              have a3 := (HQ6.out.a.cell 3).trans (show _ = some (.slice x.C.A x.C.n x.C.c) from rfl)
              have a4 := (HQ6.out.a.cell 4).trans (show _ = some (.slice x.N.A x.N.n x.N.c) from rfl)
              have a5 := (HQ6.out.a.cell 5).trans (show _ = some (.slice x.Q.A x.Q.n x.Q.c) from rfl)
              have a6 := (HQ6.out.a.cell 6).trans (show _ = some (.slice x.E.A x.E.n x.E.c) from rfl)
              have a7 := (HQ6.out.a.cell 7).trans (show _ = some (.slice x.T.A x.T.n x.T.c) from rfl)
              go_wp2_with fail
              clear a0 a1 a2 a3 a4 a5 a6 a7 d0 n11
              refine (HTw.out HFG.out _ HQ6.out.bel).mono ?_
              rintro e w8 ⟨y, rfl, hy, hE, hb8, hO⟩
              have HB8 : Hid (Below w.heap.size w w8) := Lib.hid (HQ6.out.bel.trans (hb8.mono HQ6.out.bel.size))
              have HS : Hid (HSt w x z y w8.heap.size g10 (w8.alloc (.cells #[.string y.name, .int .i64 y.ver, .slice y.U.A y.U.n y.U.c, .slice y.C.A y.C.n y.C.c, .slice y.N.A y.N.n y.N.c, .slice y.Q.A y.Q.n y.Q.c, .slice y.E.A y.E.n y.E.c, .slice y.T.A y.T.n y.T.c] 29)).drew) := Lib.hid (HSt.after (Y := w8.alloc (.cells #[.string y.name, .int .i64 y.ver, .slice y.U.A y.U.n y.U.c, .slice y.C.A y.C.n y.C.c, .slice y.N.A y.N.n y.N.c, .slice y.Q.A y.Q.n y.Q.c, .slice y.E.A y.E.n y.E.c, .slice y.T.A y.T.n y.T.c] 29)) ⟨(HQ6.out.after hb8).after (below_of_alloc _), Blk.new _ _ _, ((HA7.out.1).after hb8).alloc _, (TwinOwn.lower hO (w := w) (HQ6.out.bel.size)).after (below_of_alloc _), langK.mono (langK.below hy (below_of_alloc _)) (Nat.le_refl _) (below_of_alloc _).size⟩ (drew1_below _))
              have HGX : Hid (w.heap.size + 1 < w8.heap.size) := Lib.hid (by have := (HQ6.out.after hb8).size; exact this)
              have HE := Lib.hid hE
              have HYN : Hid (y.T.n = x.T.n) := Lib.hid (twin_nte hE hy HX.out)
              have hyl : y.T.n ≤ 1200 := by have h0 := HYN.out; have h1 := HFG.out.n; have h2 : x.T.n = x.ts.length := HX.out.t.n; omega
              clear hy hE hb8 hO
              obtain ⟨b, o, hA, _, hb, hat⟩ := Row.at_ HZ.out.t.row (by omega)
              obtain ⟨q, hq⟩ : ∃ q, z.ts[kk]? = some q := ⟨z.ts[kk]'(by have := HZL.out; omega), List.getElem?_eq_getElem _⟩
              have q0 := hat (kk * 2 + 0) _ ((flatN_get (f := rowC) (s := 2) (fun _ => rfl) z.ts kk q hq 0 (by omega)).trans rfl)
              rw [show o + (kk * 2 + 0) = o + kk * 2 from by omega] at q0
              have q1 := hat (kk * 2 + 1) _ ((flatN_get (f := rowC) (s := 2) (fun _ => rfl) z.ts kk q hq 1 (by omega)).trans rfl)
              rw [show o + (kk * 2 + 1) = o + kk * 2 + 1 from by omega] at q1
              have HSo : Hid (∀ Y, B2 w 29 #[.string x.name, .int .i64 x.ver, .slice x.U.A x.U.n x.U.c, .slice x.C.A x.C.n x.C.c, .slice x.N.A x.N.n x.N.c, .slice x.Q.A x.Q.n x.Q.c, .slice x.E.A x.E.n x.E.c, .slice x.T.A x.T.n x.T.c] #[.string z.name, .int .i64 z.ver, .slice z.U.A z.U.n z.U.c, .slice z.C.A z.C.n z.C.c, .slice z.N.A z.N.n z.N.c, .slice z.Q.A z.Q.n z.Q.c, .slice z.E.A z.E.n z.E.c, .slice z.T.A z.T.n z.T.c] Y → Blk Y w8.heap.size 29 #[.string y.name, .int .i64 y.ver, .slice y.U.A y.U.n y.U.c, .slice y.C.A y.C.n y.C.c, .slice y.N.A y.N.n y.N.c, .slice y.Q.A y.Q.n y.Q.c, .slice y.E.A y.E.n y.E.c, .slice y.T.A y.T.n y.T.c] → (Y.cell? ⟨w8.heap.size, 7, none⟩ = some (.slice y.T.A y.T.n y.T.c) ∧ Y.cell? ⟨w.heap.size + 1, 7, none⟩ = some (.slice (some ⟨b, o, none⟩) z.T.n z.T.c) ∧ Y.cell? ⟨b, o + kk * 2, none⟩ = some (.string q.1.con) ∧ Y.cell? ⟨b, o + kk * 2 + 1, none⟩ = some (.slice q.2.A q.2.n q.2.c))) := Lib.hid fun Y h h2 => ⟨(h2.cell 7).trans rfl, (h.b.cell 7).trans (by rw [← hA]; rfl), (h.bel.cell (p := ⟨_, _, none⟩) (Nat.lt_of_lt_of_le hb hh)).trans q0, (h.bel.cell (p := ⟨_, _, none⟩) (Nat.lt_of_lt_of_le hb hh)).trans q1⟩
              have HPQ := Lib.hid hq
              have hcn := (HZ.out.t.row).2.1
              have hcm := (HZ.out.t.row).2.2.1
              unfold maxLen at hcm
              obtain ⟨i1, hi1, hz1, hs1, hb1⟩ := info_parts info_te
              clear hat hq q0 q1 hA
              go_upto_region 12 with (fail)
              have HSq := HS
              refine wp_region_held_tail 8 (fun Y => Y.cell? ⟨w8.heap.size, 7, none⟩ = some (.slice y.T.A y.T.n y.T.c) ∧ Y.cell? ⟨w.heap.size + 1, 7, none⟩ = some (.slice (some ⟨b, o, none⟩) z.T.n z.T.c) ∧ Y.cell? ⟨b, o + kk * 2, none⟩ = some (.string q.1.con) ∧ Y.cell? ⟨b, o + kk * 2 + 1, none⟩ = some (.slice q.2.A q.2.n q.2.c)) (by kernel_rfl) (by kernel_rfl) ?hSv (fun hHeld => ?qv0)
              case hSv => exact HSo.out _ HSq.out.q HSq.out.bx
              case qv0 =>
                simp only [List.take_succ_cons, List.take_zero, List.drop_succ_cons, List.drop_zero]
                refine wpAnyH_take (i := 0) (v := (.pointer (some ⟨w8.heap.size, 7, none⟩))) rfl (by kernel_rfl) (by kernel_rfl) (by kernel_rfl) (fun _ _ _ h => h) (Or.inl ⟨by rfl, ?yv_1⟩) (by assumption) ?qv_1
                case yv_1 => (intro w hSw; (try dsimp only at hSw); go_simp)
                case qv_1 =>
                  (try simp only [Act.put]); (try simp only [List.setIfInBounds_toArray])
                  refine wpAnyH_take (i := 1) (v := (.slice y.T.A y.T.n y.T.c)) rfl (by kernel_rfl) (by kernel_rfl) (by kernel_rfl) (fun _ _ _ h => h) (Or.inl ⟨by rfl, ?yv_2⟩) (by assumption) ?qv_2
                  case yv_2 => (intro w hSw; (try dsimp only at hSw); go_simp)
                  case qv_2 =>
                    (try simp only [Act.put]); (try simp only [List.setIfInBounds_toArray])
                    refine wpAnyH_take (i := 2) (v := (.pointer (some ⟨w.heap.size + 1, 7, none⟩))) rfl (by kernel_rfl) (by kernel_rfl) (by kernel_rfl) (fun _ _ _ h => h) (Or.inl ⟨by rfl, ?yv_3⟩) (by assumption) ?qv_3
                    case yv_3 => (intro w hSw; (try dsimp only at hSw); go_simp)
                    case qv_3 =>
                      (try simp only [Act.put]); (try simp only [List.setIfInBounds_toArray])
                      refine wpAnyH_take (i := 3) (v := (.slice (some ⟨b, o, none⟩) z.T.n z.T.c)) rfl (by kernel_rfl) (by kernel_rfl) (by kernel_rfl) (fun _ _ _ h => h) (Or.inl ⟨by rfl, ?yv_4⟩) (by assumption) ?qv_4
                      case yv_4 => (intro w hSw; (try dsimp only at hSw); go_simp)
                      case qv_4 =>
                        (try simp only [Act.put]); (try simp only [List.setIfInBounds_toArray])
                        refine wpAnyH_take (i := 4) (v := (.int .i64 kk)) rfl (by kernel_rfl) (by kernel_rfl) (by kernel_rfl) (fun _ _ _ h => h) (Or.inl ⟨by rfl, ?yv_5⟩) (by assumption) ?qv_5
                        case yv_5 => (intro w hSw; (try dsimp only at hSw); go_simp)
                        case qv_5 =>
                          (try simp only [Act.put]); (try simp only [List.setIfInBounds_toArray])
                          refine wpAnyH_take (i := 5) (v := (.pointer (some ⟨b, o + kk * 2, none⟩))) rfl (by kernel_rfl) (by kernel_rfl) (by kernel_rfl) (fun _ _ _ h => h) (Or.inl ⟨by rfl, ?yv_6⟩) (by assumption) ?qv_6
                          case yv_6 => (intro w hSw; (try dsimp only at hSw); go_simp)
                          case qv_6 =>
                            (try simp only [Act.put]); (try simp only [List.setIfInBounds_toArray])
                            refine wpAnyH_take (i := 6) (v := (.agg #[.string q.1.con, .slice q.2.A q.2.n q.2.c])) rfl (by kernel_rfl) (by kernel_rfl) (by kernel_rfl) (fun _ _ _ h => h) (Or.inl ⟨by rfl, ?yv_7⟩) (by assumption) ?qv_7
                            case yv_7 => (intro w hSw; (try dsimp only at hSw); go_simp)
                            case qv_7 =>
                              (try simp only [Act.put]); (try simp only [List.setIfInBounds_toArray])
                              refine wpAnyH_ready (rs := [7]) (by kernel_rfl) (by simp) ?_
                              refine AllReadyH.cons rfl (fun K hK => ?sv_8) ?mv_8
                              case sv_8 =>
                                (refine step_mk1 _ (by rfl) 58 #[.string q.1.con, .slice q.2.A q.2.n q.2.c] (by go_simp) ?_; intro gq Yq hxq hbq hsq; have HUq := Lib.hid hxq; have HRq : Hid (Row Yq gq (gq + 1) 2 (some ⟨gq, 0, none⟩) 1 1 [.string q.1.con, .slice q.2.A q.2.n q.2.c]) := Lib.hid (row_blk HUq.out rfl (Nat.le_refl _) (by unfold maxLen; omega)); have HSq := Lib.hid (HSq.out.after hbq); clear hxq hbq hsq)
                                refine hK.out _ _ ?kv_8 (fun hHeld => ?qv_8)
                                case kv_8 => ((try dsimp only); exact HSo.out _ HSq.out.q HSq.out.bx)
                                case qv_8 =>
                                  clear hK K
                                  (try simp only [Act.put]); (try simp only [List.setIfInBounds_toArray])
                                  refine wpAnyH_done (by kernel_rfl) ?_ _
                                  clear hHeld
                                  show wpList _ _ _ _ _ _
                                  go_wp2_with (at_builtin; with_reducible show wpList _ _ _ (⟨some 56, _, _, _, _, _⟩ :: _) _ _; go_must (refine wpList_app (o := ⟨some 56, _, _, _, _, _⟩) _ rfl (.tmp 49) (.tmp 55) _ rfl (w.heap.size + 2) 58 i1 _ 2 40 Tryz.underlying27 hi1 hz1 hs1 hb1 rfl (by omega) (.slice y.T.A y.T.n y.T.c) y.T.n (y.ts.flatMap rowC) (by go_simp) (own_len HSq.out.o.t.own HSq.out.l.t.n) gq (gq + 1) (some ⟨gq, 0, none⟩) 1 1 [.string q.1.con, .slice q.2.A q.2.n q.2.c] (by go_simp) HRq.out (by simp [Value.oneCell']) (by unfold maxLen; omega) (by omega) (by have := HSq.out.q.size; omega) ?_); go_must (intro vn Yn hownN hgrN _; obtain ⟨A', c', rfl⟩ := own_form hownN; have HEN := Lib.hid (push_te HSq.out HGX.out q (rowK.mono (HZ.out.t.all q (List.mem_of_getElem? HPQ.out)) (Nat.le_refl _) hh) hownN hgrN); have HMn := mid_of HSq.out (own_len HSq.out.o.t.own HSq.out.l.t.n) (by decide) hgrN; have s1 := (HMn.2.cell 7).trans (show _ = some (.slice y.T.A y.T.n y.T.c) from rfl); have s2 := HMn.2.frozen 7; have e0 := (HEN.out.bx.cell 0).trans (show _ = some (.string y.name) from rfl); have e1 := (HEN.out.bx.cell 1).trans (show _ = some (.int .i64 y.ver) from rfl); have e2 := (HEN.out.bx.cell 2).trans (show _ = some (.slice y.U.A y.U.n y.U.c) from rfl); have e3 := (HEN.out.bx.cell 3).trans (show _ = some (.slice y.C.A y.C.n y.C.c) from rfl); have e4 := (HEN.out.bx.cell 4).trans (show _ = some (.slice y.N.A y.N.n y.N.c) from rfl); have e5 := (HEN.out.bx.cell 5).trans (show _ = some (.slice y.Q.A y.Q.n y.Q.c) from rfl); have e6 := (HEN.out.bx.cell 6).trans (show _ = some (.slice y.E.A y.E.n y.E.c) from rfl); have e7 := (HEN.out.bx.cell 7).trans (show _ = some (.slice A' (y.T.n + 1) c') from rfl);  clear hownN hgrN HMn))
                                  clear s1 s2 e0 e1 e2 e3 e4 e5 e6 e7
                                  have HCk : Calls Tryz.prog 7 #[.agg #[.string y.name, .int .i64 y.ver, .slice y.U.A y.U.n y.U.c, .slice y.C.A y.C.n y.C.c, .slice y.N.A y.N.n y.N.c, .slice y.Q.A y.Q.n y.Q.c, .slice y.E.A y.E.n y.E.c, .slice A' (y.T.n + 1) c']] (Yn.setCell ⟨w8.heap.size, 7, none⟩ (.slice A' (y.T.n + 1) c')) (Told (Yn.setCell ⟨w8.heap.size, 7, none⟩ (.slice A' (y.T.n + 1) c')) (langF ({ y with T := ⟨A', y.T.n + 1, c'⟩, ts := y.ts ++ [q] } : LangM))) := check_any _ _ ({ y with T := ⟨A', y.T.n + 1, c'⟩, ts := y.ts ++ [q] } : LangM) HEN.out.l (Nat.le_refl _) (fit_te HFX.out HFZ.out HE.out (List.mem_of_getElem? HPQ.out))
                                  have HAt : Hid (AtElem 6 x.T.n (langF ({ y with T := ⟨A', y.T.n + 1, c'⟩, ts := y.ts ++ [q] } : LangM))) := Lib.hid (at_te HV.out HE.out HX.out)
                                  have HErr : Hid (∀ f, langF ({ y with T := ⟨A', y.T.n + 1, c'⟩, ts := y.ts ++ [q] } : LangM) = some f → f.err ≠ 0) := Lib.hid fun f hf => langG_err (k := cont ({ y with T := ⟨A', y.T.n + 1, c'⟩, ts := y.ts ++ [q] } : LangM)) (by rw [← langG_eq]; exact hf)
                                  refine HCk.mono ?_
                                  rintro e w9 ⟨rfl, hb9⟩
                                  have HEN9 := Lib.hid (HEN.out.after hb9)
                                  clear hb9 HCk
                                  generalize langF ({ y with T := ⟨A', y.T.n + 1, c'⟩, ts := y.ts ++ [q] } : LangM) = v9 at HAt HErr ⊢
                                  have hs9 : ∀ o, (w9.alloc o).cell? ⟨g10, 6, none⟩ = some (.int .i64 x.T.n) := fun o => ((HEN9.out.bs.alloc o).cell 6).trans rfl
                                  cases v9 with
                                  | none =>
                                    simp only [tellF, faV]
                                    go_wp2_with fail
                                    go_quiet (fail)
                                    go_wp2_with fail
                                    all_goals (
                                      go_ret
                                      exact ⟨rfl, (by (repeat (first | exact HEN9.out.q.bel | refine below_more ?_ _ | refine below_drew ?_ | refine below_drewN ?_ _)))⟩)
                                  | some f =>
                                    obtain ⟨h1, h2⟩ := HAt.out f rfl
                                    have h3 := HErr.out f rfl
                                    obtain ⟨flst, fpos, fpart, ferr⟩ := f
                                    simp only at h1 h2 h3
                                    subst h1 h2
                                    have he : (ferr == 0) = false := beq_eq_false_iff_ne.2 h3
                                    clear h3 HAt HErr
                                    simp only [tellF, faV]
                                    go_wp2_with fail
                                    go_quiet (fail)
                                    go_wp2_with fail
                                    all_goals (
                                      go_ret
                                      exact ⟨by first | rfl | (simp; done), (by (repeat (first | exact HEN9.out.q.bel | refine below_more ?_ _ | refine below_drew ?_ | refine below_drewN ?_ _)))⟩)
                              case mv_8 =>
                                exact AllReadyH.nil
end Go.Proofs.YtoeobgdmghodeaaGreat

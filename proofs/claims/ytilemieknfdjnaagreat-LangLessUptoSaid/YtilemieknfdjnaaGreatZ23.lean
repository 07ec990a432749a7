/-
  WALKS: less.
-/
import Derived.Test.YtilemieknfdjnaaGreatZ22
import Derived.Deep.RegionHeld3
namespace Go.Proofs.YtilemieknfdjnaaGreat
open Go Go.RowKit Go.Sort
set_option linter.unusedVariables false
attribute [local go_sem ↓] Go.wp_at_zero Go.wp_at_succ
set_option maxRecDepth 40000 in
set_option maxHeartbeats 12800000 in
theorem less_any (w : World) (hi : Nat) (x : LangM) (which at_ part : Int) (hx : LangIn w 0 hi x) (hh : hi ≤ w.heap.size) (fg : FitG x) (fx : Fit x) :
    Calls Tryz.prog 8 #[.agg #[.string x.name, .int .i64 x.ver, .slice x.U.A x.U.n x.U.c, .slice x.C.A x.C.n x.C.c, .slice x.N.A x.N.n x.N.c, .slice x.Q.A x.Q.n x.Q.c, .slice x.E.A x.E.n x.E.c, .slice x.T.A x.T.n x.T.c], .int .i64 which, .int .i64 at_, .int .i64 part] w (LessPost w x) := by
  have HRw : Hid (∀ Y, Calls Tryz.prog 9 #[.int .i64 which, .int .i64 9] Y (fun e w' => e = .returned (.int .i64 (restV which 9)) ∧ Y = w')) := Lib.hid fun Y => rest_any Y which 9 (by decide) (by decide)
  have HRk : Hid (∀ Y (n : Nat), 0 < n → n ≤ 5000 → Calls Tryz.prog 9 #[.int .i64 at_, .int .i64 n] Y (fun e w' => e = .returned (.int .i64 (restV at_ n)) ∧ Y = w')) := Lib.hid fun Y n h0 h1 => rest_any Y at_ n h0 h1
  have HRp : Hid (∀ Y (n : Nat), n ≤ 20000 → Calls Tryz.prog 9 #[.int .i64 part, .int .i64 ((n : Int) + 1)] Y (fun e w' => e = .returned (.int .i64 (restV part (n + 1))) ∧ Y = w')) := Lib.hid fun Y n h1 => (by have h := rest_far Y part (n + 1) (by omega) (by omega); rw [show ((n + 1 : Nat) : Int) = (n : Int) + 1 from by omega] at h; exact h)
  have HTw : Hid (∀ Y, Below w.heap.size w Y → Calls Tryz.prog 11 #[.agg #[.string x.name, .int .i64 x.ver, .slice x.U.A x.U.n x.U.c, .slice x.C.A x.C.n x.C.c, .slice x.N.A x.N.n x.N.c, .slice x.Q.A x.Q.n x.Q.c, .slice x.E.A x.E.n x.E.c, .slice x.T.A x.T.n x.T.c]] Y (TwinPost5 Y x)) := Lib.hid fun Y hY => twin5_any Y hi x (langK.below hx (hY.mono hh)) (Nat.le_trans hh hY.size) (fit4_of fg fx)
  have HX := Lib.hid hx
  have HFX := Lib.hid fx
  have HFG := Lib.hid fg
  have HQ0 : Hid (B2 w 29 #[.string x.name, .int .i64 x.ver, .slice x.U.A x.U.n x.U.c, .slice x.C.A x.C.n x.C.c, .slice x.N.A x.N.n x.N.c, .slice x.Q.A x.Q.n x.Q.c, .slice x.E.A x.E.n x.E.c, .slice x.T.A x.T.n x.T.c] #[.string ⟨#[]⟩, .int .i64 0, .slice none 0 0, .slice none 0 0, .slice none 0 0, .slice none 0 0, .slice none 0 0, .slice none 0 0] ((w.alloc (.cells #[.string x.name, .int .i64 x.ver, .slice x.U.A x.U.n x.U.c, .slice x.C.A x.C.n x.C.c, .slice x.N.A x.N.n x.N.c, .slice x.Q.A x.Q.n x.Q.c, .slice x.E.A x.E.n x.E.c, .slice x.T.A x.T.n x.T.c] 29)).alloc (.cells #[.string ⟨#[]⟩, .int .i64 0, .slice none 0 0, .slice none 0 0, .slice none 0 0, .slice none 0 0, .slice none 0 0, .slice none 0 0] 29))) := Lib.hid (B2.start _ _ _ _)
  clear hx fx fg
  have a0 := (HQ0.out.a.cell 0).trans (show _ = some (.string x.name) from rfl)
  have a1 := (HQ0.out.a.cell 1).trans (show _ = some (.int .i64 x.ver) from rfl)
  have a2 := (HQ0.out.a.cell 2).trans (show _ = some (.slice x.U.A x.U.n x.U.c) from rfl)
  have a3 := (HQ0.out.a.cell 3).trans (show _ = some (.slice x.C.A x.C.n x.C.c) from rfl)
  have a4 := (HQ0.out.a.cell 4).trans (show _ = some (.slice x.N.A x.N.n x.N.c) from rfl)
  have a5 := (HQ0.out.a.cell 5).trans (show _ = some (.slice x.Q.A x.Q.n x.Q.c) from rfl)
  have a6 := (HQ0.out.a.cell 6).trans (show _ = some (.slice x.E.A x.E.n x.E.c) from rfl)
  have a7 := (HQ0.out.a.cell 7).trans (show _ = some (.slice x.T.A x.T.n x.T.c) from rfl)
  go_enter Tryz.func8, Tryz.ntmps8
  go_upto_region 2 with (fail)
  clear a0 a1 a2 a3 a4 a5 a6 a7
  have HQ1 : Hid (B2 w 29 #[.string x.name, .int .i64 x.ver, .slice x.U.A x.U.n x.U.c, .slice x.C.A x.C.n x.C.c, .slice x.N.A x.N.n x.N.c, .slice x.Q.A x.Q.n x.Q.c, .slice x.E.A x.E.n x.E.c, .slice x.T.A x.T.n x.T.c] #[.string ⟨#[]⟩, .int .i64 0, .slice none 0 0, .slice none 0 0, .slice none 0 0, .slice none 0 0, .slice none 0 0, .slice none 0 0] (((w.alloc (.cells #[.string x.name, .int .i64 x.ver, .slice x.U.A x.U.n x.U.c, .slice x.C.A x.C.n x.C.c, .slice x.N.A x.N.n x.N.c, .slice x.Q.A x.Q.n x.Q.c, .slice x.E.A x.E.n x.E.c, .slice x.T.A x.T.n x.T.c] 29)).alloc (.cells #[.string ⟨#[]⟩, .int .i64 0, .slice none 0 0, .slice none 0 0, .slice none 0 0, .slice none 0 0, .slice none 0 0, .slice none 0 0] 29)).alloc (.cells #[.int .i64 x.U.n, .int .i64 x.C.n, .int .i64 x.N.n, .int .i64 x.Q.n, .int .i64 x.E.n, .int .i64 x.T.n, .int .i64 x.C.n, .int .i64 x.E.n, .int .i64 x.T.n] 3))) := Lib.hid (HQ0.out.after (below_of_alloc _))
  have HS9 : Hid (Blk (((w.alloc (.cells #[.string x.name, .int .i64 x.ver, .slice x.U.A x.U.n x.U.c, .slice x.C.A x.C.n x.C.c, .slice x.N.A x.N.n x.N.c, .slice x.Q.A x.Q.n x.Q.c, .slice x.E.A x.E.n x.E.c, .slice x.T.A x.T.n x.T.c] 29)).alloc (.cells #[.string ⟨#[]⟩, .int .i64 0, .slice none 0 0, .slice none 0 0, .slice none 0 0, .slice none 0 0, .slice none 0 0, .slice none 0 0] 29)).alloc (.cells #[.int .i64 x.U.n, .int .i64 x.C.n, .int .i64 x.N.n, .int .i64 x.Q.n, .int .i64 x.E.n, .int .i64 x.T.n, .int .i64 x.C.n, .int .i64 x.E.n, .int .i64 x.T.n] 3)) (w.heap.size + 1 + 1) 3 #[.int .i64 x.U.n, .int .i64 x.C.n, .int .i64 x.N.n, .int .i64 x.Q.n, .int .i64 x.E.n, .int .i64 x.T.n, .int .i64 x.C.n, .int .i64 x.E.n, .int .i64 x.T.n]) := Lib.hid (Blk.new' (by simp))
  generalize hwc : (((w.alloc (.cells #[.string x.name, .int .i64 x.ver, .slice x.U.A x.U.n x.U.c, .slice x.C.A x.C.n x.C.c, .slice x.N.A x.N.n x.N.c, .slice x.Q.A x.Q.n x.Q.c, .slice x.E.A x.E.n x.E.c, .slice x.T.A x.T.n x.T.c] 29)).alloc (.cells #[.string ⟨#[]⟩, .int .i64 0, .slice none 0 0, .slice none 0 0, .slice none 0 0, .slice none 0 0, .slice none 0 0, .slice none 0 0] 29)).alloc (.cells #[.int .i64 x.U.n, .int .i64 x.C.n, .int .i64 x.N.n, .int .i64 x.Q.n, .int .i64 x.E.n, .int .i64 x.T.n, .int .i64 x.C.n, .int .i64 x.E.n, .int .i64 x.T.n] 3)) = wc at HQ1 HS9 ⊢
  clear hwc
  go_wp2_with fail
  refine (HRw.out _).mono ?_
  rintro e w5 ⟨rfl, rfl⟩
  have hk := restV_lt which (n := 9) (by decide)
  generalize restV which 9 = k at hk ⊢
  have hk' : k = 0 ∨ k = 1 ∨ k = 2 ∨ k = 3 ∨ k = 4 ∨ k = 5 ∨ k = 6 ∨ k = 7 ∨ k = 8 := by omega
  clear hk
  rcases hk' with rfl | rfl | rfl | rfl | rfl | rfl | rfl | rfl | rfl
  · have n9 := (HS9.out.cell 0).trans (show _ = some (.int .i64 x.U.n) from rfl)
    by_cases hn : x.U.n = 0
    · have d0 : ((x.U.n : Int) == 0) = true := by rw [hn]; rfl
      clear hn
      have a0 := (HQ1.out.a.cell 0).trans (show _ = some (.string x.name) from rfl)
      have a1 := (HQ1.out.a.cell 1).trans (show _ = some (.int .i64 x.ver) from rfl)
      have a2 := (HQ1.out.a.cell 2).trans (show _ = some (.slice x.U.A x.U.n x.U.c) from rfl)
      have a3 := (HQ1.out.a.cell 3).trans (show _ = some (.slice x.C.A x.C.n x.C.c) from rfl)
      have a4 := (HQ1.out.a.cell 4).trans (show _ = some (.slice x.N.A x.N.n x.N.c) from rfl)
      have a5 := (HQ1.out.a.cell 5).trans (show _ = some (.slice x.Q.A x.Q.n x.Q.c) from rfl)
      have a6 := (HQ1.out.a.cell 6).trans (show _ = some (.slice x.E.A x.E.n x.E.c) from rfl)
      have a7 := (HQ1.out.a.cell 7).trans (show _ = some (.slice x.T.A x.T.n x.T.c) from rfl)
      have HSB := Lib.hid HQ1.out.b
      go_wp2_with ((with_reducible show wpList _ _ _ (Oper.mk _ (Op.store 29 _ _) _ _ _ _ :: _) _ _); go_must (refine wpList_store_row rfl _ _ _ rfl (w.heap.size + 1) _ rfl rfl 29 _ HSB.out infoLangS rfl lang_oneA ?_))
      have hres : Tryz.f8.results = #[.cell 8 29, .tmp 9] := by kernel_rfl
      (try rw [Exit.noGoto_ret])
      (try simp only [Exit.inBlock, Exit.then])
      refine bodyPost_ret (results_rowL hres _ _ (w.heap.size + 1) _ rfl (load_langS (setRow_heap _ _ _ _ _ _ HSB.out))) rfl ?_
      exact less_none HX.out hh HFX.out (below_setRow HQ1.out.bel (by omega) _)
    · have d0 : ((x.U.n : Int) == 0) = false := by rw [beq_eq_false_iff_ne]; omega
      have hpos : 0 < x.U.n := by omega
      have hle : x.U.n ≤ 1200 := by have h1 := HFG.out.n; have h2 : x.U.n = x.us.length := HX.out.un; omega
      clear hn
      go_wp2_with fail
      refine (HRk.out _ _ hpos (by omega)).mono ?_
      rintro e w6 ⟨rfl, rfl⟩
      have hi9 := restV_lt at_ hpos
      generalize restV at_ x.U.n = i at hi9 ⊢
      have a0 := (HQ1.out.a.cell 0).trans (show _ = some (.string x.name) from rfl)
      have a1 := (HQ1.out.a.cell 1).trans (show _ = some (.int .i64 x.ver) from rfl)
      have a2 := (HQ1.out.a.cell 2).trans (show _ = some (.slice x.U.A x.U.n x.U.c) from rfl)
      have a3 := (HQ1.out.a.cell 3).trans (show _ = some (.slice x.C.A x.C.n x.C.c) from rfl)
      have a4 := (HQ1.out.a.cell 4).trans (show _ = some (.slice x.N.A x.N.n x.N.c) from rfl)
      have a5 := (HQ1.out.a.cell 5).trans (show _ = some (.slice x.Q.A x.Q.n x.Q.c) from rfl)
      have a6 := (HQ1.out.a.cell 6).trans (show _ = some (.slice x.E.A x.E.n x.E.c) from rfl)
      have a7 := (HQ1.out.a.cell 7).trans (show _ = some (.slice x.T.A x.T.n x.T.c) from rfl)
      go_wp2_with fail
      clear a0 a1 a2 a3 a4 a5 a6 a7 d0 n9
      refine (HTw.out _ HQ1.out.bel).mono ?_
      rintro e w8 ⟨y, rfl, hy, hE, hb8, hO⟩
      go_upto_region 13 with (fail)
      have HYN : Hid (y.U.n = x.U.n) := Lib.hid (twin_nstr hE hy HX.out)
      have HE := Lib.hid hE
      have HS : Hid (LSt w x #[.string ⟨#[]⟩, .int .i64 0, .slice none 0 0, .slice none 0 0, .slice none 0 0, .slice none 0 0, .slice none 0 0, .slice none 0 0] y w8.heap.size (w8.alloc (.cells #[.string y.name, .int .i64 y.ver, .slice y.U.A y.U.n y.U.c, .slice y.C.A y.C.n y.C.c, .slice y.N.A y.N.n y.N.c, .slice y.Q.A y.Q.n y.Q.c, .slice y.E.A y.E.n y.E.c, .slice y.T.A y.T.n y.T.c] 29)).drew) := Lib.hid (LSt.after (Y := (w8.alloc (.cells #[.string y.name, .int .i64 y.ver, .slice y.U.A y.U.n y.U.c, .slice y.C.A y.C.n y.C.c, .slice y.N.A y.N.n y.N.c, .slice y.Q.A y.Q.n y.Q.c, .slice y.E.A y.E.n y.E.c, .slice y.T.A y.T.n y.T.c] 29))) ⟨(HQ1.out.after hb8).after (below_of_alloc _), Blk.new _ _ _, (TwinOwn.lower hO (w := w) (HQ1.out.bel.size)).after (below_of_alloc _), langK.mono (langK.below hy (below_of_alloc _)) (Nat.le_refl _) (below_of_alloc _).size⟩ (drew1_below _))
      have HGX : Hid (w.heap.size + 1 < w8.heap.size) := Lib.hid ((HQ1.out.after hb8).size)
      have hin : i < y.U.n := by rw [HYN.out]; exact hi9
      have HOw : Hid ((w8.alloc (.cells #[.string y.name, .int .i64 y.ver, .slice y.U.A y.U.n y.U.c, .slice y.C.A y.C.n y.C.c, .slice y.N.A y.N.n y.N.c, .slice y.Q.A y.Q.n y.Q.c, .slice y.E.A y.E.n y.E.c, .slice y.T.A y.T.n y.T.c] 29)).drew.ownsRow (w.heap.size + 2) 9 1 (.slice y.U.A y.U.n y.U.c) y.U.n (strCells y.us)) := Lib.hid HS.out.o.u
      obtain ⟨gu, hA⟩ := own_some HOw.out (Nat.lt_of_le_of_lt (Nat.zero_le _) hin)
      replace HOw := Lib.hid (own_addr HOw.out hA)
      have hnc := (own_row HOw.out).2.1
      have hcm := (own_row HOw.out).2.2.1
      unfold maxLen at hcm
      have hyl : y.U.n ≤ 1200 := by rw [HYN.out]; exact hle
      clear hy hE hb8 hO
      have HSo : Hid (∀ Y, Blk Y w8.heap.size 29 #[.string y.name, .int .i64 y.ver, .slice y.U.A y.U.n y.U.c, .slice y.C.A y.C.n y.C.c, .slice y.N.A y.N.n y.N.c, .slice y.Q.A y.Q.n y.Q.c, .slice y.E.A y.E.n y.E.c, .slice y.T.A y.T.n y.T.c] → (Y.cell? ⟨w8.heap.size, 2, none⟩ = some (.slice (some ⟨gu, 0, none⟩) y.U.n y.U.c))) := Lib.hid fun Y h2 => (h2.cell 2).trans (by rw [← hA]; rfl)
      have hw1 : IntKind.i64.wrap ((i : Int) + 1) = (i : Int) + 1 := IntWalk.i64_in _ (by omega)
      have hic : i ≤ y.U.c := by omega
      have hb1 : (0 : Int) ≤ (i : Int) + 1 ∧ (i : Int) + 1 ≤ (y.U.n : Int) := by omega
      obtain ⟨p, hp1, hp2⟩ := behind_at gu y.U.n y.U.c i 1 hnc hin
      rw [Nat.mul_one] at hp1
      have HP2 := Lib.hid hp2
      have HA := Lib.hid hA
      have HYL : Hid (y.U.n = y.us.length) := Lib.hid HS.out.l.un
      obtain ⟨i1, hi1, hz1, hs1, hbb1⟩ := info_parts info_str
      clear hp2 hA
      refine wp_region_held_tail 9 (fun Y => Y.cell? ⟨w8.heap.size, 2, none⟩ = some (.slice (some ⟨gu, 0, none⟩) y.U.n y.U.c)) (by kernel_rfl) (by kernel_rfl) ?hSv (fun hHeld => ?qv0)
      case hSv => exact HSo.out _ HS.out.bx
      case qv0 =>
        simp only [List.take_succ_cons, List.take_zero, List.drop_succ_cons, List.drop_zero]
        refine wpAnyH_take (i := 0) (v := (.pointer (some ⟨w8.heap.size, 2, none⟩))) rfl (by kernel_rfl) (by kernel_rfl) (by kernel_rfl) (fun _ _ _ h => h) (Or.inl ⟨by rfl, ?yv_1⟩) (by assumption) ?qv_1
        case yv_1 => (intro w hSw; (try dsimp only at hSw); go_simp)
        case qv_1 =>
          (try simp only [Act.put]); (try simp only [List.setIfInBounds_toArray])
          refine wpAnyH_take (i := 1) (v := (.slice (some ⟨gu, 0, none⟩) y.U.n y.U.c)) rfl (by kernel_rfl) (by kernel_rfl) (by kernel_rfl) (fun _ _ _ h => h) (Or.inl ⟨by rfl, ?yv_2⟩) (by assumption) ?qv_2
          case yv_2 => (intro w hSw; (try dsimp only at hSw); go_simp)
          case qv_2 =>
            (try simp only [Act.put]); (try simp only [List.setIfInBounds_toArray])
            refine wpAnyH_take (i := 2) (v := (.int .i64 i)) rfl (by kernel_rfl) (by kernel_rfl) (by kernel_rfl) (fun _ _ _ h => h) (Or.inl ⟨by rfl, ?yv_3⟩) (by assumption) ?qv_3
            case yv_3 => (intro w hSw; (try dsimp only at hSw); go_simp)
            case qv_3 =>
              (try simp only [Act.put]); (try simp only [List.setIfInBounds_toArray])
              refine wpAnyH_take (i := 3) (v := (.slice (some ⟨gu, 0, none⟩) i y.U.c)) rfl (by kernel_rfl) (by kernel_rfl) (by kernel_rfl) (fun _ _ _ h => h) (Or.inl ⟨by rfl, ?yv_4⟩) (by assumption) ?qv_4
              case yv_4 => (intro w hSw; (try dsimp only at hSw); go_simp)
              case qv_4 =>
                (try simp only [Act.put]); (try simp only [List.setIfInBounds_toArray])
                refine wpAnyH_take (i := 4) (v := (.pointer (some ⟨w8.heap.size, 2, none⟩))) rfl (by kernel_rfl) (by kernel_rfl) (by kernel_rfl) (fun _ _ _ h => h) (Or.inl ⟨by rfl, ?yv_5⟩) (by assumption) ?qv_5
                case yv_5 => (intro w hSw; (try dsimp only at hSw); go_simp)
                case qv_5 =>
                  (try simp only [Act.put]); (try simp only [List.setIfInBounds_toArray])
                  refine wpAnyH_take (i := 5) (v := (.slice (some ⟨gu, 0, none⟩) y.U.n y.U.c)) rfl (by kernel_rfl) (by kernel_rfl) (by kernel_rfl) (fun _ _ _ h => h) (Or.inl ⟨by rfl, ?yv_6⟩) (by assumption) ?qv_6
                  case yv_6 => (intro w hSw; (try dsimp only at hSw); go_simp)
                  case qv_6 =>
                    (try simp only [Act.put]); (try simp only [List.setIfInBounds_toArray])
                    refine wpAnyH_take (i := 6) (v := (.int .i64 i)) rfl (by kernel_rfl) (by kernel_rfl) (by kernel_rfl) (fun _ _ _ h => h) (Or.inl ⟨by rfl, ?yv_7⟩) (by assumption) ?qv_7
                    case yv_7 => (intro w hSw; (try dsimp only at hSw); go_simp)
                    case qv_7 =>
                      (try simp only [Act.put]); (try simp only [List.setIfInBounds_toArray])
                      refine wpAnyH_take (i := 7) (v := (.int .i64 ((i : Int) + 1))) rfl (by kernel_rfl) (by kernel_rfl) (by kernel_rfl) (fun _ _ _ h => h) (Or.inl ⟨by rfl, ?yv_8⟩) (by assumption) ?qv_8
                      case yv_8 => (intro w hSw; (try dsimp only at hSw); go_simp)
                      case qv_8 =>
                        (try simp only [Act.put]); (try simp only [List.setIfInBounds_toArray])
                        refine wpAnyH_take (i := 8) (v := (.slice (some ⟨gu, p, none⟩) (y.U.n - (i + 1)) (y.U.c - (i + 1)))) rfl (by kernel_rfl) (by kernel_rfl) (by kernel_rfl) (fun _ _ _ h => h) (Or.inl ⟨by rfl, ?yv_9⟩) (by assumption) ?qv_9
                        case yv_9 => (intro w hSw; (try dsimp only at hSw); go_simp)
                        case qv_9 =>
                          (try simp only [Act.put]); (try simp only [List.setIfInBounds_toArray])
                          refine wpAnyH_done (by kernel_rfl) ?_ _
                          clear hHeld hp1
                          show wpList _ _ _ _ _ _
                          go_wp2_with (first | (at_builtin; with_reducible show wpList _ _ _ (⟨some 100, _, _, _, _, _⟩ :: _) _ _; go_must (refine app_cut (C := fun u => [Value.string u]) (s := 1) (fun _ => rfl) (one_of one_strC) (o := ⟨some 100, _, _, _, _, _⟩) rfl (.tmp 94) (.tmp 99) _ rfl (w.heap.size + 2) 9 i1 _ 16 Tryz.underlying22 hi1 hz1 hs1 hbb1 rfl (by decide) (by decide) (by have := HOw.out; rw [← str_flat] at this; exact this) (by omega) i p hin HP2.out (by go_simp) (by go_simp) (by have := HS.out.q.size; omega) ?_); go_must (intro A' c' Yn hownN hgrN; rw [str_flat] at hownN; have HG : Hid (World.grownBy _ Yn (Value.ownBlock (.slice y.U.A y.U.n y.U.c))) := Lib.hid (by rw [HA.out]; exact hgrN); have HEN := Lib.hid (erase_str HS.out HGX.out i (by rw [List.length_eraseIdx_of_lt (by have := HYL.out; omega)]; have := HYL.out; omega) hownN HG.out); have HMn := HS.out.bx.grown hgrN (Ne.symm (own_blk_ne HOw.out HS.out.bx (by decide))); have s1 := (HMn.cell 2).trans (show _ = some (.slice y.U.A y.U.n y.U.c) from rfl); have s2 := HMn.frozen 2; have HSB := Lib.hid HEN.out.q.b; have e0 := (HEN.out.bx.cell 0).trans (show _ = some (.string y.name) from rfl); have e1 := (HEN.out.bx.cell 1).trans (show _ = some (.int .i64 y.ver) from rfl); have e2 := (HEN.out.bx.cell 2).trans (show _ = some (.slice A' (y.U.n - 1) c') from rfl); have e3 := (HEN.out.bx.cell 3).trans (show _ = some (.slice y.C.A y.C.n y.C.c) from rfl); have e4 := (HEN.out.bx.cell 4).trans (show _ = some (.slice y.N.A y.N.n y.N.c) from rfl); have e5 := (HEN.out.bx.cell 5).trans (show _ = some (.slice y.Q.A y.Q.n y.Q.c) from rfl); have e6 := (HEN.out.bx.cell 6).trans (show _ = some (.slice y.E.A y.E.n y.E.c) from rfl); have e7 := (HEN.out.bx.cell 7).trans (show _ = some (.slice y.T.A y.T.n y.T.c) from rfl); clear hownN hgrN HMn)) | ((with_reducible show wpList _ _ _ (Oper.mk _ (Op.store 29 _ _) _ _ _ _ :: _) _ _); go_must (refine wpList_store_row rfl _ _ _ rfl (w.heap.size + 1) _ rfl rfl 29 _ HSB.out infoLangS rfl lang_oneA ?_)))
                          have hres : Tryz.f8.results = #[.cell 8 29, .tmp 9] := by kernel_rfl
                          (try rw [Exit.noGoto_ret])
                          (try simp only [Exit.inBlock, Exit.then])
                          refine bodyPost_ret (results_rowL hres _ _ (w.heap.size + 1) _ rfl (load_langS (setRow_heap _ _ _ _ _ _ HSB.out))) rfl ?_
                          exact less_some (y := ({ y with U := ⟨A', y.U.n - 1, c'⟩, us := y.us.eraseIdx i } : LangM)) HEN.out (less_str HX.out HS.out.l HFX.out HE.out)
  · have n9 := (HS9.out.cell 1).trans (show _ = some (.int .i64 x.C.n) from rfl)
    by_cases hn : x.C.n = 0
    · have d0 : ((x.C.n : Int) == 0) = true := by rw [hn]; rfl
      clear hn
      have a0 := (HQ1.out.a.cell 0).trans (show _ = some (.string x.name) from rfl)
      have a1 := (HQ1.out.a.cell 1).trans (show _ = some (.int .i64 x.ver) from rfl)
      have a2 := (HQ1.out.a.cell 2).trans (show _ = some (.slice x.U.A x.U.n x.U.c) from rfl)
      have a3 := (HQ1.out.a.cell 3).trans (show _ = some (.slice x.C.A x.C.n x.C.c) from rfl)
      have a4 := (HQ1.out.a.cell 4).trans (show _ = some (.slice x.N.A x.N.n x.N.c) from rfl)
      have a5 := (HQ1.out.a.cell 5).trans (show _ = some (.slice x.Q.A x.Q.n x.Q.c) from rfl)
      have a6 := (HQ1.out.a.cell 6).trans (show _ = some (.slice x.E.A x.E.n x.E.c) from rfl)
      have a7 := (HQ1.out.a.cell 7).trans (show _ = some (.slice x.T.A x.T.n x.T.c) from rfl)
      have HSB := Lib.hid HQ1.out.b
      go_wp2_with ((with_reducible show wpList _ _ _ (Oper.mk _ (Op.store 29 _ _) _ _ _ _ :: _) _ _); go_must (refine wpList_store_row rfl _ _ _ rfl (w.heap.size + 1) _ rfl rfl 29 _ HSB.out infoLangS rfl lang_oneA ?_))
      have hres : Tryz.f8.results = #[.cell 8 29, .tmp 9] := by kernel_rfl
      (try rw [Exit.noGoto_ret])
      (try simp only [Exit.inBlock, Exit.then])
      refine bodyPost_ret (results_rowL hres _ _ (w.heap.size + 1) _ rfl (load_langS (setRow_heap _ _ _ _ _ _ HSB.out))) rfl ?_
      exact less_none HX.out hh HFX.out (below_setRow HQ1.out.bel (by omega) _)
    · have d0 : ((x.C.n : Int) == 0) = false := by rw [beq_eq_false_iff_ne]; omega
      have hpos : 0 < x.C.n := by omega
      have hle : x.C.n ≤ 1200 := by have h1 := HFG.out.n; have h2 : x.C.n = x.cs.length := HX.out.c.n; omega
      clear hn
      go_wp2_with fail
      refine (HRk.out _ _ hpos (by omega)).mono ?_
      rintro e w6 ⟨rfl, rfl⟩
      have hi9 := restV_lt at_ hpos
      generalize restV at_ x.C.n = i at hi9 ⊢
      have a0 := (HQ1.out.a.cell 0).trans (show _ = some (.string x.name) from rfl)
      have a1 := (HQ1.out.a.cell 1).trans (show _ = some (.int .i64 x.ver) from rfl)
      have a2 := (HQ1.out.a.cell 2).trans (show _ = some (.slice x.U.A x.U.n x.U.c) from rfl)
      have a3 := (HQ1.out.a.cell 3).trans (show _ = some (.slice x.C.A x.C.n x.C.c) from rfl)
      have a4 := (HQ1.out.a.cell 4).trans (show _ = some (.slice x.N.A x.N.n x.N.c) from rfl)
      have a5 := (HQ1.out.a.cell 5).trans (show _ = some (.slice x.Q.A x.Q.n x.Q.c) from rfl)
      have a6 := (HQ1.out.a.cell 6).trans (show _ = some (.slice x.E.A x.E.n x.E.c) from rfl)
      have a7 := (HQ1.out.a.cell 7).trans (show _ = some (.slice x.T.A x.T.n x.T.c) from rfl)
      go_wp2_with fail
      clear a0 a1 a2 a3 a4 a5 a6 a7 d0 n9
      refine (HTw.out _ HQ1.out.bel).mono ?_
      rintro e w8 ⟨y, rfl, hy, hE, hb8, hO⟩
      go_upto_region 15 with (fail)
      have HYN : Hid (y.C.n = x.C.n) := Lib.hid (twin_ncon hE hy HX.out)
      have HE := Lib.hid hE
      have HS : Hid (LSt w x #[.string ⟨#[]⟩, .int .i64 0, .slice none 0 0, .slice none 0 0, .slice none 0 0, .slice none 0 0, .slice none 0 0, .slice none 0 0] y w8.heap.size (w8.alloc (.cells #[.string y.name, .int .i64 y.ver, .slice y.U.A y.U.n y.U.c, .slice y.C.A y.C.n y.C.c, .slice y.N.A y.N.n y.N.c, .slice y.Q.A y.Q.n y.Q.c, .slice y.E.A y.E.n y.E.c, .slice y.T.A y.T.n y.T.c] 29)).drew) := Lib.hid (LSt.after (Y := (w8.alloc (.cells #[.string y.name, .int .i64 y.ver, .slice y.U.A y.U.n y.U.c, .slice y.C.A y.C.n y.C.c, .slice y.N.A y.N.n y.N.c, .slice y.Q.A y.Q.n y.Q.c, .slice y.E.A y.E.n y.E.c, .slice y.T.A y.T.n y.T.c] 29))) ⟨(HQ1.out.after hb8).after (below_of_alloc _), Blk.new _ _ _, (TwinOwn.lower hO (w := w) (HQ1.out.bel.size)).after (below_of_alloc _), langK.mono (langK.below hy (below_of_alloc _)) (Nat.le_refl _) (below_of_alloc _).size⟩ (drew1_below _))
      have HGX : Hid (w.heap.size + 1 < w8.heap.size) := Lib.hid ((HQ1.out.after hb8).size)
      have hin : i < y.C.n := by rw [HYN.out]; exact hi9
      have HOw : Hid ((w8.alloc (.cells #[.string y.name, .int .i64 y.ver, .slice y.U.A y.U.n y.U.c, .slice y.C.A y.C.n y.C.c, .slice y.N.A y.N.n y.N.c, .slice y.Q.A y.Q.n y.Q.c, .slice y.E.A y.E.n y.E.c, .slice y.T.A y.T.n y.T.c] 29)).drew.ownsRow (w.heap.size + 2) 47 6 (.slice y.C.A y.C.n y.C.c) y.C.n (y.cs.flatMap conC)) := Lib.hid (own_len HS.out.o.c.own HS.out.l.c.n)
      obtain ⟨gu, hA⟩ := own_some HOw.out (Nat.lt_of_le_of_lt (Nat.zero_le _) hin)
      replace HOw := Lib.hid (own_addr HOw.out hA)
      have hnc := (own_row HOw.out).2.1
      have hcm := (own_row HOw.out).2.2.1
      unfold maxLen at hcm
      have hyl : y.C.n ≤ 1200 := by rw [HYN.out]; exact hle
      clear hy hE hb8 hO
      have HSo : Hid (∀ Y, Blk Y w8.heap.size 29 #[.string y.name, .int .i64 y.ver, .slice y.U.A y.U.n y.U.c, .slice y.C.A y.C.n y.C.c, .slice y.N.A y.N.n y.N.c, .slice y.Q.A y.Q.n y.Q.c, .slice y.E.A y.E.n y.E.c, .slice y.T.A y.T.n y.T.c] → (Y.cell? ⟨w8.heap.size, 3, none⟩ = some (.slice (some ⟨gu, 0, none⟩) y.C.n y.C.c))) := Lib.hid fun Y h2 => (h2.cell 3).trans (by rw [← hA]; rfl)
      have hw1 : IntKind.i64.wrap ((i : Int) + 1) = (i : Int) + 1 := IntWalk.i64_in _ (by omega)
      have hic : i ≤ y.C.c := by omega
      have hb1 : (0 : Int) ≤ (i : Int) + 1 ∧ (i : Int) + 1 ≤ (y.C.n : Int) := by omega
      obtain ⟨p, hp1, hp2⟩ := behind_at gu y.C.n y.C.c i 6 hnc hin
      have HP2 := Lib.hid hp2
      have HA := Lib.hid hA
      have HYL : Hid (y.C.n = y.cs.length) := Lib.hid HS.out.l.c.n
      obtain ⟨i1, hi1, hz1, hs1, hbb1⟩ := info_parts info_con
      clear hp2 hA
      refine wp_region_held_tail 9 (fun Y => Y.cell? ⟨w8.heap.size, 3, none⟩ = some (.slice (some ⟨gu, 0, none⟩) y.C.n y.C.c)) (by kernel_rfl) (by kernel_rfl) ?hSv (fun hHeld => ?qv0)
      case hSv => exact HSo.out _ HS.out.bx
      case qv0 =>
        simp only [List.take_succ_cons, List.take_zero, List.drop_succ_cons, List.drop_zero]
        refine wpAnyH_take (i := 0) (v := (.pointer (some ⟨w8.heap.size, 3, none⟩))) rfl (by kernel_rfl) (by kernel_rfl) (by kernel_rfl) (fun _ _ _ h => h) (Or.inl ⟨by rfl, ?yv_1⟩) (by assumption) ?qv_1
        case yv_1 => (intro w hSw; (try dsimp only at hSw); go_simp)
        case qv_1 =>
          (try simp only [Act.put]); (try simp only [List.setIfInBounds_toArray])
          refine wpAnyH_take (i := 1) (v := (.slice (some ⟨gu, 0, none⟩) y.C.n y.C.c)) rfl (by kernel_rfl) (by kernel_rfl) (by kernel_rfl) (fun _ _ _ h => h) (Or.inl ⟨by rfl, ?yv_2⟩) (by assumption) ?qv_2
          case yv_2 => (intro w hSw; (try dsimp only at hSw); go_simp)
          case qv_2 =>
            (try simp only [Act.put]); (try simp only [List.setIfInBounds_toArray])
            refine wpAnyH_take (i := 2) (v := (.int .i64 i)) rfl (by kernel_rfl) (by kernel_rfl) (by kernel_rfl) (fun _ _ _ h => h) (Or.inl ⟨by rfl, ?yv_3⟩) (by assumption) ?qv_3
            case yv_3 => (intro w hSw; (try dsimp only at hSw); go_simp)
            case qv_3 =>
              (try simp only [Act.put]); (try simp only [List.setIfInBounds_toArray])
              refine wpAnyH_take (i := 3) (v := (.slice (some ⟨gu, 0, none⟩) i y.C.c)) rfl (by kernel_rfl) (by kernel_rfl) (by kernel_rfl) (fun _ _ _ h => h) (Or.inl ⟨by rfl, ?yv_4⟩) (by assumption) ?qv_4
              case yv_4 => (intro w hSw; (try dsimp only at hSw); go_simp)
              case qv_4 =>
                (try simp only [Act.put]); (try simp only [List.setIfInBounds_toArray])
                refine wpAnyH_take (i := 4) (v := (.pointer (some ⟨w8.heap.size, 3, none⟩))) rfl (by kernel_rfl) (by kernel_rfl) (by kernel_rfl) (fun _ _ _ h => h) (Or.inl ⟨by rfl, ?yv_5⟩) (by assumption) ?qv_5
                case yv_5 => (intro w hSw; (try dsimp only at hSw); go_simp)
                case qv_5 =>
                  (try simp only [Act.put]); (try simp only [List.setIfInBounds_toArray])
                  refine wpAnyH_take (i := 5) (v := (.slice (some ⟨gu, 0, none⟩) y.C.n y.C.c)) rfl (by kernel_rfl) (by kernel_rfl) (by kernel_rfl) (fun _ _ _ h => h) (Or.inl ⟨by rfl, ?yv_6⟩) (by assumption) ?qv_6
                  case yv_6 => (intro w hSw; (try dsimp only at hSw); go_simp)
                  case qv_6 =>
                    (try simp only [Act.put]); (try simp only [List.setIfInBounds_toArray])
                    refine wpAnyH_take (i := 6) (v := (.int .i64 i)) rfl (by kernel_rfl) (by kernel_rfl) (by kernel_rfl) (fun _ _ _ h => h) (Or.inl ⟨by rfl, ?yv_7⟩) (by assumption) ?qv_7
                    case yv_7 => (intro w hSw; (try dsimp only at hSw); go_simp)
                    case qv_7 =>
                      (try simp only [Act.put]); (try simp only [List.setIfInBounds_toArray])
                      refine wpAnyH_take (i := 7) (v := (.int .i64 ((i : Int) + 1))) rfl (by kernel_rfl) (by kernel_rfl) (by kernel_rfl) (fun _ _ _ h => h) (Or.inl ⟨by rfl, ?yv_8⟩) (by assumption) ?qv_8
                      case yv_8 => (intro w hSw; (try dsimp only at hSw); go_simp)
                      case qv_8 =>
                        (try simp only [Act.put]); (try simp only [List.setIfInBounds_toArray])
                        refine wpAnyH_take (i := 8) (v := (.slice (some ⟨gu, p, none⟩) (y.C.n - (i + 1)) (y.C.c - (i + 1)))) rfl (by kernel_rfl) (by kernel_rfl) (by kernel_rfl) (fun _ _ _ h => h) (Or.inl ⟨by rfl, ?yv_9⟩) (by assumption) ?qv_9
                        case yv_9 => (intro w hSw; (try dsimp only at hSw); go_simp)
                        case qv_9 =>
                          (try simp only [Act.put]); (try simp only [List.setIfInBounds_toArray])
                          refine wpAnyH_done (by kernel_rfl) ?_ _
                          clear hHeld hp1
                          show wpList _ _ _ _ _ _
                          go_wp2_with (first | (at_builtin; with_reducible show wpList _ _ _ (⟨some 113, _, _, _, _, _⟩ :: _) _ _; go_must (refine app_cut (C := conC) (s := 6) (fun _ => rfl) (one_of one_conC) (o := ⟨some 113, _, _, _, _, _⟩) rfl (.tmp 107) (.tmp 112) _ rfl (w.heap.size + 2) 47 i1 _ 112 Tryz.underlying23 hi1 hz1 hs1 hbb1 rfl (by decide) (by decide) HOw.out (by omega) i p hin HP2.out (by go_simp) (by go_simp) (by have := HS.out.q.size; omega) ?_); go_must (intro A' c' Yn hownN hgrN; have HG : Hid (World.grownBy _ Yn (Value.ownBlock (.slice y.C.A y.C.n y.C.c))) := Lib.hid (by rw [HA.out]; exact hgrN); have HEN := Lib.hid (erase_con HS.out HGX.out i (by rw [List.length_eraseIdx_of_lt (by have := HYL.out; omega)]; have := HYL.out; omega) hownN HG.out); have HMn := HS.out.bx.grown hgrN (Ne.symm (own_blk_ne HOw.out HS.out.bx (by decide))); have s1 := (HMn.cell 3).trans (show _ = some (.slice y.C.A y.C.n y.C.c) from rfl); have s2 := HMn.frozen 3; have HSB := Lib.hid HEN.out.q.b; have e0 := (HEN.out.bx.cell 0).trans (show _ = some (.string y.name) from rfl); have e1 := (HEN.out.bx.cell 1).trans (show _ = some (.int .i64 y.ver) from rfl); have e2 := (HEN.out.bx.cell 2).trans (show _ = some (.slice y.U.A y.U.n y.U.c) from rfl); have e3 := (HEN.out.bx.cell 3).trans (show _ = some (.slice A' (y.C.n - 1) c') from rfl); have e4 := (HEN.out.bx.cell 4).trans (show _ = some (.slice y.N.A y.N.n y.N.c) from rfl); have e5 := (HEN.out.bx.cell 5).trans (show _ = some (.slice y.Q.A y.Q.n y.Q.c) from rfl); have e6 := (HEN.out.bx.cell 6).trans (show _ = some (.slice y.E.A y.E.n y.E.c) from rfl); have e7 := (HEN.out.bx.cell 7).trans (show _ = some (.slice y.T.A y.T.n y.T.c) from rfl); clear hownN hgrN HMn)) | ((with_reducible show wpList _ _ _ (Oper.mk _ (Op.store 29 _ _) _ _ _ _ :: _) _ _); go_must (refine wpList_store_row rfl _ _ _ rfl (w.heap.size + 1) _ rfl rfl 29 _ HSB.out infoLangS rfl lang_oneA ?_)))
                          have hres : Tryz.f8.results = #[.cell 8 29, .tmp 9] := by kernel_rfl
                          (try rw [Exit.noGoto_ret])
                          (try simp only [Exit.inBlock, Exit.then])
                          refine bodyPost_ret (results_rowL hres _ _ (w.heap.size + 1) _ rfl (load_langS (setRow_heap _ _ _ _ _ _ HSB.out))) rfl ?_
                          exact less_some (y := ({ y with C := ⟨A', y.C.n - 1, c'⟩, cs := y.cs.eraseIdx i } : LangM)) HEN.out (less_con HX.out HS.out.l HFX.out HE.out (by show y.C.n - 1 = _; rw [List.length_eraseIdx_of_lt (by have := HYL.out; omega)]; have := HYL.out; omega))
  · have n9 := (HS9.out.cell 2).trans (show _ = some (.int .i64 x.N.n) from rfl)
    by_cases hn : x.N.n = 0
    · have d0 : ((x.N.n : Int) == 0) = true := by rw [hn]; rfl
      clear hn
      have a0 := (HQ1.out.a.cell 0).trans (show _ = some (.string x.name) from rfl)
      have a1 := (HQ1.out.a.cell 1).trans (show _ = some (.int .i64 x.ver) from rfl)
      have a2 := (HQ1.out.a.cell 2).trans (show _ = some (.slice x.U.A x.U.n x.U.c) from rfl)
      have a3 := (HQ1.out.a.cell 3).trans (show _ = some (.slice x.C.A x.C.n x.C.c) from rfl)
      have a4 := (HQ1.out.a.cell 4).trans (show _ = some (.slice x.N.A x.N.n x.N.c) from rfl)
      have a5 := (HQ1.out.a.cell 5).trans (show _ = some (.slice x.Q.A x.Q.n x.Q.c) from rfl)
      have a6 := (HQ1.out.a.cell 6).trans (show _ = some (.slice x.E.A x.E.n x.E.c) from rfl)
      have a7 := (HQ1.out.a.cell 7).trans (show _ = some (.slice x.T.A x.T.n x.T.c) from rfl)
      have HSB := Lib.hid HQ1.out.b
      go_wp2_with ((with_reducible show wpList _ _ _ (Oper.mk _ (Op.store 29 _ _) _ _ _ _ :: _) _ _); go_must (refine wpList_store_row rfl _ _ _ rfl (w.heap.size + 1) _ rfl rfl 29 _ HSB.out infoLangS rfl lang_oneA ?_))
      have hres : Tryz.f8.results = #[.cell 8 29, .tmp 9] := by kernel_rfl
      (try rw [Exit.noGoto_ret])
      (try simp only [Exit.inBlock, Exit.then])
      refine bodyPost_ret (results_rowL hres _ _ (w.heap.size + 1) _ rfl (load_langS (setRow_heap _ _ _ _ _ _ HSB.out))) rfl ?_
      exact less_none HX.out hh HFX.out (below_setRow HQ1.out.bel (by omega) _)
    · have d0 : ((x.N.n : Int) == 0) = false := by rw [beq_eq_false_iff_ne]; omega
      have hpos : 0 < x.N.n := by omega
      have hle : x.N.n ≤ 1200 := by have h1 := HFG.out.n; have h2 : x.N.n = x.ru.length := HX.out.nn; omega
      clear hn
      go_wp2_with fail
      refine (HRk.out _ _ hpos (by omega)).mono ?_
      rintro e w6 ⟨rfl, rfl⟩
      have hi9 := restV_lt at_ hpos
      generalize restV at_ x.N.n = i at hi9 ⊢
      have a0 := (HQ1.out.a.cell 0).trans (show _ = some (.string x.name) from rfl)
      have a1 := (HQ1.out.a.cell 1).trans (show _ = some (.int .i64 x.ver) from rfl)
      have a2 := (HQ1.out.a.cell 2).trans (show _ = some (.slice x.U.A x.U.n x.U.c) from rfl)
      have a3 := (HQ1.out.a.cell 3).trans (show _ = some (.slice x.C.A x.C.n x.C.c) from rfl)
      have a4 := (HQ1.out.a.cell 4).trans (show _ = some (.slice x.N.A x.N.n x.N.c) from rfl)
      have a5 := (HQ1.out.a.cell 5).trans (show _ = some (.slice x.Q.A x.Q.n x.Q.c) from rfl)
      have a6 := (HQ1.out.a.cell 6).trans (show _ = some (.slice x.E.A x.E.n x.E.c) from rfl)
      have a7 := (HQ1.out.a.cell 7).trans (show _ = some (.slice x.T.A x.T.n x.T.c) from rfl)
      go_wp2_with fail
      clear a0 a1 a2 a3 a4 a5 a6 a7 d0 n9
      refine (HTw.out _ HQ1.out.bel).mono ?_
      rintro e w8 ⟨y, rfl, hy, hE, hb8, hO⟩
      go_upto_region 17 with (fail)
      have HYN : Hid (y.N.n = x.N.n) := Lib.hid (twin_nru hE hy HX.out)
      have HE := Lib.hid hE
      have HS : Hid (LSt w x #[.string ⟨#[]⟩, .int .i64 0, .slice none 0 0, .slice none 0 0, .slice none 0 0, .slice none 0 0, .slice none 0 0, .slice none 0 0] y w8.heap.size (w8.alloc (.cells #[.string y.name, .int .i64 y.ver, .slice y.U.A y.U.n y.U.c, .slice y.C.A y.C.n y.C.c, .slice y.N.A y.N.n y.N.c, .slice y.Q.A y.Q.n y.Q.c, .slice y.E.A y.E.n y.E.c, .slice y.T.A y.T.n y.T.c] 29)).drew) := Lib.hid (LSt.after (Y := (w8.alloc (.cells #[.string y.name, .int .i64 y.ver, .slice y.U.A y.U.n y.U.c, .slice y.C.A y.C.n y.C.c, .slice y.N.A y.N.n y.N.c, .slice y.Q.A y.Q.n y.Q.c, .slice y.E.A y.E.n y.E.c, .slice y.T.A y.T.n y.T.c] 29))) ⟨(HQ1.out.after hb8).after (below_of_alloc _), Blk.new _ _ _, (TwinOwn.lower hO (w := w) (HQ1.out.bel.size)).after (below_of_alloc _), langK.mono (langK.below hy (below_of_alloc _)) (Nat.le_refl _) (below_of_alloc _).size⟩ (drew1_below _))
      have HGX : Hid (w.heap.size + 1 < w8.heap.size) := Lib.hid ((HQ1.out.after hb8).size)
      have hin : i < y.N.n := by rw [HYN.out]; exact hi9
      have HOw : Hid ((w8.alloc (.cells #[.string y.name, .int .i64 y.ver, .slice y.U.A y.U.n y.U.c, .slice y.C.A y.C.n y.C.c, .slice y.N.A y.N.n y.N.c, .slice y.Q.A y.Q.n y.Q.c, .slice y.E.A y.E.n y.E.c, .slice y.T.A y.T.n y.T.c] 29)).drew.ownsRow (w.heap.size + 2) 49 4 (.slice y.N.A y.N.n y.N.c) y.N.n (ruCells y.ru)) := Lib.hid HS.out.o.n
      obtain ⟨gu, hA⟩ := own_some HOw.out (Nat.lt_of_le_of_lt (Nat.zero_le _) hin)
      replace HOw := Lib.hid (own_addr HOw.out hA)
      have hnc := (own_row HOw.out).2.1
      have hcm := (own_row HOw.out).2.2.1
      unfold maxLen at hcm
      have hyl : y.N.n ≤ 1200 := by rw [HYN.out]; exact hle
      clear hy hE hb8 hO
      have HSo : Hid (∀ Y, Blk Y w8.heap.size 29 #[.string y.name, .int .i64 y.ver, .slice y.U.A y.U.n y.U.c, .slice y.C.A y.C.n y.C.c, .slice y.N.A y.N.n y.N.c, .slice y.Q.A y.Q.n y.Q.c, .slice y.E.A y.E.n y.E.c, .slice y.T.A y.T.n y.T.c] → (Y.cell? ⟨w8.heap.size, 4, none⟩ = some (.slice (some ⟨gu, 0, none⟩) y.N.n y.N.c))) := Lib.hid fun Y h2 => (h2.cell 4).trans (by rw [← hA]; rfl)
      have hw1 : IntKind.i64.wrap ((i : Int) + 1) = (i : Int) + 1 := IntWalk.i64_in _ (by omega)
      have hic : i ≤ y.N.c := by omega
      have hb1 : (0 : Int) ≤ (i : Int) + 1 ∧ (i : Int) + 1 ≤ (y.N.n : Int) := by omega
      obtain ⟨p, hp1, hp2⟩ := behind_at gu y.N.n y.N.c i 4 hnc hin
      have HP2 := Lib.hid hp2
      have HA := Lib.hid hA
      have HYL : Hid (y.N.n = y.ru.length) := Lib.hid HS.out.l.nn
      obtain ⟨i1, hi1, hz1, hs1, hbb1⟩ := info_parts info_ru
      clear hp2 hA
      refine wp_region_held_tail 9 (fun Y => Y.cell? ⟨w8.heap.size, 4, none⟩ = some (.slice (some ⟨gu, 0, none⟩) y.N.n y.N.c)) (by kernel_rfl) (by kernel_rfl) ?hSv (fun hHeld => ?qv0)
      case hSv => exact HSo.out _ HS.out.bx
      case qv0 =>
        simp only [List.take_succ_cons, List.take_zero, List.drop_succ_cons, List.drop_zero]
        refine wpAnyH_take (i := 0) (v := (.pointer (some ⟨w8.heap.size, 4, none⟩))) rfl (by kernel_rfl) (by kernel_rfl) (by kernel_rfl) (fun _ _ _ h => h) (Or.inl ⟨by rfl, ?yv_1⟩) (by assumption) ?qv_1
        case yv_1 => (intro w hSw; (try dsimp only at hSw); go_simp)
        case qv_1 =>
          (try simp only [Act.put]); (try simp only [List.setIfInBounds_toArray])
          refine wpAnyH_take (i := 1) (v := (.slice (some ⟨gu, 0, none⟩) y.N.n y.N.c)) rfl (by kernel_rfl) (by kernel_rfl) (by kernel_rfl) (fun _ _ _ h => h) (Or.inl ⟨by rfl, ?yv_2⟩) (by assumption) ?qv_2
          case yv_2 => (intro w hSw; (try dsimp only at hSw); go_simp)
          case qv_2 =>
            (try simp only [Act.put]); (try simp only [List.setIfInBounds_toArray])
            refine wpAnyH_take (i := 2) (v := (.int .i64 i)) rfl (by kernel_rfl) (by kernel_rfl) (by kernel_rfl) (fun _ _ _ h => h) (Or.inl ⟨by rfl, ?yv_3⟩) (by assumption) ?qv_3
            case yv_3 => (intro w hSw; (try dsimp only at hSw); go_simp)
            case qv_3 =>
              (try simp only [Act.put]); (try simp only [List.setIfInBounds_toArray])
              refine wpAnyH_take (i := 3) (v := (.slice (some ⟨gu, 0, none⟩) i y.N.c)) rfl (by kernel_rfl) (by kernel_rfl) (by kernel_rfl) (fun _ _ _ h => h) (Or.inl ⟨by rfl, ?yv_4⟩) (by assumption) ?qv_4
              case yv_4 => (intro w hSw; (try dsimp only at hSw); go_simp)
              case qv_4 =>
                (try simp only [Act.put]); (try simp only [List.setIfInBounds_toArray])
                refine wpAnyH_take (i := 4) (v := (.pointer (some ⟨w8.heap.size, 4, none⟩))) rfl (by kernel_rfl) (by kernel_rfl) (by kernel_rfl) (fun _ _ _ h => h) (Or.inl ⟨by rfl, ?yv_5⟩) (by assumption) ?qv_5
                case yv_5 => (intro w hSw; (try dsimp only at hSw); go_simp)
                case qv_5 =>
                  (try simp only [Act.put]); (try simp only [List.setIfInBounds_toArray])
                  refine wpAnyH_take (i := 5) (v := (.slice (some ⟨gu, 0, none⟩) y.N.n y.N.c)) rfl (by kernel_rfl) (by kernel_rfl) (by kernel_rfl) (fun _ _ _ h => h) (Or.inl ⟨by rfl, ?yv_6⟩) (by assumption) ?qv_6
                  case yv_6 => (intro w hSw; (try dsimp only at hSw); go_simp)
                  case qv_6 =>
                    (try simp only [Act.put]); (try simp only [List.setIfInBounds_toArray])
                    refine wpAnyH_take (i := 6) (v := (.int .i64 i)) rfl (by kernel_rfl) (by kernel_rfl) (by kernel_rfl) (fun _ _ _ h => h) (Or.inl ⟨by rfl, ?yv_7⟩) (by assumption) ?qv_7
                    case yv_7 => (intro w hSw; (try dsimp only at hSw); go_simp)
                    case qv_7 =>
                      (try simp only [Act.put]); (try simp only [List.setIfInBounds_toArray])
                      refine wpAnyH_take (i := 7) (v := (.int .i64 ((i : Int) + 1))) rfl (by kernel_rfl) (by kernel_rfl) (by kernel_rfl) (fun _ _ _ h => h) (Or.inl ⟨by rfl, ?yv_8⟩) (by assumption) ?qv_8
                      case yv_8 => (intro w hSw; (try dsimp only at hSw); go_simp)
                      case qv_8 =>
                        (try simp only [Act.put]); (try simp only [List.setIfInBounds_toArray])
                        refine wpAnyH_take (i := 8) (v := (.slice (some ⟨gu, p, none⟩) (y.N.n - (i + 1)) (y.N.c - (i + 1)))) rfl (by kernel_rfl) (by kernel_rfl) (by kernel_rfl) (fun _ _ _ h => h) (Or.inl ⟨by rfl, ?yv_9⟩) (by assumption) ?qv_9
                        case yv_9 => (intro w hSw; (try dsimp only at hSw); go_simp)
                        case qv_9 =>
                          (try simp only [Act.put]); (try simp only [List.setIfInBounds_toArray])
                          refine wpAnyH_done (by kernel_rfl) ?_ _
                          clear hHeld hp1
                          show wpList _ _ _ _ _ _
                          go_wp2_with (first | (at_builtin; with_reducible show wpList _ _ _ (⟨some 126, _, _, _, _, _⟩ :: _) _ _; go_must (refine app_cut (C := ruC) (s := 4) (fun _ => rfl) (one_of one_ruC) (o := ⟨some 126, _, _, _, _, _⟩) rfl (.tmp 120) (.tmp 125) _ rfl (w.heap.size + 2) 49 i1 _ 56 Tryz.underlying24 hi1 hz1 hs1 hbb1 rfl (by decide) (by decide) HOw.out (by omega) i p hin HP2.out (by go_simp) (by go_simp) (by have := HS.out.q.size; omega) ?_); go_must (intro A' c' Yn hownN hgrN; have HG : Hid (World.grownBy _ Yn (Value.ownBlock (.slice y.N.A y.N.n y.N.c))) := Lib.hid (by rw [HA.out]; exact hgrN); have HEN := Lib.hid (erase_ru HS.out HGX.out i (by rw [List.length_eraseIdx_of_lt (by have := HYL.out; omega)]; have := HYL.out; omega) hownN HG.out); have HMn := HS.out.bx.grown hgrN (Ne.symm (own_blk_ne HOw.out HS.out.bx (by decide))); have s1 := (HMn.cell 4).trans (show _ = some (.slice y.N.A y.N.n y.N.c) from rfl); have s2 := HMn.frozen 4; have HSB := Lib.hid HEN.out.q.b; have e0 := (HEN.out.bx.cell 0).trans (show _ = some (.string y.name) from rfl); have e1 := (HEN.out.bx.cell 1).trans (show _ = some (.int .i64 y.ver) from rfl); have e2 := (HEN.out.bx.cell 2).trans (show _ = some (.slice y.U.A y.U.n y.U.c) from rfl); have e3 := (HEN.out.bx.cell 3).trans (show _ = some (.slice y.C.A y.C.n y.C.c) from rfl); have e4 := (HEN.out.bx.cell 4).trans (show _ = some (.slice A' (y.N.n - 1) c') from rfl); have e5 := (HEN.out.bx.cell 5).trans (show _ = some (.slice y.Q.A y.Q.n y.Q.c) from rfl); have e6 := (HEN.out.bx.cell 6).trans (show _ = some (.slice y.E.A y.E.n y.E.c) from rfl); have e7 := (HEN.out.bx.cell 7).trans (show _ = some (.slice y.T.A y.T.n y.T.c) from rfl); clear hownN hgrN HMn)) | ((with_reducible show wpList _ _ _ (Oper.mk _ (Op.store 29 _ _) _ _ _ _ :: _) _ _); go_must (refine wpList_store_row rfl _ _ _ rfl (w.heap.size + 1) _ rfl rfl 29 _ HSB.out infoLangS rfl lang_oneA ?_)))
                          have hres : Tryz.f8.results = #[.cell 8 29, .tmp 9] := by kernel_rfl
                          (try rw [Exit.noGoto_ret])
                          (try simp only [Exit.inBlock, Exit.then])
                          refine bodyPost_ret (results_rowL hres _ _ (w.heap.size + 1) _ rfl (load_langS (setRow_heap _ _ _ _ _ _ HSB.out))) rfl ?_
                          exact less_some (y := ({ y with N := ⟨A', y.N.n - 1, c'⟩, ru := y.ru.eraseIdx i } : LangM)) HEN.out (less_ru HX.out HS.out.l HFX.out HE.out)
  · have n9 := (HS9.out.cell 3).trans (show _ = some (.int .i64 x.Q.n) from rfl)
    by_cases hn : x.Q.n = 0
    · have d0 : ((x.Q.n : Int) == 0) = true := by rw [hn]; rfl
      clear hn
      have a0 := (HQ1.out.a.cell 0).trans (show _ = some (.string x.name) from rfl)
      have a1 := (HQ1.out.a.cell 1).trans (show _ = some (.int .i64 x.ver) from rfl)
      have a2 := (HQ1.out.a.cell 2).trans (show _ = some (.slice x.U.A x.U.n x.U.c) from rfl)
      have a3 := (HQ1.out.a.cell 3).trans (show _ = some (.slice x.C.A x.C.n x.C.c) from rfl)
      have a4 := (HQ1.out.a.cell 4).trans (show _ = some (.slice x.N.A x.N.n x.N.c) from rfl)
      have a5 := (HQ1.out.a.cell 5).trans (show _ = some (.slice x.Q.A x.Q.n x.Q.c) from rfl)
      have a6 := (HQ1.out.a.cell 6).trans (show _ = some (.slice x.E.A x.E.n x.E.c) from rfl)
      have a7 := (HQ1.out.a.cell 7).trans (show _ = some (.slice x.T.A x.T.n x.T.c) from rfl)
      have HSB := Lib.hid HQ1.out.b
      go_wp2_with ((with_reducible show wpList _ _ _ (Oper.mk _ (Op.store 29 _ _) _ _ _ _ :: _) _ _); go_must (refine wpList_store_row rfl _ _ _ rfl (w.heap.size + 1) _ rfl rfl 29 _ HSB.out infoLangS rfl lang_oneA ?_))
      have hres : Tryz.f8.results = #[.cell 8 29, .tmp 9] := by kernel_rfl
      (try rw [Exit.noGoto_ret])
      (try simp only [Exit.inBlock, Exit.then])
      refine bodyPost_ret (results_rowL hres _ _ (w.heap.size + 1) _ rfl (load_langS (setRow_heap _ _ _ _ _ _ HSB.out))) rfl ?_
      exact less_none HX.out hh HFX.out (below_setRow HQ1.out.bel (by omega) _)
    · have d0 : ((x.Q.n : Int) == 0) = false := by rw [beq_eq_false_iff_ne]; omega
      have hpos : 0 < x.Q.n := by omega
      have hle : x.Q.n ≤ 1200 := by have h1 := HFG.out.n; have h2 : x.Q.n = x.qs.length := HX.out.q.n; omega
      clear hn
      go_wp2_with fail
      refine (HRk.out _ _ hpos (by omega)).mono ?_
      rintro e w6 ⟨rfl, rfl⟩
      have hi9 := restV_lt at_ hpos
      generalize restV at_ x.Q.n = i at hi9 ⊢
      have a0 := (HQ1.out.a.cell 0).trans (show _ = some (.string x.name) from rfl)
      have a1 := (HQ1.out.a.cell 1).trans (show _ = some (.int .i64 x.ver) from rfl)
      have a2 := (HQ1.out.a.cell 2).trans (show _ = some (.slice x.U.A x.U.n x.U.c) from rfl)
      have a3 := (HQ1.out.a.cell 3).trans (show _ = some (.slice x.C.A x.C.n x.C.c) from rfl)
      have a4 := (HQ1.out.a.cell 4).trans (show _ = some (.slice x.N.A x.N.n x.N.c) from rfl)
      have a5 := (HQ1.out.a.cell 5).trans (show _ = some (.slice x.Q.A x.Q.n x.Q.c) from rfl)
      have a6 := (HQ1.out.a.cell 6).trans (show _ = some (.slice x.E.A x.E.n x.E.c) from rfl)
      have a7 := (HQ1.out.a.cell 7).trans (show _ = some (.slice x.T.A x.T.n x.T.c) from rfl)
      go_wp2_with fail
      clear a0 a1 a2 a3 a4 a5 a6 a7 d0 n9
      refine (HTw.out _ HQ1.out.bel).mono ?_
      rintro e w8 ⟨y, rfl, hy, hE, hb8, hO⟩
      go_upto_region 19 with (fail)
      have HYN : Hid (y.Q.n = x.Q.n) := Lib.hid (twin_neq hE hy HX.out)
      have HE := Lib.hid hE
      have HS : Hid (LSt w x #[.string ⟨#[]⟩, .int .i64 0, .slice none 0 0, .slice none 0 0, .slice none 0 0, .slice none 0 0, .slice none 0 0, .slice none 0 0] y w8.heap.size (w8.alloc (.cells #[.string y.name, .int .i64 y.ver, .slice y.U.A y.U.n y.U.c, .slice y.C.A y.C.n y.C.c, .slice y.N.A y.N.n y.N.c, .slice y.Q.A y.Q.n y.Q.c, .slice y.E.A y.E.n y.E.c, .slice y.T.A y.T.n y.T.c] 29)).drew) := Lib.hid (LSt.after (Y := (w8.alloc (.cells #[.string y.name, .int .i64 y.ver, .slice y.U.A y.U.n y.U.c, .slice y.C.A y.C.n y.C.c, .slice y.N.A y.N.n y.N.c, .slice y.Q.A y.Q.n y.Q.c, .slice y.E.A y.E.n y.E.c, .slice y.T.A y.T.n y.T.c] 29))) ⟨(HQ1.out.after hb8).after (below_of_alloc _), Blk.new _ _ _, (TwinOwn.lower hO (w := w) (HQ1.out.bel.size)).after (below_of_alloc _), langK.mono (langK.below hy (below_of_alloc _)) (Nat.le_refl _) (below_of_alloc _).size⟩ (drew1_below _))
      have HGX : Hid (w.heap.size + 1 < w8.heap.size) := Lib.hid ((HQ1.out.after hb8).size)
      have hin : i < y.Q.n := by rw [HYN.out]; exact hi9
      have HOw : Hid ((w8.alloc (.cells #[.string y.name, .int .i64 y.ver, .slice y.U.A y.U.n y.U.c, .slice y.C.A y.C.n y.C.c, .slice y.N.A y.N.n y.N.c, .slice y.Q.A y.Q.n y.Q.c, .slice y.E.A y.E.n y.E.c, .slice y.T.A y.T.n y.T.c] 29)).drew.ownsRow (w.heap.size + 2) 52 3 (.slice y.Q.A y.Q.n y.Q.c) y.Q.n (y.qs.flatMap eqC)) := Lib.hid (own_len HS.out.o.q.own HS.out.l.q.n)
      obtain ⟨gu, hA⟩ := own_some HOw.out (Nat.lt_of_le_of_lt (Nat.zero_le _) hin)
      replace HOw := Lib.hid (own_addr HOw.out hA)
      have hnc := (own_row HOw.out).2.1
      have hcm := (own_row HOw.out).2.2.1
      unfold maxLen at hcm
      have hyl : y.Q.n ≤ 1200 := by rw [HYN.out]; exact hle
      clear hy hE hb8 hO
      have HSo : Hid (∀ Y, Blk Y w8.heap.size 29 #[.string y.name, .int .i64 y.ver, .slice y.U.A y.U.n y.U.c, .slice y.C.A y.C.n y.C.c, .slice y.N.A y.N.n y.N.c, .slice y.Q.A y.Q.n y.Q.c, .slice y.E.A y.E.n y.E.c, .slice y.T.A y.T.n y.T.c] → (Y.cell? ⟨w8.heap.size, 5, none⟩ = some (.slice (some ⟨gu, 0, none⟩) y.Q.n y.Q.c))) := Lib.hid fun Y h2 => (h2.cell 5).trans (by rw [← hA]; rfl)
      have hw1 : IntKind.i64.wrap ((i : Int) + 1) = (i : Int) + 1 := IntWalk.i64_in _ (by omega)
      have hic : i ≤ y.Q.c := by omega
      have hb1 : (0 : Int) ≤ (i : Int) + 1 ∧ (i : Int) + 1 ≤ (y.Q.n : Int) := by omega
      obtain ⟨p, hp1, hp2⟩ := behind_at gu y.Q.n y.Q.c i 3 hnc hin
      have HP2 := Lib.hid hp2
      have HA := Lib.hid hA
      have HYL : Hid (y.Q.n = y.qs.length) := Lib.hid HS.out.l.q.n
      obtain ⟨i1, hi1, hz1, hs1, hbb1⟩ := info_parts info_eq
      clear hp2 hA
      refine wp_region_held_tail 9 (fun Y => Y.cell? ⟨w8.heap.size, 5, none⟩ = some (.slice (some ⟨gu, 0, none⟩) y.Q.n y.Q.c)) (by kernel_rfl) (by kernel_rfl) ?hSv (fun hHeld => ?qv0)
      case hSv => exact HSo.out _ HS.out.bx
      case qv0 =>
        simp only [List.take_succ_cons, List.take_zero, List.drop_succ_cons, List.drop_zero]
        refine wpAnyH_take (i := 0) (v := (.pointer (some ⟨w8.heap.size, 5, none⟩))) rfl (by kernel_rfl) (by kernel_rfl) (by kernel_rfl) (fun _ _ _ h => h) (Or.inl ⟨by rfl, ?yv_1⟩) (by assumption) ?qv_1
        case yv_1 => (intro w hSw; (try dsimp only at hSw); go_simp)
        case qv_1 =>
          (try simp only [Act.put]); (try simp only [List.setIfInBounds_toArray])
          refine wpAnyH_take (i := 1) (v := (.slice (some ⟨gu, 0, none⟩) y.Q.n y.Q.c)) rfl (by kernel_rfl) (by kernel_rfl) (by kernel_rfl) (fun _ _ _ h => h) (Or.inl ⟨by rfl, ?yv_2⟩) (by assumption) ?qv_2
          case yv_2 => (intro w hSw; (try dsimp only at hSw); go_simp)
          case qv_2 =>
            (try simp only [Act.put]); (try simp only [List.setIfInBounds_toArray])
            refine wpAnyH_take (i := 2) (v := (.int .i64 i)) rfl (by kernel_rfl) (by kernel_rfl) (by kernel_rfl) (fun _ _ _ h => h) (Or.inl ⟨by rfl, ?yv_3⟩) (by assumption) ?qv_3
            case yv_3 => (intro w hSw; (try dsimp only at hSw); go_simp)
            case qv_3 =>
              (try simp only [Act.put]); (try simp only [List.setIfInBounds_toArray])
              refine wpAnyH_take (i := 3) (v := (.slice (some ⟨gu, 0, none⟩) i y.Q.c)) rfl (by kernel_rfl) (by kernel_rfl) (by kernel_rfl) (fun _ _ _ h => h) (Or.inl ⟨by rfl, ?yv_4⟩) (by assumption) ?qv_4
              case yv_4 => (intro w hSw; (try dsimp only at hSw); go_simp)
              case qv_4 =>
                (try simp only [Act.put]); (try simp only [List.setIfInBounds_toArray])
                refine wpAnyH_take (i := 4) (v := (.pointer (some ⟨w8.heap.size, 5, none⟩))) rfl (by kernel_rfl) (by kernel_rfl) (by kernel_rfl) (fun _ _ _ h => h) (Or.inl ⟨by rfl, ?yv_5⟩) (by assumption) ?qv_5
                case yv_5 => (intro w hSw; (try dsimp only at hSw); go_simp)
                case qv_5 =>
                  (try simp only [Act.put]); (try simp only [List.setIfInBounds_toArray])
                  refine wpAnyH_take (i := 5) (v := (.slice (some ⟨gu, 0, none⟩) y.Q.n y.Q.c)) rfl (by kernel_rfl) (by kernel_rfl) (by kernel_rfl) (fun _ _ _ h => h) (Or.inl ⟨by rfl, ?yv_6⟩) (by assumption) ?qv_6
                  case yv_6 => (intro w hSw; (try dsimp only at hSw); go_simp)
                  case qv_6 =>
                    (try simp only [Act.put]); (try simp only [List.setIfInBounds_toArray])
                    refine wpAnyH_take (i := 6) (v := (.int .i64 i)) rfl (by kernel_rfl) (by kernel_rfl) (by kernel_rfl) (fun _ _ _ h => h) (Or.inl ⟨by rfl, ?yv_7⟩) (by assumption) ?qv_7
                    case yv_7 => (intro w hSw; (try dsimp only at hSw); go_simp)
                    case qv_7 =>
                      (try simp only [Act.put]); (try simp only [List.setIfInBounds_toArray])
                      refine wpAnyH_take (i := 7) (v := (.int .i64 ((i : Int) + 1))) rfl (by kernel_rfl) (by kernel_rfl) (by kernel_rfl) (fun _ _ _ h => h) (Or.inl ⟨by rfl, ?yv_8⟩) (by assumption) ?qv_8
                      case yv_8 => (intro w hSw; (try dsimp only at hSw); go_simp)
                      case qv_8 =>
                        (try simp only [Act.put]); (try simp only [List.setIfInBounds_toArray])
                        refine wpAnyH_take (i := 8) (v := (.slice (some ⟨gu, p, none⟩) (y.Q.n - (i + 1)) (y.Q.c - (i + 1)))) rfl (by kernel_rfl) (by kernel_rfl) (by kernel_rfl) (fun _ _ _ h => h) (Or.inl ⟨by rfl, ?yv_9⟩) (by assumption) ?qv_9
                        case yv_9 => (intro w hSw; (try dsimp only at hSw); go_simp)
                        case qv_9 =>
                          (try simp only [Act.put]); (try simp only [List.setIfInBounds_toArray])
                          refine wpAnyH_done (by kernel_rfl) ?_ _
                          clear hHeld hp1
                          show wpList _ _ _ _ _ _
                          go_wp2_with (first | (at_builtin; with_reducible show wpList _ _ _ (⟨some 139, _, _, _, _, _⟩ :: _) _ _; go_must (refine app_cut (C := eqC) (s := 3) (fun _ => rfl) (one_of one_eqC) (o := ⟨some 139, _, _, _, _, _⟩) rfl (.tmp 133) (.tmp 138) _ rfl (w.heap.size + 2) 52 i1 _ 64 Tryz.underlying25 hi1 hz1 hs1 hbb1 rfl (by decide) (by decide) HOw.out (by omega) i p hin HP2.out (by go_simp) (by go_simp) (by have := HS.out.q.size; omega) ?_); go_must (intro A' c' Yn hownN hgrN; have HG : Hid (World.grownBy _ Yn (Value.ownBlock (.slice y.Q.A y.Q.n y.Q.c))) := Lib.hid (by rw [HA.out]; exact hgrN); have HEN := Lib.hid (erase_eq HS.out HGX.out i (by rw [List.length_eraseIdx_of_lt (by have := HYL.out; omega)]; have := HYL.out; omega) hownN HG.out); have HMn := HS.out.bx.grown hgrN (Ne.symm (own_blk_ne HOw.out HS.out.bx (by decide))); have s1 := (HMn.cell 5).trans (show _ = some (.slice y.Q.A y.Q.n y.Q.c) from rfl); have s2 := HMn.frozen 5; have HSB := Lib.hid HEN.out.q.b; have e0 := (HEN.out.bx.cell 0).trans (show _ = some (.string y.name) from rfl); have e1 := (HEN.out.bx.cell 1).trans (show _ = some (.int .i64 y.ver) from rfl); have e2 := (HEN.out.bx.cell 2).trans (show _ = some (.slice y.U.A y.U.n y.U.c) from rfl); have e3 := (HEN.out.bx.cell 3).trans (show _ = some (.slice y.C.A y.C.n y.C.c) from rfl); have e4 := (HEN.out.bx.cell 4).trans (show _ = some (.slice y.N.A y.N.n y.N.c) from rfl); have e5 := (HEN.out.bx.cell 5).trans (show _ = some (.slice A' (y.Q.n - 1) c') from rfl); have e6 := (HEN.out.bx.cell 6).trans (show _ = some (.slice y.E.A y.E.n y.E.c) from rfl); have e7 := (HEN.out.bx.cell 7).trans (show _ = some (.slice y.T.A y.T.n y.T.c) from rfl); clear hownN hgrN HMn)) | ((with_reducible show wpList _ _ _ (Oper.mk _ (Op.store 29 _ _) _ _ _ _ :: _) _ _); go_must (refine wpList_store_row rfl _ _ _ rfl (w.heap.size + 1) _ rfl rfl 29 _ HSB.out infoLangS rfl lang_oneA ?_)))
                          have hres : Tryz.f8.results = #[.cell 8 29, .tmp 9] := by kernel_rfl
                          (try rw [Exit.noGoto_ret])
                          (try simp only [Exit.inBlock, Exit.then])
                          refine bodyPost_ret (results_rowL hres _ _ (w.heap.size + 1) _ rfl (load_langS (setRow_heap _ _ _ _ _ _ HSB.out))) rfl ?_
                          exact less_some (y := ({ y with Q := ⟨A', y.Q.n - 1, c'⟩, qs := y.qs.eraseIdx i } : LangM)) HEN.out (less_eq HX.out HS.out.l HFX.out HE.out)
  · have n9 := (HS9.out.cell 4).trans (show _ = some (.int .i64 x.E.n) from rfl)
    by_cases hn : x.E.n = 0
    · have d0 : ((x.E.n : Int) == 0) = true := by rw [hn]; rfl
      clear hn
      have a0 := (HQ1.out.a.cell 0).trans (show _ = some (.string x.name) from rfl)
      have a1 := (HQ1.out.a.cell 1).trans (show _ = some (.int .i64 x.ver) from rfl)
      have a2 := (HQ1.out.a.cell 2).trans (show _ = some (.slice x.U.A x.U.n x.U.c) from rfl)
      have a3 := (HQ1.out.a.cell 3).trans (show _ = some (.slice x.C.A x.C.n x.C.c) from rfl)
      have a4 := (HQ1.out.a.cell 4).trans (show _ = some (.slice x.N.A x.N.n x.N.c) from rfl)
      have a5 := (HQ1.out.a.cell 5).trans (show _ = some (.slice x.Q.A x.Q.n x.Q.c) from rfl)
      have a6 := (HQ1.out.a.cell 6).trans (show _ = some (.slice x.E.A x.E.n x.E.c) from rfl)
      have a7 := (HQ1.out.a.cell 7).trans (show _ = some (.slice x.T.A x.T.n x.T.c) from rfl)
      have HSB := Lib.hid HQ1.out.b
      go_wp2_with ((with_reducible show wpList _ _ _ (Oper.mk _ (Op.store 29 _ _) _ _ _ _ :: _) _ _); go_must (refine wpList_store_row rfl _ _ _ rfl (w.heap.size + 1) _ rfl rfl 29 _ HSB.out infoLangS rfl lang_oneA ?_))
      have hres : Tryz.f8.results = #[.cell 8 29, .tmp 9] := by kernel_rfl
      (try rw [Exit.noGoto_ret])
      (try simp only [Exit.inBlock, Exit.then])
      refine bodyPost_ret (results_rowL hres _ _ (w.heap.size + 1) _ rfl (load_langS (setRow_heap _ _ _ _ _ _ HSB.out))) rfl ?_
      exact less_none HX.out hh HFX.out (below_setRow HQ1.out.bel (by omega) _)
    · have d0 : ((x.E.n : Int) == 0) = false := by rw [beq_eq_false_iff_ne]; omega
      have hpos : 0 < x.E.n := by omega
      have hle : x.E.n ≤ 1200 := by have h1 := HFG.out.n; have h2 : x.E.n = x.es.length := HX.out.e.n; omega
      clear hn
      go_wp2_with fail
      refine (HRk.out _ _ hpos (by omega)).mono ?_
      rintro e w6 ⟨rfl, rfl⟩
      have hi9 := restV_lt at_ hpos
      generalize restV at_ x.E.n = i at hi9 ⊢
      have a0 := (HQ1.out.a.cell 0).trans (show _ = some (.string x.name) from rfl)
      have a1 := (HQ1.out.a.cell 1).trans (show _ = some (.int .i64 x.ver) from rfl)
      have a2 := (HQ1.out.a.cell 2).trans (show _ = some (.slice x.U.A x.U.n x.U.c) from rfl)
      have a3 := (HQ1.out.a.cell 3).trans (show _ = some (.slice x.C.A x.C.n x.C.c) from rfl)
      have a4 := (HQ1.out.a.cell 4).trans (show _ = some (.slice x.N.A x.N.n x.N.c) from rfl)
      have a5 := (HQ1.out.a.cell 5).trans (show _ = some (.slice x.Q.A x.Q.n x.Q.c) from rfl)
      have a6 := (HQ1.out.a.cell 6).trans (show _ = some (.slice x.E.A x.E.n x.E.c) from rfl)
      have a7 := (HQ1.out.a.cell 7).trans (show _ = some (.slice x.T.A x.T.n x.T.c) from rfl)
      go_wp2_with fail
      clear a0 a1 a2 a3 a4 a5 a6 a7 d0 n9
      refine (HTw.out _ HQ1.out.bel).mono ?_
      rintro e w8 ⟨y, rfl, hy, hE, hb8, hO⟩
      go_upto_region 21 with (fail)
      have HYN : Hid (y.E.n = x.E.n) := Lib.hid (twin_ned hE hy HX.out)
      have HE := Lib.hid hE
      have HS : Hid (LSt w x #[.string ⟨#[]⟩, .int .i64 0, .slice none 0 0, .slice none 0 0, .slice none 0 0, .slice none 0 0, .slice none 0 0, .slice none 0 0] y w8.heap.size (w8.alloc (.cells #[.string y.name, .int .i64 y.ver, .slice y.U.A y.U.n y.U.c, .slice y.C.A y.C.n y.C.c, .slice y.N.A y.N.n y.N.c, .slice y.Q.A y.Q.n y.Q.c, .slice y.E.A y.E.n y.E.c, .slice y.T.A y.T.n y.T.c] 29)).drew) := Lib.hid (LSt.after (Y := (w8.alloc (.cells #[.string y.name, .int .i64 y.ver, .slice y.U.A y.U.n y.U.c, .slice y.C.A y.C.n y.C.c, .slice y.N.A y.N.n y.N.c, .slice y.Q.A y.Q.n y.Q.c, .slice y.E.A y.E.n y.E.c, .slice y.T.A y.T.n y.T.c] 29))) ⟨(HQ1.out.after hb8).after (below_of_alloc _), Blk.new _ _ _, (TwinOwn.lower hO (w := w) (HQ1.out.bel.size)).after (below_of_alloc _), langK.mono (langK.below hy (below_of_alloc _)) (Nat.le_refl _) (below_of_alloc _).size⟩ (drew1_below _))
      have HGX : Hid (w.heap.size + 1 < w8.heap.size) := Lib.hid ((HQ1.out.after hb8).size)
      have hin : i < y.E.n := by rw [HYN.out]; exact hi9
      have HOw : Hid ((w8.alloc (.cells #[.string y.name, .int .i64 y.ver, .slice y.U.A y.U.n y.U.c, .slice y.C.A y.C.n y.C.c, .slice y.N.A y.N.n y.N.c, .slice y.Q.A y.Q.n y.Q.c, .slice y.E.A y.E.n y.E.c, .slice y.T.A y.T.n y.T.c] 29)).drew.ownsRow (w.heap.size + 2) 55 2 (.slice y.E.A y.E.n y.E.c) y.E.n (y.es.flatMap rowC)) := Lib.hid (own_len HS.out.o.e.own HS.out.l.e.n)
      obtain ⟨gu, hA⟩ := own_some HOw.out (Nat.lt_of_le_of_lt (Nat.zero_le _) hin)
      replace HOw := Lib.hid (own_addr HOw.out hA)
      have hnc := (own_row HOw.out).2.1
      have hcm := (own_row HOw.out).2.2.1
      unfold maxLen at hcm
      have hyl : y.E.n ≤ 1200 := by rw [HYN.out]; exact hle
      clear hy hE hb8 hO
      have HSo : Hid (∀ Y, Blk Y w8.heap.size 29 #[.string y.name, .int .i64 y.ver, .slice y.U.A y.U.n y.U.c, .slice y.C.A y.C.n y.C.c, .slice y.N.A y.N.n y.N.c, .slice y.Q.A y.Q.n y.Q.c, .slice y.E.A y.E.n y.E.c, .slice y.T.A y.T.n y.T.c] → (Y.cell? ⟨w8.heap.size, 6, none⟩ = some (.slice (some ⟨gu, 0, none⟩) y.E.n y.E.c))) := Lib.hid fun Y h2 => (h2.cell 6).trans (by rw [← hA]; rfl)
      have hw1 : IntKind.i64.wrap ((i : Int) + 1) = (i : Int) + 1 := IntWalk.i64_in _ (by omega)
      have hic : i ≤ y.E.c := by omega
      have hb1 : (0 : Int) ≤ (i : Int) + 1 ∧ (i : Int) + 1 ≤ (y.E.n : Int) := by omega
      obtain ⟨p, hp1, hp2⟩ := behind_at gu y.E.n y.E.c i 2 hnc hin
      have HP2 := Lib.hid hp2
      have HA := Lib.hid hA
      have HYL : Hid (y.E.n = y.es.length) := Lib.hid HS.out.l.e.n
      obtain ⟨i1, hi1, hz1, hs1, hbb1⟩ := info_parts info_ed
      clear hp2 hA
      refine wp_region_held_tail 9 (fun Y => Y.cell? ⟨w8.heap.size, 6, none⟩ = some (.slice (some ⟨gu, 0, none⟩) y.E.n y.E.c)) (by kernel_rfl) (by kernel_rfl) ?hSv (fun hHeld => ?qv0)
      case hSv => exact HSo.out _ HS.out.bx
      case qv0 =>
        simp only [List.take_succ_cons, List.take_zero, List.drop_succ_cons, List.drop_zero]
        refine wpAnyH_take (i := 0) (v := (.pointer (some ⟨w8.heap.size, 6, none⟩))) rfl (by kernel_rfl) (by kernel_rfl) (by kernel_rfl) (fun _ _ _ h => h) (Or.inl ⟨by rfl, ?yv_1⟩) (by assumption) ?qv_1
        case yv_1 => (intro w hSw; (try dsimp only at hSw); go_simp)
        case qv_1 =>
          (try simp only [Act.put]); (try simp only [List.setIfInBounds_toArray])
          refine wpAnyH_take (i := 1) (v := (.slice (some ⟨gu, 0, none⟩) y.E.n y.E.c)) rfl (by kernel_rfl) (by kernel_rfl) (by kernel_rfl) (fun _ _ _ h => h) (Or.inl ⟨by rfl, ?yv_2⟩) (by assumption) ?qv_2
          case yv_2 => (intro w hSw; (try dsimp only at hSw); go_simp)
          case qv_2 =>
            (try simp only [Act.put]); (try simp only [List.setIfInBounds_toArray])
            refine wpAnyH_take (i := 2) (v := (.int .i64 i)) rfl (by kernel_rfl) (by kernel_rfl) (by kernel_rfl) (fun _ _ _ h => h) (Or.inl ⟨by rfl, ?yv_3⟩) (by assumption) ?qv_3
            case yv_3 => (intro w hSw; (try dsimp only at hSw); go_simp)
            case qv_3 =>
              (try simp only [Act.put]); (try simp only [List.setIfInBounds_toArray])
              refine wpAnyH_take (i := 3) (v := (.slice (some ⟨gu, 0, none⟩) i y.E.c)) rfl (by kernel_rfl) (by kernel_rfl) (by kernel_rfl) (fun _ _ _ h => h) (Or.inl ⟨by rfl, ?yv_4⟩) (by assumption) ?qv_4
              case yv_4 => (intro w hSw; (try dsimp only at hSw); go_simp)
              case qv_4 =>
                (try simp only [Act.put]); (try simp only [List.setIfInBounds_toArray])
                refine wpAnyH_take (i := 4) (v := (.pointer (some ⟨w8.heap.size, 6, none⟩))) rfl (by kernel_rfl) (by kernel_rfl) (by kernel_rfl) (fun _ _ _ h => h) (Or.inl ⟨by rfl, ?yv_5⟩) (by assumption) ?qv_5
                case yv_5 => (intro w hSw; (try dsimp only at hSw); go_simp)
                case qv_5 =>
                  (try simp only [Act.put]); (try simp only [List.setIfInBounds_toArray])
                  refine wpAnyH_take (i := 5) (v := (.slice (some ⟨gu, 0, none⟩) y.E.n y.E.c)) rfl (by kernel_rfl) (by kernel_rfl) (by kernel_rfl) (fun _ _ _ h => h) (Or.inl ⟨by rfl, ?yv_6⟩) (by assumption) ?qv_6
                  case yv_6 => (intro w hSw; (try dsimp only at hSw); go_simp)
                  case qv_6 =>
                    (try simp only [Act.put]); (try simp only [List.setIfInBounds_toArray])
                    refine wpAnyH_take (i := 6) (v := (.int .i64 i)) rfl (by kernel_rfl) (by kernel_rfl) (by kernel_rfl) (fun _ _ _ h => h) (Or.inl ⟨by rfl, ?yv_7⟩) (by assumption) ?qv_7
                    case yv_7 => (intro w hSw; (try dsimp only at hSw); go_simp)
                    case qv_7 =>
                      (try simp only [Act.put]); (try simp only [List.setIfInBounds_toArray])
                      refine wpAnyH_take (i := 7) (v := (.int .i64 ((i : Int) + 1))) rfl (by kernel_rfl) (by kernel_rfl) (by kernel_rfl) (fun _ _ _ h => h) (Or.inl ⟨by rfl, ?yv_8⟩) (by assumption) ?qv_8
                      case yv_8 => (intro w hSw; (try dsimp only at hSw); go_simp)
                      case qv_8 =>
                        (try simp only [Act.put]); (try simp only [List.setIfInBounds_toArray])
                        refine wpAnyH_take (i := 8) (v := (.slice (some ⟨gu, p, none⟩) (y.E.n - (i + 1)) (y.E.c - (i + 1)))) rfl (by kernel_rfl) (by kernel_rfl) (by kernel_rfl) (fun _ _ _ h => h) (Or.inl ⟨by rfl, ?yv_9⟩) (by assumption) ?qv_9
                        case yv_9 => (intro w hSw; (try dsimp only at hSw); go_simp)
                        case qv_9 =>
                          (try simp only [Act.put]); (try simp only [List.setIfInBounds_toArray])
                          refine wpAnyH_done (by kernel_rfl) ?_ _
                          clear hHeld hp1
                          show wpList _ _ _ _ _ _
                          go_wp2_with (first | (at_builtin; with_reducible show wpList _ _ _ (⟨some 152, _, _, _, _, _⟩ :: _) _ _; go_must (refine app_cut (C := rowC) (s := 2) (fun _ => rfl) (one_of one_rowC) (o := ⟨some 152, _, _, _, _, _⟩) rfl (.tmp 146) (.tmp 151) _ rfl (w.heap.size + 2) 55 i1 _ 40 Tryz.underlying26 hi1 hz1 hs1 hbb1 rfl (by decide) (by decide) HOw.out (by omega) i p hin HP2.out (by go_simp) (by go_simp) (by have := HS.out.q.size; omega) ?_); go_must (intro A' c' Yn hownN hgrN; have HG : Hid (World.grownBy _ Yn (Value.ownBlock (.slice y.E.A y.E.n y.E.c))) := Lib.hid (by rw [HA.out]; exact hgrN); have HEN := Lib.hid (erase_ed HS.out HGX.out i (by rw [List.length_eraseIdx_of_lt (by have := HYL.out; omega)]; have := HYL.out; omega) hownN HG.out); have HMn := HS.out.bx.grown hgrN (Ne.symm (own_blk_ne HOw.out HS.out.bx (by decide))); have s1 := (HMn.cell 6).trans (show _ = some (.slice y.E.A y.E.n y.E.c) from rfl); have s2 := HMn.frozen 6; have HSB := Lib.hid HEN.out.q.b; have e0 := (HEN.out.bx.cell 0).trans (show _ = some (.string y.name) from rfl); have e1 := (HEN.out.bx.cell 1).trans (show _ = some (.int .i64 y.ver) from rfl); have e2 := (HEN.out.bx.cell 2).trans (show _ = some (.slice y.U.A y.U.n y.U.c) from rfl); have e3 := (HEN.out.bx.cell 3).trans (show _ = some (.slice y.C.A y.C.n y.C.c) from rfl); have e4 := (HEN.out.bx.cell 4).trans (show _ = some (.slice y.N.A y.N.n y.N.c) from rfl); have e5 := (HEN.out.bx.cell 5).trans (show _ = some (.slice y.Q.A y.Q.n y.Q.c) from rfl); have e6 := (HEN.out.bx.cell 6).trans (show _ = some (.slice A' (y.E.n - 1) c') from rfl); have e7 := (HEN.out.bx.cell 7).trans (show _ = some (.slice y.T.A y.T.n y.T.c) from rfl); clear hownN hgrN HMn)) | ((with_reducible show wpList _ _ _ (Oper.mk _ (Op.store 29 _ _) _ _ _ _ :: _) _ _); go_must (refine wpList_store_row rfl _ _ _ rfl (w.heap.size + 1) _ rfl rfl 29 _ HSB.out infoLangS rfl lang_oneA ?_)))
                          have hres : Tryz.f8.results = #[.cell 8 29, .tmp 9] := by kernel_rfl
                          (try rw [Exit.noGoto_ret])
                          (try simp only [Exit.inBlock, Exit.then])
                          refine bodyPost_ret (results_rowL hres _ _ (w.heap.size + 1) _ rfl (load_langS (setRow_heap _ _ _ _ _ _ HSB.out))) rfl ?_
                          exact less_some (y := ({ y with E := ⟨A', y.E.n - 1, c'⟩, es := y.es.eraseIdx i } : LangM)) HEN.out (less_ed HX.out HS.out.l HFX.out HE.out)
  · have n9 := (HS9.out.cell 5).trans (show _ = some (.int .i64 x.T.n) from rfl)
    by_cases hn : x.T.n = 0
    · have d0 : ((x.T.n : Int) == 0) = true := by rw [hn]; rfl
      clear hn
      have a0 := (HQ1.out.a.cell 0).trans (show _ = some (.string x.name) from rfl)
      have a1 := (HQ1.out.a.cell 1).trans (show _ = some (.int .i64 x.ver) from rfl)
      have a2 := (HQ1.out.a.cell 2).trans (show _ = some (.slice x.U.A x.U.n x.U.c) from rfl)
      have a3 := (HQ1.out.a.cell 3).trans (show _ = some (.slice x.C.A x.C.n x.C.c) from rfl)
      have a4 := (HQ1.out.a.cell 4).trans (show _ = some (.slice x.N.A x.N.n x.N.c) from rfl)
      have a5 := (HQ1.out.a.cell 5).trans (show _ = some (.slice x.Q.A x.Q.n x.Q.c) from rfl)
      have a6 := (HQ1.out.a.cell 6).trans (show _ = some (.slice x.E.A x.E.n x.E.c) from rfl)
      have a7 := (HQ1.out.a.cell 7).trans (show _ = some (.slice x.T.A x.T.n x.T.c) from rfl)
      have HSB := Lib.hid HQ1.out.b
      go_wp2_with ((with_reducible show wpList _ _ _ (Oper.mk _ (Op.store 29 _ _) _ _ _ _ :: _) _ _); go_must (refine wpList_store_row rfl _ _ _ rfl (w.heap.size + 1) _ rfl rfl 29 _ HSB.out infoLangS rfl lang_oneA ?_))
      have hres : Tryz.f8.results = #[.cell 8 29, .tmp 9] := by kernel_rfl
      (try rw [Exit.noGoto_ret])
      (try simp only [Exit.inBlock, Exit.then])
      refine bodyPost_ret (results_rowL hres _ _ (w.heap.size + 1) _ rfl (load_langS (setRow_heap _ _ _ _ _ _ HSB.out))) rfl ?_
      exact less_none HX.out hh HFX.out (below_setRow HQ1.out.bel (by omega) _)
    · have d0 : ((x.T.n : Int) == 0) = false := by rw [beq_eq_false_iff_ne]; omega
      have hpos : 0 < x.T.n := by omega
      have hle : x.T.n ≤ 1200 := by have h1 := HFG.out.n; have h2 : x.T.n = x.ts.length := HX.out.t.n; omega
      clear hn
      go_wp2_with fail
      refine (HRk.out _ _ hpos (by omega)).mono ?_
      rintro e w6 ⟨rfl, rfl⟩
      have hi9 := restV_lt at_ hpos
      generalize restV at_ x.T.n = i at hi9 ⊢
      have a0 := (HQ1.out.a.cell 0).trans (show _ = some (.string x.name) from rfl)
      have a1 := (HQ1.out.a.cell 1).trans (show _ = some (.int .i64 x.ver) from rfl)
      have a2 := (HQ1.out.a.cell 2).trans (show _ = some (.slice x.U.A x.U.n x.U.c) from rfl)
      have a3 := (HQ1.out.a.cell 3).trans (show _ = some (.slice x.C.A x.C.n x.C.c) from rfl)
      have a4 := (HQ1.out.a.cell 4).trans (show _ = some (.slice x.N.A x.N.n x.N.c) from rfl)
      have a5 := (HQ1.out.a.cell 5).trans (show _ = some (.slice x.Q.A x.Q.n x.Q.c) from rfl)
      have a6 := (HQ1.out.a.cell 6).trans (show _ = some (.slice x.E.A x.E.n x.E.c) from rfl)
      have a7 := (HQ1.out.a.cell 7).trans (show _ = some (.slice x.T.A x.T.n x.T.c) from rfl)
      go_wp2_with fail
      clear a0 a1 a2 a3 a4 a5 a6 a7 d0 n9
      refine (HTw.out _ HQ1.out.bel).mono ?_
      rintro e w8 ⟨y, rfl, hy, hE, hb8, hO⟩
      go_upto_region 23 with (fail)
      have HYN : Hid (y.T.n = x.T.n) := Lib.hid (twin_nte hE hy HX.out)
      have HE := Lib.hid hE
      have HS : Hid (LSt w x #[.string ⟨#[]⟩, .int .i64 0, .slice none 0 0, .slice none 0 0, .slice none 0 0, .slice none 0 0, .slice none 0 0, .slice none 0 0] y w8.heap.size (w8.alloc (.cells #[.string y.name, .int .i64 y.ver, .slice y.U.A y.U.n y.U.c, .slice y.C.A y.C.n y.C.c, .slice y.N.A y.N.n y.N.c, .slice y.Q.A y.Q.n y.Q.c, .slice y.E.A y.E.n y.E.c, .slice y.T.A y.T.n y.T.c] 29)).drew) := Lib.hid (LSt.after (Y := (w8.alloc (.cells #[.string y.name, .int .i64 y.ver, .slice y.U.A y.U.n y.U.c, .slice y.C.A y.C.n y.C.c, .slice y.N.A y.N.n y.N.c, .slice y.Q.A y.Q.n y.Q.c, .slice y.E.A y.E.n y.E.c, .slice y.T.A y.T.n y.T.c] 29))) ⟨(HQ1.out.after hb8).after (below_of_alloc _), Blk.new _ _ _, (TwinOwn.lower hO (w := w) (HQ1.out.bel.size)).after (below_of_alloc _), langK.mono (langK.below hy (below_of_alloc _)) (Nat.le_refl _) (below_of_alloc _).size⟩ (drew1_below _))
      have HGX : Hid (w.heap.size + 1 < w8.heap.size) := Lib.hid ((HQ1.out.after hb8).size)
      have hin : i < y.T.n := by rw [HYN.out]; exact hi9
      have HOw : Hid ((w8.alloc (.cells #[.string y.name, .int .i64 y.ver, .slice y.U.A y.U.n y.U.c, .slice y.C.A y.C.n y.C.c, .slice y.N.A y.N.n y.N.c, .slice y.Q.A y.Q.n y.Q.c, .slice y.E.A y.E.n y.E.c, .slice y.T.A y.T.n y.T.c] 29)).drew.ownsRow (w.heap.size + 2) 58 2 (.slice y.T.A y.T.n y.T.c) y.T.n (y.ts.flatMap rowC)) := Lib.hid (own_len HS.out.o.t.own HS.out.l.t.n)
      obtain ⟨gu, hA⟩ := own_some HOw.out (Nat.lt_of_le_of_lt (Nat.zero_le _) hin)
      replace HOw := Lib.hid (own_addr HOw.out hA)
      have hnc := (own_row HOw.out).2.1
      have hcm := (own_row HOw.out).2.2.1
      unfold maxLen at hcm
      have hyl : y.T.n ≤ 1200 := by rw [HYN.out]; exact hle
      clear hy hE hb8 hO
      have HSo : Hid (∀ Y, Blk Y w8.heap.size 29 #[.string y.name, .int .i64 y.ver, .slice y.U.A y.U.n y.U.c, .slice y.C.A y.C.n y.C.c, .slice y.N.A y.N.n y.N.c, .slice y.Q.A y.Q.n y.Q.c, .slice y.E.A y.E.n y.E.c, .slice y.T.A y.T.n y.T.c] → (Y.cell? ⟨w8.heap.size, 7, none⟩ = some (.slice (some ⟨gu, 0, none⟩) y.T.n y.T.c))) := Lib.hid fun Y h2 => (h2.cell 7).trans (by rw [← hA]; rfl)
      have hw1 : IntKind.i64.wrap ((i : Int) + 1) = (i : Int) + 1 := IntWalk.i64_in _ (by omega)
      have hic : i ≤ y.T.c := by omega
      have hb1 : (0 : Int) ≤ (i : Int) + 1 ∧ (i : Int) + 1 ≤ (y.T.n : Int) := by omega
      obtain ⟨p, hp1, hp2⟩ := behind_at gu y.T.n y.T.c i 2 hnc hin
      have HP2 := Lib.hid hp2
      have HA := Lib.hid hA
      have HYL : Hid (y.T.n = y.ts.length) := Lib.hid HS.out.l.t.n
      obtain ⟨i1, hi1, hz1, hs1, hbb1⟩ := info_parts info_te
      clear hp2 hA
      refine wp_region_held_tail 9 (fun Y => Y.cell? ⟨w8.heap.size, 7, none⟩ = some (.slice (some ⟨gu, 0, none⟩) y.T.n y.T.c)) (by kernel_rfl) (by kernel_rfl) ?hSv (fun hHeld => ?qv0)
      case hSv => exact HSo.out _ HS.out.bx
      case qv0 =>
        simp only [List.take_succ_cons, List.take_zero, List.drop_succ_cons, List.drop_zero]
        refine wpAnyH_take (i := 0) (v := (.pointer (some ⟨w8.heap.size, 7, none⟩))) rfl (by kernel_rfl) (by kernel_rfl) (by kernel_rfl) (fun _ _ _ h => h) (Or.inl ⟨by rfl, ?yv_1⟩) (by assumption) ?qv_1
        case yv_1 => (intro w hSw; (try dsimp only at hSw); go_simp)
        case qv_1 =>
          (try simp only [Act.put]); (try simp only [List.setIfInBounds_toArray])
          refine wpAnyH_take (i := 1) (v := (.slice (some ⟨gu, 0, none⟩) y.T.n y.T.c)) rfl (by kernel_rfl) (by kernel_rfl) (by kernel_rfl) (fun _ _ _ h => h) (Or.inl ⟨by rfl, ?yv_2⟩) (by assumption) ?qv_2
          case yv_2 => (intro w hSw; (try dsimp only at hSw); go_simp)
          case qv_2 =>
            (try simp only [Act.put]); (try simp only [List.setIfInBounds_toArray])
            refine wpAnyH_take (i := 2) (v := (.int .i64 i)) rfl (by kernel_rfl) (by kernel_rfl) (by kernel_rfl) (fun _ _ _ h => h) (Or.inl ⟨by rfl, ?yv_3⟩) (by assumption) ?qv_3
            case yv_3 => (intro w hSw; (try dsimp only at hSw); go_simp)
            case qv_3 =>
              (try simp only [Act.put]); (try simp only [List.setIfInBounds_toArray])
              refine wpAnyH_take (i := 3) (v := (.slice (some ⟨gu, 0, none⟩) i y.T.c)) rfl (by kernel_rfl) (by kernel_rfl) (by kernel_rfl) (fun _ _ _ h => h) (Or.inl ⟨by rfl, ?yv_4⟩) (by assumption) ?qv_4
              case yv_4 => (intro w hSw; (try dsimp only at hSw); go_simp)
              case qv_4 =>
                (try simp only [Act.put]); (try simp only [List.setIfInBounds_toArray])
                refine wpAnyH_take (i := 4) (v := (.pointer (some ⟨w8.heap.size, 7, none⟩))) rfl (by kernel_rfl) (by kernel_rfl) (by kernel_rfl) (fun _ _ _ h => h) (Or.inl ⟨by rfl, ?yv_5⟩) (by assumption) ?qv_5
                case yv_5 => (intro w hSw; (try dsimp only at hSw); go_simp)
                case qv_5 =>
                  (try simp only [Act.put]); (try simp only [List.setIfInBounds_toArray])
                  refine wpAnyH_take (i := 5) (v := (.slice (some ⟨gu, 0, none⟩) y.T.n y.T.c)) rfl (by kernel_rfl) (by kernel_rfl) (by kernel_rfl) (fun _ _ _ h => h) (Or.inl ⟨by rfl, ?yv_6⟩) (by assumption) ?qv_6
                  case yv_6 => (intro w hSw; (try dsimp only at hSw); go_simp)
                  case qv_6 =>
                    (try simp only [Act.put]); (try simp only [List.setIfInBounds_toArray])
                    refine wpAnyH_take (i := 6) (v := (.int .i64 i)) rfl (by kernel_rfl) (by kernel_rfl) (by kernel_rfl) (fun _ _ _ h => h) (Or.inl ⟨by rfl, ?yv_7⟩) (by assumption) ?qv_7
                    case yv_7 => (intro w hSw; (try dsimp only at hSw); go_simp)
                    case qv_7 =>
                      (try simp only [Act.put]); (try simp only [List.setIfInBounds_toArray])
                      refine wpAnyH_take (i := 7) (v := (.int .i64 ((i : Int) + 1))) rfl (by kernel_rfl) (by kernel_rfl) (by kernel_rfl) (fun _ _ _ h => h) (Or.inl ⟨by rfl, ?yv_8⟩) (by assumption) ?qv_8
                      case yv_8 => (intro w hSw; (try dsimp only at hSw); go_simp)
                      case qv_8 =>
                        (try simp only [Act.put]); (try simp only [List.setIfInBounds_toArray])
                        refine wpAnyH_take (i := 8) (v := (.slice (some ⟨gu, p, none⟩) (y.T.n - (i + 1)) (y.T.c - (i + 1)))) rfl (by kernel_rfl) (by kernel_rfl) (by kernel_rfl) (fun _ _ _ h => h) (Or.inl ⟨by rfl, ?yv_9⟩) (by assumption) ?qv_9
                        case yv_9 => (intro w hSw; (try dsimp only at hSw); go_simp)
                        case qv_9 =>
                          (try simp only [Act.put]); (try simp only [List.setIfInBounds_toArray])
                          refine wpAnyH_done (by kernel_rfl) ?_ _
                          clear hHeld hp1
                          show wpList _ _ _ _ _ _
                          go_wp2_with (first | (at_builtin; with_reducible show wpList _ _ _ (⟨some 165, _, _, _, _, _⟩ :: _) _ _; go_must (refine app_cut (C := rowC) (s := 2) (fun _ => rfl) (one_of one_rowC) (o := ⟨some 165, _, _, _, _, _⟩) rfl (.tmp 159) (.tmp 164) _ rfl (w.heap.size + 2) 58 i1 _ 40 Tryz.underlying27 hi1 hz1 hs1 hbb1 rfl (by decide) (by decide) HOw.out (by omega) i p hin HP2.out (by go_simp) (by go_simp) (by have := HS.out.q.size; omega) ?_); go_must (intro A' c' Yn hownN hgrN; have HG : Hid (World.grownBy _ Yn (Value.ownBlock (.slice y.T.A y.T.n y.T.c))) := Lib.hid (by rw [HA.out]; exact hgrN); have HEN := Lib.hid (erase_te HS.out HGX.out i (by rw [List.length_eraseIdx_of_lt (by have := HYL.out; omega)]; have := HYL.out; omega) hownN HG.out); have HMn := HS.out.bx.grown hgrN (Ne.symm (own_blk_ne HOw.out HS.out.bx (by decide))); have s1 := (HMn.cell 7).trans (show _ = some (.slice y.T.A y.T.n y.T.c) from rfl); have s2 := HMn.frozen 7; have HSB := Lib.hid HEN.out.q.b; have e0 := (HEN.out.bx.cell 0).trans (show _ = some (.string y.name) from rfl); have e1 := (HEN.out.bx.cell 1).trans (show _ = some (.int .i64 y.ver) from rfl); have e2 := (HEN.out.bx.cell 2).trans (show _ = some (.slice y.U.A y.U.n y.U.c) from rfl); have e3 := (HEN.out.bx.cell 3).trans (show _ = some (.slice y.C.A y.C.n y.C.c) from rfl); have e4 := (HEN.out.bx.cell 4).trans (show _ = some (.slice y.N.A y.N.n y.N.c) from rfl); have e5 := (HEN.out.bx.cell 5).trans (show _ = some (.slice y.Q.A y.Q.n y.Q.c) from rfl); have e6 := (HEN.out.bx.cell 6).trans (show _ = some (.slice y.E.A y.E.n y.E.c) from rfl); have e7 := (HEN.out.bx.cell 7).trans (show _ = some (.slice A' (y.T.n - 1) c') from rfl); clear hownN hgrN HMn)) | ((with_reducible show wpList _ _ _ (Oper.mk _ (Op.store 29 _ _) _ _ _ _ :: _) _ _); go_must (refine wpList_store_row rfl _ _ _ rfl (w.heap.size + 1) _ rfl rfl 29 _ HSB.out infoLangS rfl lang_oneA ?_)))
                          have hres : Tryz.f8.results = #[.cell 8 29, .tmp 9] := by kernel_rfl
                          (try rw [Exit.noGoto_ret])
                          (try simp only [Exit.inBlock, Exit.then])
                          refine bodyPost_ret (results_rowL hres _ _ (w.heap.size + 1) _ rfl (load_langS (setRow_heap _ _ _ _ _ _ HSB.out))) rfl ?_
                          exact less_some (y := ({ y with T := ⟨A', y.T.n - 1, c'⟩, ts := y.ts.eraseIdx i } : LangM)) HEN.out (less_te HX.out HS.out.l HFX.out HE.out)
  · have n9 := (HS9.out.cell 6).trans (show _ = some (.int .i64 x.C.n) from rfl)
    by_cases hn : x.C.n = 0
    · have d0 : ((x.C.n : Int) == 0) = true := by rw [hn]; rfl
      clear hn
      have a0 := (HQ1.out.a.cell 0).trans (show _ = some (.string x.name) from rfl)
      have a1 := (HQ1.out.a.cell 1).trans (show _ = some (.int .i64 x.ver) from rfl)
      have a2 := (HQ1.out.a.cell 2).trans (show _ = some (.slice x.U.A x.U.n x.U.c) from rfl)
      have a3 := (HQ1.out.a.cell 3).trans (show _ = some (.slice x.C.A x.C.n x.C.c) from rfl)
      have a4 := (HQ1.out.a.cell 4).trans (show _ = some (.slice x.N.A x.N.n x.N.c) from rfl)
      have a5 := (HQ1.out.a.cell 5).trans (show _ = some (.slice x.Q.A x.Q.n x.Q.c) from rfl)
      have a6 := (HQ1.out.a.cell 6).trans (show _ = some (.slice x.E.A x.E.n x.E.c) from rfl)
      have a7 := (HQ1.out.a.cell 7).trans (show _ = some (.slice x.T.A x.T.n x.T.c) from rfl)
      have HSB := Lib.hid HQ1.out.b
      go_wp2_with ((with_reducible show wpList _ _ _ (Oper.mk _ (Op.store 29 _ _) _ _ _ _ :: _) _ _); go_must (refine wpList_store_row rfl _ _ _ rfl (w.heap.size + 1) _ rfl rfl 29 _ HSB.out infoLangS rfl lang_oneA ?_))
      have hres : Tryz.f8.results = #[.cell 8 29, .tmp 9] := by kernel_rfl
      (try rw [Exit.noGoto_ret])
      (try simp only [Exit.inBlock, Exit.then])
      refine bodyPost_ret (results_rowL hres _ _ (w.heap.size + 1) _ rfl (load_langS (setRow_heap _ _ _ _ _ _ HSB.out))) rfl ?_
      exact less_none HX.out hh HFX.out (below_setRow HQ1.out.bel (by omega) _)
    · have d0 : ((x.C.n : Int) == 0) = false := by rw [beq_eq_false_iff_ne]; omega
      have hpos : 0 < x.C.n := by omega
      have hle : x.C.n ≤ 1200 := by have h1 := HFG.out.n; have h2 : x.C.n = x.cs.length := HX.out.c.n; omega
      clear hn
      go_wp2_with fail
      refine (HRk.out _ _ hpos (by omega)).mono ?_
      rintro e w6 ⟨rfl, rfl⟩
      have hi9 := restV_lt at_ hpos
      generalize restV at_ x.C.n = i at hi9 ⊢
      have a0 := (HQ1.out.a.cell 0).trans (show _ = some (.string x.name) from rfl)
      have a1 := (HQ1.out.a.cell 1).trans (show _ = some (.int .i64 x.ver) from rfl)
      have a2 := (HQ1.out.a.cell 2).trans (show _ = some (.slice x.U.A x.U.n x.U.c) from rfl)
      have a3 := (HQ1.out.a.cell 3).trans (show _ = some (.slice x.C.A x.C.n x.C.c) from rfl)
      have a4 := (HQ1.out.a.cell 4).trans (show _ = some (.slice x.N.A x.N.n x.N.c) from rfl)
      have a5 := (HQ1.out.a.cell 5).trans (show _ = some (.slice x.Q.A x.Q.n x.Q.c) from rfl)
      have a6 := (HQ1.out.a.cell 6).trans (show _ = some (.slice x.E.A x.E.n x.E.c) from rfl)
      have a7 := (HQ1.out.a.cell 7).trans (show _ = some (.slice x.T.A x.T.n x.T.c) from rfl)
      go_wp2_with fail
      clear a0 a1 a2 a3 a4 a5 a6 a7 d0 n9
      refine (HTw.out _ HQ1.out.bel).mono ?_
      rintro e w8 ⟨y, rfl, hy, hE, hb8, hO⟩
      go_upto_region 25 with (fail)
      have HYN : Hid (y.C.n = x.C.n) := Lib.hid (twin_ncon hE hy HX.out)
      have HE := Lib.hid hE
      have HS : Hid (LSt w x #[.string ⟨#[]⟩, .int .i64 0, .slice none 0 0, .slice none 0 0, .slice none 0 0, .slice none 0 0, .slice none 0 0, .slice none 0 0] y w8.heap.size (w8.alloc (.cells #[.string y.name, .int .i64 y.ver, .slice y.U.A y.U.n y.U.c, .slice y.C.A y.C.n y.C.c, .slice y.N.A y.N.n y.N.c, .slice y.Q.A y.Q.n y.Q.c, .slice y.E.A y.E.n y.E.c, .slice y.T.A y.T.n y.T.c] 29))) := Lib.hid (⟨(HQ1.out.after hb8).after (below_of_alloc _), Blk.new _ _ _, (TwinOwn.lower hO (w := w) (HQ1.out.bel.size)).after (below_of_alloc _), langK.mono (langK.below hy (below_of_alloc _)) (Nat.le_refl _) (below_of_alloc _).size⟩)
      have HSd : Hid (LSt w x #[.string ⟨#[]⟩, .int .i64 0, .slice none 0 0, .slice none 0 0, .slice none 0 0, .slice none 0 0, .slice none 0 0, .slice none 0 0] y w8.heap.size (w8.alloc (.cells #[.string y.name, .int .i64 y.ver, .slice y.U.A y.U.n y.U.c, .slice y.C.A y.C.n y.C.c, .slice y.N.A y.N.n y.N.c, .slice y.Q.A y.Q.n y.Q.c, .slice y.E.A y.E.n y.E.c, .slice y.T.A y.T.n y.T.c] 29)).drew) := Lib.hid (HS.out.after (drew1_below _))
      have HGX : Hid (w.heap.size + 1 < w8.heap.size) := Lib.hid ((HQ1.out.after hb8).size)
      have hin : i < y.C.n := by rw [HYN.out]; exact hi9
      clear hy hE hb8 hO
      have HOe : Hid ((w8.alloc (.cells #[.string y.name, .int .i64 y.ver, .slice y.U.A y.U.n y.U.c, .slice y.C.A y.C.n y.C.c, .slice y.N.A y.N.n y.N.c, .slice y.Q.A y.Q.n y.Q.c, .slice y.E.A y.E.n y.E.c, .slice y.T.A y.T.n y.T.c] 29)).drew.ownsRow (w.heap.size + 2) 47 6 (.slice y.C.A y.C.n y.C.c) y.C.n (y.cs.flatMap conC)) := Lib.hid (own_len HSd.out.o.c.own HSd.out.l.c.n)
      obtain ⟨gb, hA⟩ := own_some HOe.out (Nat.lt_of_le_of_lt (Nat.zero_le _) hin)
      replace HOe := Lib.hid (own_addr HOe.out hA)
      have hyn := HS.out.l.c.n
      obtain ⟨q, hq⟩ : ∃ q, y.cs[i]? = some q := ⟨y.cs[i]'(by omega), List.getElem?_eq_getElem _⟩
      have HPQ := Lib.hid hq
      have HA := Lib.hid hA
      have hcm := (own_row HOe.out).2.2.1
      unfold maxLen at hcm
      have hyl : y.C.n ≤ 1200 := by rw [HYN.out]; exact hle
      have hqs := con_le HFG.out HE.out (List.mem_of_getElem? hq)
      have HOc := Lib.hid (HSd.out.o.c.leaf q (List.mem_of_getElem? hq))
      have HFw := Lib.hid (fewer_any _ (w.heap.size + 2) q part HOc.out (by have := HSd.out.q.size; omega) hqs.1 hqs.2.1 hqs.2.2)
      have HRc : Hid (∀ Y, Blk Y w8.heap.size 29 #[.string y.name, .int .i64 y.ver, .slice y.U.A y.U.n y.U.c, .slice y.C.A y.C.n y.C.c, .slice y.N.A y.N.n y.N.c, .slice y.Q.A y.Q.n y.Q.c, .slice y.E.A y.E.n y.E.c, .slice y.T.A y.T.n y.T.c] → Y.ownsRow (w.heap.size + 2) 47 6 (.slice (some ⟨gb, 0, none⟩) y.C.n y.C.c) y.C.n (y.cs.flatMap conC) → (Y.cell? ⟨w8.heap.size, 3, none⟩ = some (.slice (some ⟨gb, 0, none⟩) y.C.n y.C.c) ∧ Y.cell? ⟨gb, i * 6, none⟩ = some (.string q.1.name) ∧ Y.cell? ⟨gb, i * 6 + 1, none⟩ = some (.string q.1.super) ∧ Y.cell? ⟨gb, i * 6 + 2, none⟩ = some (.bool q.1.abs) ∧ Y.cell? ⟨gb, i * 6 + 3, none⟩ = some (.slice q.2.p.A q.2.p.n q.2.p.c) ∧ Y.cell? ⟨gb, i * 6 + 4, none⟩ = some (.slice q.2.k.A q.2.k.n q.2.k.c) ∧ Y.cell? ⟨gb, i * 6 + 5, none⟩ = some (.slice q.2.r.A q.2.r.n q.2.r.c))) := Lib.hid fun Y h2 h3 => ⟨(h2.cell 3).trans (by rw [← HA.out]; rfl), (World.ownsRow.cellAt h3 (i * 6) (by omega)).trans ((flatN_get (f := conC) (s := 6) (fun _ => rfl) y.cs i q HPQ.out 0 (by omega)).trans rfl), (World.ownsRow.cellAt h3 (i * 6 + 1) (by omega)).trans ((flatN_get (f := conC) (s := 6) (fun _ => rfl) y.cs i q HPQ.out 1 (by omega)).trans rfl), (World.ownsRow.cellAt h3 (i * 6 + 2) (by omega)).trans ((flatN_get (f := conC) (s := 6) (fun _ => rfl) y.cs i q HPQ.out 2 (by omega)).trans rfl), (World.ownsRow.cellAt h3 (i * 6 + 3) (by omega)).trans ((flatN_get (f := conC) (s := 6) (fun _ => rfl) y.cs i q HPQ.out 3 (by omega)).trans rfl), (World.ownsRow.cellAt h3 (i * 6 + 4) (by omega)).trans ((flatN_get (f := conC) (s := 6) (fun _ => rfl) y.cs i q HPQ.out 4 (by omega)).trans rfl), (World.ownsRow.cellAt h3 (i * 6 + 5) (by omega)).trans ((flatN_get (f := conC) (s := 6) (fun _ => rfl) y.cs i q HPQ.out 5 (by omega)).trans rfl)⟩
      have hb2 : (0 : Int) ≤ (i : Int) ∧ (i : Int) < (y.C.n : Int) := by omega
      clear hyn hq hA hqs
      refine wp_region_held_tail 10 (fun Y => Y.cell? ⟨w8.heap.size, 3, none⟩ = some (.slice (some ⟨gb, 0, none⟩) y.C.n y.C.c) ∧ Y.cell? ⟨gb, i * 6, none⟩ = some (.string q.1.name) ∧ Y.cell? ⟨gb, i * 6 + 1, none⟩ = some (.string q.1.super) ∧ Y.cell? ⟨gb, i * 6 + 2, none⟩ = some (.bool q.1.abs) ∧ Y.cell? ⟨gb, i * 6 + 3, none⟩ = some (.slice q.2.p.A q.2.p.n q.2.p.c) ∧ Y.cell? ⟨gb, i * 6 + 4, none⟩ = some (.slice q.2.k.A q.2.k.n q.2.k.c) ∧ Y.cell? ⟨gb, i * 6 + 5, none⟩ = some (.slice q.2.r.A q.2.r.n q.2.r.c)) (by kernel_rfl) (by kernel_rfl) ?hSv6 (fun hHeld => ?qv06)
      case hSv6 => exact HRc.out _ HSd.out.bx HOe.out
      case qv06 =>
        simp only [List.take_succ_cons, List.take_zero, List.drop_succ_cons, List.drop_zero]
        refine wpAnyH_take (i := 0) (v := (.pointer (some ⟨w8.heap.size, 3, none⟩))) rfl (by kernel_rfl) (by kernel_rfl) (by kernel_rfl) (fun _ _ _ h => h) (Or.inl ⟨by rfl, ?yv6_1⟩) (by assumption) ?qv6_1
        case yv6_1 => (intro w hSw; (try dsimp only at hSw); go_simp)
        case qv6_1 =>
          (try simp only [Act.put]); (try simp only [List.setIfInBounds_toArray])
          refine wpAnyH_take (i := 1) (v := (.slice (some ⟨gb, 0, none⟩) y.C.n y.C.c)) rfl (by kernel_rfl) (by kernel_rfl) (by kernel_rfl) (fun _ _ _ h => h) (Or.inl ⟨by rfl, ?yv6_2⟩) (by assumption) ?qv6_2
          case yv6_2 => (intro w hSw; (try dsimp only at hSw); go_simp)
          case qv6_2 =>
            (try simp only [Act.put]); (try simp only [List.setIfInBounds_toArray])
            refine wpAnyH_take (i := 2) (v := (.int .i64 i)) rfl (by kernel_rfl) (by kernel_rfl) (by kernel_rfl) (fun _ _ _ h => h) (Or.inl ⟨by rfl, ?yv6_3⟩) (by assumption) ?qv6_3
            case yv6_3 => (intro w hSw; (try dsimp only at hSw); go_simp)
            case qv6_3 =>
              (try simp only [Act.put]); (try simp only [List.setIfInBounds_toArray])
              refine wpAnyH_take (i := 3) (v := (.pointer (some ⟨w8.heap.size, 3, none⟩))) rfl (by kernel_rfl) (by kernel_rfl) (by kernel_rfl) (fun _ _ _ h => h) (Or.inl ⟨by rfl, ?yv6_4⟩) (by assumption) ?qv6_4
              case yv6_4 => (intro w hSw; (try dsimp only at hSw); go_simp)
              case qv6_4 =>
                (try simp only [Act.put]); (try simp only [List.setIfInBounds_toArray])
                refine wpAnyH_take (i := 4) (v := (.slice (some ⟨gb, 0, none⟩) y.C.n y.C.c)) rfl (by kernel_rfl) (by kernel_rfl) (by kernel_rfl) (fun _ _ _ h => h) (Or.inl ⟨by rfl, ?yv6_5⟩) (by assumption) ?qv6_5
                case yv6_5 => (intro w hSw; (try dsimp only at hSw); go_simp)
                case qv6_5 =>
                  (try simp only [Act.put]); (try simp only [List.setIfInBounds_toArray])
                  refine wpAnyH_take (i := 5) (v := (.int .i64 i)) rfl (by kernel_rfl) (by kernel_rfl) (by kernel_rfl) (fun _ _ _ h => h) (Or.inl ⟨by rfl, ?yv6_6⟩) (by assumption) ?qv6_6
                  case yv6_6 => (intro w hSw; (try dsimp only at hSw); go_simp)
                  case qv6_6 =>
                    (try simp only [Act.put]); (try simp only [List.setIfInBounds_toArray])
                    refine wpAnyH_take (i := 6) (v := (.pointer (some ⟨gb, i * 6, none⟩))) rfl (by kernel_rfl) (by kernel_rfl) (by kernel_rfl) (fun _ _ _ h => h) (Or.inl ⟨by rfl, ?yv6_7⟩) (by assumption) ?qv6_7
                    case yv6_7 => (intro w hSw; (try dsimp only at hSw); go_simp)
                    case qv6_7 =>
                      (try simp only [Act.put]); (try simp only [List.setIfInBounds_toArray])
                      refine wpAnyH_take (i := 7) (v := (.agg #[.string q.1.name, .string q.1.super, .bool q.1.abs, .slice q.2.p.A q.2.p.n q.2.p.c, .slice q.2.k.A q.2.k.n q.2.k.c, .slice q.2.r.A q.2.r.n q.2.r.c])) rfl (by kernel_rfl) (by kernel_rfl) (by kernel_rfl) (fun _ _ _ h => h) (Or.inl ⟨by rfl, ?yv6_8⟩) (by assumption) ?qv6_8
                      case yv6_8 => (intro w hSw; (try dsimp only at hSw); go_simp)
                      case qv6_8 =>
                        (try simp only [Act.put]); (try simp only [List.setIfInBounds_toArray])
                        refine wpAnyH_take (i := 8) (v := (.int .i64 part)) rfl (by kernel_rfl) (by kernel_rfl) (by kernel_rfl) (fun _ _ _ h => h) (Or.inl ⟨by rfl, ?yv6_9⟩) (by assumption) ?qv6_9
                        case yv6_9 => (intro w hSw; (try dsimp only at hSw); go_simp)
                        case qv6_9 =>
                          (try simp only [Act.put]); (try simp only [List.setIfInBounds_toArray])
                          refine wpAnyH_ready (rs := [9]) (by kernel_rfl) (by simp) ?_
                          refine AllReadyH.cons rfl (fun K hK => ?sv6_10) ?mv6_10
                          case sv6_10 =>
                            (refine step_call _ (by rfl) 26 #[.agg #[.string q.1.name, .string q.1.super, .bool q.1.abs, .slice q.2.p.A q.2.p.n q.2.p.c, .slice q.2.k.A q.2.k.n q.2.k.c, .slice q.2.r.A q.2.r.n q.2.r.c], .int .i64 part] (by go_simp) HFw.out ?_; rintro e Yn ⟨q', rfl, ho', hf', vq, hvq, hgq⟩; refine ⟨_, rfl, ?_⟩; have HF' := Lib.hid hf'; have HEN : Hid (LEnd w x #[.string ⟨#[]⟩, .int .i64 0, .slice none 0 0, .slice none 0 0, .slice none 0 0, .slice none 0 0, .slice none 0 0, .slice none 0 0] ({ y with cs := y.cs.set i q' }) w8.heap.size (Yn.setCells gb (i * 6) (#[.string q'.1.name, .string q'.1.super, .bool q'.1.abs, .slice q'.2.p.A q'.2.p.n q'.2.p.c, .slice q'.2.k.A q'.2.k.n q'.2.k.c, .slice q'.2.r.A q'.2.r.n q'.2.r.c] : Array Value).toList)) := Lib.hid (part_con HSd.out HGX.out HPQ.out HA.out ho' hvq hgq); have HRn : Hid (Yn.ownsRow (w.heap.size + 2) 47 6 (.slice (some ⟨gb, 0, none⟩) y.C.n y.C.c) y.C.n (y.cs.flatMap conC)) := Lib.hid (by obtain ⟨T', sq, nq, xq, hT, hoq⟩ := part_row HOc.out hvq; exact own_kept HOe.out hoq (by rcases hT with rfl | rfl | rfl <;> decide) hgq); have HKp := Lib.hid (HRc.out _ (by obtain ⟨T', sq, nq, xq, hT, hoq⟩ := part_row HOc.out hvq; exact HSd.out.bx.grown hgq (Ne.symm (own_blk_ne hoq HSd.out.bx (by rcases hT with rfl | rfl | rfl <;> decide)))) HRn.out); clear ho' hf' hvq hgq)
                            refine hK.out _ _ ?kv6_10 (fun hHeld => ?qv6_10)
                            case kv6_10 => ((try dsimp only); exact HKp.out)
                            case qv6_10 =>
                              clear hK K
                              (try simp only [Act.put]); (try simp only [List.setIfInBounds_toArray])
                              refine wpAnyH_done (by kernel_rfl) ?_ _
                              clear hHeld
                              have HSB := Lib.hid HEN.out.q.b
                              have e0 := (HEN.out.bx.cell 0).trans (show _ = some (.string y.name) from rfl)
                              have e1 := (HEN.out.bx.cell 1).trans (show _ = some (.int .i64 y.ver) from rfl)
                              have e2 := (HEN.out.bx.cell 2).trans (show _ = some (.slice y.U.A y.U.n y.U.c) from rfl)
                              have e3 := (HEN.out.bx.cell 3).trans (show _ = some (.slice y.C.A y.C.n y.C.c) from rfl)
                              have e4 := (HEN.out.bx.cell 4).trans (show _ = some (.slice y.N.A y.N.n y.N.c) from rfl)
                              have e5 := (HEN.out.bx.cell 5).trans (show _ = some (.slice y.Q.A y.Q.n y.Q.c) from rfl)
                              have e6 := (HEN.out.bx.cell 6).trans (show _ = some (.slice y.E.A y.E.n y.E.c) from rfl)
                              have e7 := (HEN.out.bx.cell 7).trans (show _ = some (.slice y.T.A y.T.n y.T.c) from rfl)
                              show wpList _ _ _ _ _ _
                              go_wp2_with (first | ((with_reducible show wpList _ _ _ (Oper.mk _ (Op.store 47 _ _) _ _ _ _ :: _) _ _); go_must (refine wpList_store_mid rfl _ _ _ rfl gb (i * 6) #[.string q'.1.name, .string q'.1.super, .bool q'.1.abs, .slice q'.2.p.A q'.2.p.n q'.2.p.c, .slice q'.2.k.A q'.2.k.n q'.2.k.c, .slice q'.2.r.A q'.2.r.n q'.2.r.c] (by first | rfl | go_simp) rfl (own_thereN HRn.out hin) infoConF con_oneF ?_)) | ((with_reducible show wpList _ _ _ (Oper.mk _ (Op.store 29 _ _) _ _ _ _ :: _) _ _); go_must (refine wpList_store_row rfl _ _ _ rfl (w.heap.size + 1) _ rfl rfl 29 _ HSB.out infoLangS rfl lang_oneA ?_)))
                              have hres : Tryz.f8.results = #[.cell 8 29, .tmp 9] := by kernel_rfl
                              (try rw [Exit.noGoto_ret])
                              (try simp only [Exit.inBlock, Exit.then])
                              refine bodyPost_ret (results_rowL hres _ _ (w.heap.size + 1) _ rfl (load_langS (setRow_heap _ _ _ _ _ _ HSB.out))) rfl ?_
                              exact less_some (y := { y with cs := y.cs.set i q' }) HEN.out (lessp_con HX.out HSd.out.l HFX.out HE.out HPQ.out HF'.out)
                          case mv6_10 =>
                            exact AllReadyH.nil
  · have n9 := (HS9.out.cell 7).trans (show _ = some (.int .i64 x.E.n) from rfl)
    by_cases hn : x.E.n = 0
    · have d0 : ((x.E.n : Int) == 0) = true := by rw [hn]; rfl
      clear hn
      have a0 := (HQ1.out.a.cell 0).trans (show _ = some (.string x.name) from rfl)
      have a1 := (HQ1.out.a.cell 1).trans (show _ = some (.int .i64 x.ver) from rfl)
      have a2 := (HQ1.out.a.cell 2).trans (show _ = some (.slice x.U.A x.U.n x.U.c) from rfl)
      have a3 := (HQ1.out.a.cell 3).trans (show _ = some (.slice x.C.A x.C.n x.C.c) from rfl)
      have a4 := (HQ1.out.a.cell 4).trans (show _ = some (.slice x.N.A x.N.n x.N.c) from rfl)
      have a5 := (HQ1.out.a.cell 5).trans (show _ = some (.slice x.Q.A x.Q.n x.Q.c) from rfl)
      have a6 := (HQ1.out.a.cell 6).trans (show _ = some (.slice x.E.A x.E.n x.E.c) from rfl)
      have a7 := (HQ1.out.a.cell 7).trans (show _ = some (.slice x.T.A x.T.n x.T.c) from rfl)
      have HSB := Lib.hid HQ1.out.b
      go_wp2_with ((with_reducible show wpList _ _ _ (Oper.mk _ (Op.store 29 _ _) _ _ _ _ :: _) _ _); go_must (refine wpList_store_row rfl _ _ _ rfl (w.heap.size + 1) _ rfl rfl 29 _ HSB.out infoLangS rfl lang_oneA ?_))
      have hres : Tryz.f8.results = #[.cell 8 29, .tmp 9] := by kernel_rfl
      (try rw [Exit.noGoto_ret])
      (try simp only [Exit.inBlock, Exit.then])
      refine bodyPost_ret (results_rowL hres _ _ (w.heap.size + 1) _ rfl (load_langS (setRow_heap _ _ _ _ _ _ HSB.out))) rfl ?_
      exact less_none HX.out hh HFX.out (below_setRow HQ1.out.bel (by omega) _)
    · have d0 : ((x.E.n : Int) == 0) = false := by rw [beq_eq_false_iff_ne]; omega
      have hpos : 0 < x.E.n := by omega
      have hle : x.E.n ≤ 1200 := by have h1 := HFG.out.n; have h2 : x.E.n = x.es.length := HX.out.e.n; omega
      clear hn
      go_wp2_with fail
      refine (HRk.out _ _ hpos (by omega)).mono ?_
      rintro e w6 ⟨rfl, rfl⟩
      have hi9 := restV_lt at_ hpos
      generalize restV at_ x.E.n = i at hi9 ⊢
      have a0 := (HQ1.out.a.cell 0).trans (show _ = some (.string x.name) from rfl)
      have a1 := (HQ1.out.a.cell 1).trans (show _ = some (.int .i64 x.ver) from rfl)
      have a2 := (HQ1.out.a.cell 2).trans (show _ = some (.slice x.U.A x.U.n x.U.c) from rfl)
      have a3 := (HQ1.out.a.cell 3).trans (show _ = some (.slice x.C.A x.C.n x.C.c) from rfl)
      have a4 := (HQ1.out.a.cell 4).trans (show _ = some (.slice x.N.A x.N.n x.N.c) from rfl)
      have a5 := (HQ1.out.a.cell 5).trans (show _ = some (.slice x.Q.A x.Q.n x.Q.c) from rfl)
      have a6 := (HQ1.out.a.cell 6).trans (show _ = some (.slice x.E.A x.E.n x.E.c) from rfl)
      have a7 := (HQ1.out.a.cell 7).trans (show _ = some (.slice x.T.A x.T.n x.T.c) from rfl)
      go_wp2_with fail
      clear a0 a1 a2 a3 a4 a5 a6 a7 d0 n9
      refine (HTw.out _ HQ1.out.bel).mono ?_
      rintro e w8 ⟨y, rfl, hy, hE, hb8, hO⟩
      have HYN : Hid (y.E.n = x.E.n) := Lib.hid (twin_ned hE hy HX.out)
      have HE := Lib.hid hE
      have HS : Hid (LSt w x #[.string ⟨#[]⟩, .int .i64 0, .slice none 0 0, .slice none 0 0, .slice none 0 0, .slice none 0 0, .slice none 0 0, .slice none 0 0] y w8.heap.size (w8.alloc (.cells #[.string y.name, .int .i64 y.ver, .slice y.U.A y.U.n y.U.c, .slice y.C.A y.C.n y.C.c, .slice y.N.A y.N.n y.N.c, .slice y.Q.A y.Q.n y.Q.c, .slice y.E.A y.E.n y.E.c, .slice y.T.A y.T.n y.T.c] 29))) := Lib.hid (⟨(HQ1.out.after hb8).after (below_of_alloc _), Blk.new _ _ _, (TwinOwn.lower hO (w := w) (HQ1.out.bel.size)).after (below_of_alloc _), langK.mono (langK.below hy (below_of_alloc _)) (Nat.le_refl _) (below_of_alloc _).size⟩)
      have HSd : Hid (LSt w x #[.string ⟨#[]⟩, .int .i64 0, .slice none 0 0, .slice none 0 0, .slice none 0 0, .slice none 0 0, .slice none 0 0, .slice none 0 0] y w8.heap.size (w8.alloc (.cells #[.string y.name, .int .i64 y.ver, .slice y.U.A y.U.n y.U.c, .slice y.C.A y.C.n y.C.c, .slice y.N.A y.N.n y.N.c, .slice y.Q.A y.Q.n y.Q.c, .slice y.E.A y.E.n y.E.c, .slice y.T.A y.T.n y.T.c] 29)).drew) := Lib.hid (HS.out.after (drew1_below _))
      have HGX : Hid (w.heap.size + 1 < w8.heap.size) := Lib.hid ((HQ1.out.after hb8).size)
      have hin : i < y.E.n := by rw [HYN.out]; exact hi9
      clear hy hE hb8 hO
      have HOe : Hid ((w8.alloc (.cells #[.string y.name, .int .i64 y.ver, .slice y.U.A y.U.n y.U.c, .slice y.C.A y.C.n y.C.c, .slice y.N.A y.N.n y.N.c, .slice y.Q.A y.Q.n y.Q.c, .slice y.E.A y.E.n y.E.c, .slice y.T.A y.T.n y.T.c] 29)).drew.ownsRow (w.heap.size + 2) 55 2 (.slice y.E.A y.E.n y.E.c) y.E.n (y.es.flatMap rowC)) := Lib.hid (own_len HSd.out.o.e.own HSd.out.l.e.n)
      obtain ⟨gb, hA⟩ := own_some HOe.out (Nat.lt_of_le_of_lt (Nat.zero_le _) hin)
      replace HOe := Lib.hid (own_addr HOe.out hA)
      have hyn := HS.out.l.e.n
      obtain ⟨q, hq⟩ : ∃ q, y.es[i]? = some q := ⟨y.es[i]'(by omega), List.getElem?_eq_getElem _⟩
      have HPQ := Lib.hid hq
      have HA := Lib.hid hA
      have hcm := (own_row HOe.out).2.2.1
      unfold maxLen at hcm
      have hyl : y.E.n ≤ 1200 := by rw [HYN.out]; exact hle
      have hqn := (HS.out.o.e.leaf q (List.mem_of_getElem? hq)).qn
      have hql := ecells_le HFG.out HE.out (List.mem_of_getElem? hq)
      rw [← hqn] at hql
      have HQN := Lib.hid hqn
      have q1 : (w8.alloc (.cells #[.string y.name, .int .i64 y.ver, .slice y.U.A y.U.n y.U.c, .slice y.C.A y.C.n y.C.c, .slice y.N.A y.N.n y.N.c, .slice y.Q.A y.Q.n y.Q.c, .slice y.E.A y.E.n y.E.c, .slice y.T.A y.T.n y.T.c] 29)).cell? ⟨gb, i * 2 + 1, none⟩ = some (.slice q.2.A q.2.n q.2.c) := (World.ownsRow.cellAt HOe.out (i * 2 + 1) (by omega)).trans ((flatN_get (f := rowC) (s := 2) (fun _ => rfl) y.es i q hq 1 (by omega)).trans rfl)
      have c6 : (w8.alloc (.cells #[.string y.name, .int .i64 y.ver, .slice y.U.A y.U.n y.U.c, .slice y.C.A y.C.n y.C.c, .slice y.N.A y.N.n y.N.c, .slice y.Q.A y.Q.n y.Q.c, .slice y.E.A y.E.n y.E.c, .slice y.T.A y.T.n y.T.c] 29)).cell? ⟨w8.heap.size, 6, none⟩ = some (.slice (some ⟨gb, 0, none⟩) y.E.n y.E.c) := (HS.out.bx.cell 6).trans (by rw [← hA]; rfl)
      have HOq : Hid ((w8.alloc (.cells #[.string y.name, .int .i64 y.ver, .slice y.U.A y.U.n y.U.c, .slice y.C.A y.C.n y.C.c, .slice y.N.A y.N.n y.N.c, .slice y.Q.A y.Q.n y.Q.c, .slice y.E.A y.E.n y.E.c, .slice y.T.A y.T.n y.T.c] 29)).drew.ownsRow (w.heap.size + 2) 74 3 (.slice q.2.A q.2.n q.2.c) q.2.n (q.1.cells.flatMap ceC)) := Lib.hid ((HSd.out.o.e.leaf q (List.mem_of_getElem? hq)).q)
      clear hyn hqn hq hA
      have hw1 : IntKind.i64.wrap ((q.2.n : Int) + 1) = (q.2.n : Int) + 1 := IntWalk.i64_in _ (by omega)
      by_cases hz : 0 < q.2.n
      · obtain ⟨gq, hAq⟩ := own_some HOq.out hz
        replace HOq := Lib.hid (own_addr HOq.out hAq)
        rw [hAq] at q1
        have HAq := Lib.hid hAq
        have hnq := (own_row HOq.out).2.1
        have hmq := (own_row HOq.out).2.2.1
        unfold maxLen at hmq
        clear hAq hz
        go_wp2_with fail
        refine (HRp.out _ q.2.n hql).mono ?_
        rintro e w10 ⟨rfl, rfl⟩
        have hm := restV_lt part (n := q.2.n + 1) (by omega)
        generalize restV part (q.2.n + 1) = m at hm ⊢
        by_cases hlt : m < q.2.n
        · clear hw1 hm
          go_upto_region 30 with (fail)
          clear c6 q1
          have hw2 : IntKind.i64.wrap ((m : Int) + 1) = (m : Int) + 1 := IntWalk.i64_in _ (by omega)
          have hic : m ≤ q.2.c := by omega
          have hb1 : (0 : Int) ≤ (m : Int) + 1 ∧ (m : Int) + 1 ≤ (q.2.n : Int) := by omega
          have hb2 : (0 : Int) ≤ (i : Int) ∧ (i : Int) < (y.E.n : Int) := by omega
          obtain ⟨p, hp1, hp2⟩ := behind_at gq q.2.n q.2.c m 3 hnq hlt
          have HP2 := Lib.hid hp2
          have HLM : Hid (q.2.n - 1 = (q.1.cells.eraseIdx m).length) := Lib.hid (by rw [List.length_eraseIdx_of_lt (by have := HQN.out; omega)]; have := HQN.out; omega)
          obtain ⟨i1, hi1, hz1, hs1, hbb1⟩ := info_parts info_ce
          clear hp2
          have HSo : Hid (∀ Y, Blk Y w8.heap.size 29 #[.string y.name, .int .i64 y.ver, .slice y.U.A y.U.n y.U.c, .slice y.C.A y.C.n y.C.c, .slice y.N.A y.N.n y.N.c, .slice y.Q.A y.Q.n y.Q.c, .slice y.E.A y.E.n y.E.c, .slice y.T.A y.T.n y.T.c] → (Y.cell? ⟨w8.heap.size, 6, none⟩ = some (.slice (some ⟨gb, 0, none⟩) y.E.n y.E.c))) := Lib.hid fun Y h2 => (h2.cell 6).trans (by rw [← HA.out]; rfl)
          refine wp_region_held_tail 11 (fun Y => Y.cell? ⟨w8.heap.size, 6, none⟩ = some (.slice (some ⟨gb, 0, none⟩) y.E.n y.E.c)) (by kernel_rfl) (by kernel_rfl) ?hSv7 (fun hHeld => ?qv07)
          case hSv7 => exact HSo.out _ HSd.out.bx
          case qv07 =>
            simp only [List.take_succ_cons, List.take_zero, List.drop_succ_cons, List.drop_zero]
            refine wpAnyH_take (i := 0) (v := (.pointer (some ⟨w8.heap.size, 6, none⟩))) rfl (by kernel_rfl) (by kernel_rfl) (by kernel_rfl) (fun _ _ _ h => h) (Or.inl ⟨by rfl, ?yv7_1⟩) (by assumption) ?qv7_1
            case yv7_1 => (intro w hSw; (try dsimp only at hSw); go_simp)
            case qv7_1 =>
              (try simp only [Act.put]); (try simp only [List.setIfInBounds_toArray])
              refine wpAnyH_take (i := 1) (v := (.slice (some ⟨gb, 0, none⟩) y.E.n y.E.c)) rfl (by kernel_rfl) (by kernel_rfl) (by kernel_rfl) (fun _ _ _ h => h) (Or.inl ⟨by rfl, ?yv7_2⟩) (by assumption) ?qv7_2
              case yv7_2 => (intro w hSw; (try dsimp only at hSw); go_simp)
              case qv7_2 =>
                (try simp only [Act.put]); (try simp only [List.setIfInBounds_toArray])
                refine wpAnyH_take (i := 2) (v := (.int .i64 i)) rfl (by kernel_rfl) (by kernel_rfl) (by kernel_rfl) (fun _ _ _ h => h) (Or.inl ⟨by rfl, ?yv7_3⟩) (by assumption) ?qv7_3
                case yv7_3 => (intro w hSw; (try dsimp only at hSw); go_simp)
                case qv7_3 =>
                  (try simp only [Act.put]); (try simp only [List.setIfInBounds_toArray])
                  refine wpAnyH_take (i := 3) (v := (.slice (some ⟨gq, 0, none⟩) q.2.n q.2.c)) rfl (by kernel_rfl) (by kernel_rfl) (by kernel_rfl) (fun _ _ _ h => h) (Or.inl ⟨by rfl, ?yv7_4⟩) (by assumption) ?qv7_4
                  case yv7_4 => (intro w hSw; (try dsimp only at hSw); go_simp)
                  case qv7_4 =>
                    (try simp only [Act.put]); (try simp only [List.setIfInBounds_toArray])
                    refine wpAnyH_take (i := 4) (v := (.int .i64 m)) rfl (by kernel_rfl) (by kernel_rfl) (by kernel_rfl) (fun _ _ _ h => h) (Or.inl ⟨by rfl, ?yv7_5⟩) (by assumption) ?qv7_5
                    case yv7_5 => (intro w hSw; (try dsimp only at hSw); go_simp)
                    case qv7_5 =>
                      (try simp only [Act.put]); (try simp only [List.setIfInBounds_toArray])
                      refine wpAnyH_take (i := 5) (v := (.slice (some ⟨gq, 0, none⟩) m q.2.c)) rfl (by kernel_rfl) (by kernel_rfl) (by kernel_rfl) (fun _ _ _ h => h) (Or.inl ⟨by rfl, ?yv7_6⟩) (by assumption) ?qv7_6
                      case yv7_6 => (intro w hSw; (try dsimp only at hSw); go_simp)
                      case qv7_6 =>
                        (try simp only [Act.put]); (try simp only [List.setIfInBounds_toArray])
                        refine wpAnyH_take (i := 6) (v := (.slice (some ⟨gq, 0, none⟩) q.2.n q.2.c)) rfl (by kernel_rfl) (by kernel_rfl) (by kernel_rfl) (fun _ _ _ h => h) (Or.inl ⟨by rfl, ?yv7_7⟩) (by assumption) ?qv7_7
                        case yv7_7 => (intro w hSw; (try dsimp only at hSw); go_simp)
                        case qv7_7 =>
                          (try simp only [Act.put]); (try simp only [List.setIfInBounds_toArray])
                          refine wpAnyH_take (i := 7) (v := (.int .i64 m)) rfl (by kernel_rfl) (by kernel_rfl) (by kernel_rfl) (fun _ _ _ h => h) (Or.inl ⟨by rfl, ?yv7_8⟩) (by assumption) ?qv7_8
                          case yv7_8 => (intro w hSw; (try dsimp only at hSw); go_simp)
                          case qv7_8 =>
                            (try simp only [Act.put]); (try simp only [List.setIfInBounds_toArray])
                            refine wpAnyH_take (i := 8) (v := (.int .i64 ((m : Int) + 1))) rfl (by kernel_rfl) (by kernel_rfl) (by kernel_rfl) (fun _ _ _ h => h) (Or.inl ⟨by rfl, ?yv7_9⟩) (by assumption) ?qv7_9
                            case yv7_9 => (intro w hSw; (try dsimp only at hSw); go_simp)
                            case qv7_9 =>
                              (try simp only [Act.put]); (try simp only [List.setIfInBounds_toArray])
                              refine wpAnyH_take (i := 9) (v := (.slice (some ⟨gq, p, none⟩) (q.2.n - (m + 1)) (q.2.c - (m + 1)))) rfl (by kernel_rfl) (by kernel_rfl) (by kernel_rfl) (fun _ _ _ h => h) (Or.inl ⟨by rfl, ?yv7_10⟩) (by assumption) ?qv7_10
                              case yv7_10 => (intro w hSw; (try dsimp only at hSw); go_simp)
                              case qv7_10 =>
                                (try simp only [Act.put]); (try simp only [List.setIfInBounds_toArray])
                                refine wpAnyH_ready (rs := [10]) (by kernel_rfl) (by simp) ?_
                                refine AllReadyH.cons rfl (fun K hK => ?sv7_11) ?mv7_11
                                case sv7_11 =>
                                  (refine step_cut (C := ceC) (s := 3) (fun _ => rfl) (one_of one_ceC) (by rfl) (.tmp 202) (.tmp 206) _ (by rfl) (w.heap.size + 2) 74 i1 _ 40 Tryz.underlying53 hi1 hz1 hs1 hbb1 rfl (by decide) (by decide) HOq.out (by omega) m p hlt HP2.out (by go_simp) (by go_simp) (by have := HSd.out.q.size; omega) ?_; intro A' c' Yn hownN hgrN; have HG : Hid (World.grownBy _ Yn (Value.ownBlock (.slice q.2.A q.2.n q.2.c))) := Lib.hid (by rw [HAq.out]; exact hgrN); have HEN := Lib.hid (part_ed HSd.out HGX.out HPQ.out HA.out HLM.out hownN HG.out); have HKp := Lib.hid (HSo.out _ (HSd.out.bx.grown hgrN (Ne.symm (own_blk_ne HOq.out HSd.out.bx (by decide))))); have HRn := Lib.hid (own_kept HOe.out HOq.out (by decide) hgrN); clear hownN hgrN)
                                  refine hK.out _ _ ?kv7_11 (fun hHeld => ?qv7_11)
                                  case kv7_11 => ((try dsimp only); exact HKp.out)
                                  case qv7_11 =>
                                    clear hK K
                                    (try simp only [Act.put]); (try simp only [List.setIfInBounds_toArray])
                                    refine wpAnyH_done (by kernel_rfl) ?_ _
                                    clear hHeld hp1
                                    have s1 := (World.ownsRow.cellAt HRn.out (i * 2 + 1) (by omega)).trans ((flatN_get (f := rowC) (s := 2) (fun _ => rfl) y.es i q HPQ.out 1 (by omega)).trans (show _ = some (.slice q.2.A q.2.n q.2.c) from rfl))
                                    have s2 := World.ownsRow.frozenAt HRn.out (i * 2 + 1)
                                    have HSB := Lib.hid HEN.out.q.b
                                    have e0 := (HEN.out.bx.cell 0).trans (show _ = some (.string y.name) from rfl)
                                    have e1 := (HEN.out.bx.cell 1).trans (show _ = some (.int .i64 y.ver) from rfl)
                                    have e2 := (HEN.out.bx.cell 2).trans (show _ = some (.slice y.U.A y.U.n y.U.c) from rfl)
                                    have e3 := (HEN.out.bx.cell 3).trans (show _ = some (.slice y.C.A y.C.n y.C.c) from rfl)
                                    have e4 := (HEN.out.bx.cell 4).trans (show _ = some (.slice y.N.A y.N.n y.N.c) from rfl)
                                    have e5 := (HEN.out.bx.cell 5).trans (show _ = some (.slice y.Q.A y.Q.n y.Q.c) from rfl)
                                    have e6 := (HEN.out.bx.cell 6).trans (show _ = some (.slice y.E.A y.E.n y.E.c) from rfl)
                                    have e7 := (HEN.out.bx.cell 7).trans (show _ = some (.slice y.T.A y.T.n y.T.c) from rfl)
                                    show wpList _ _ _ _ _ _
                                    go_wp2_with ((with_reducible show wpList _ _ _ (Oper.mk _ (Op.store 29 _ _) _ _ _ _ :: _) _ _); go_must (refine wpList_store_row rfl _ _ _ rfl (w.heap.size + 1) _ rfl rfl 29 _ HSB.out infoLangS rfl lang_oneA ?_))
                                    have hres : Tryz.f8.results = #[.cell 8 29, .tmp 9] := by kernel_rfl
                                    (try rw [Exit.noGoto_ret])
                                    (try simp only [Exit.inBlock, Exit.then])
                                    refine bodyPost_ret (results_rowL hres _ _ (w.heap.size + 1) _ rfl (load_langS (setRow_heap _ _ _ _ _ _ HSB.out))) rfl ?_
                                    exact less_some (y := ({ y with es := y.es.set i (⟨q.1.con, q.1.cells.eraseIdx m⟩, ⟨A', q.2.n - 1, c'⟩) } : LangM)) HEN.out (lessp_ed HX.out HSd.out.l HFX.out HE.out HPQ.out)
                                case mv7_11 =>
                                  exact AllReadyH.nil
        · have hw3 : ¬ m < q.2.n := hlt
          have HEN := Lib.hid HS.out.whole
          have HSB := Lib.hid HS.out.q.b
          clear c6 q1
          have e0 := (HEN.out.bx.cell 0).trans (show _ = some (.string y.name) from rfl)
          have e1 := (HEN.out.bx.cell 1).trans (show _ = some (.int .i64 y.ver) from rfl)
          have e2 := (HEN.out.bx.cell 2).trans (show _ = some (.slice y.U.A y.U.n y.U.c) from rfl)
          have e3 := (HEN.out.bx.cell 3).trans (show _ = some (.slice y.C.A y.C.n y.C.c) from rfl)
          have e4 := (HEN.out.bx.cell 4).trans (show _ = some (.slice y.N.A y.N.n y.N.c) from rfl)
          have e5 := (HEN.out.bx.cell 5).trans (show _ = some (.slice y.Q.A y.Q.n y.Q.c) from rfl)
          have e6 := (HEN.out.bx.cell 6).trans (show _ = some (.slice y.E.A y.E.n y.E.c) from rfl)
          have e7 := (HEN.out.bx.cell 7).trans (show _ = some (.slice y.T.A y.T.n y.T.c) from rfl)
          go_wp2_with ((with_reducible show wpList _ _ _ (Oper.mk _ (Op.store 29 _ _) _ _ _ _ :: _) _ _); go_must (refine wpList_store_row rfl _ _ _ rfl (w.heap.size + 1) _ rfl rfl 29 _ HSB.out infoLangS rfl lang_oneA ?_))
          have hres : Tryz.f8.results = #[.cell 8 29, .tmp 9] := by kernel_rfl
          (try rw [Exit.noGoto_ret])
          (try simp only [Exit.inBlock, Exit.then])
          refine bodyPost_ret (results_rowL hres _ _ (w.heap.size + 1) _ rfl (load_langS (setRow_heap _ _ _ _ _ _ HSB.out))) rfl ?_
          exact less_some (y := y) HEN.out (less_same HX.out HS.out.l HFX.out HE.out)
      · clear HOq
        go_wp2_with fail
        refine (HRp.out _ q.2.n hql).mono ?_
        rintro e w10 ⟨rfl, rfl⟩
        have hm := restV_lt part (n := q.2.n + 1) (by omega)
        generalize restV part (q.2.n + 1) = m at hm ⊢
        have hw3 : ¬ m < q.2.n := by omega
        have HEN := Lib.hid HS.out.whole
        have HSB := Lib.hid HS.out.q.b
        clear c6 q1
        have e0 := (HEN.out.bx.cell 0).trans (show _ = some (.string y.name) from rfl)
        have e1 := (HEN.out.bx.cell 1).trans (show _ = some (.int .i64 y.ver) from rfl)
        have e2 := (HEN.out.bx.cell 2).trans (show _ = some (.slice y.U.A y.U.n y.U.c) from rfl)
        have e3 := (HEN.out.bx.cell 3).trans (show _ = some (.slice y.C.A y.C.n y.C.c) from rfl)
        have e4 := (HEN.out.bx.cell 4).trans (show _ = some (.slice y.N.A y.N.n y.N.c) from rfl)
        have e5 := (HEN.out.bx.cell 5).trans (show _ = some (.slice y.Q.A y.Q.n y.Q.c) from rfl)
        have e6 := (HEN.out.bx.cell 6).trans (show _ = some (.slice y.E.A y.E.n y.E.c) from rfl)
        have e7 := (HEN.out.bx.cell 7).trans (show _ = some (.slice y.T.A y.T.n y.T.c) from rfl)
        go_wp2_with ((with_reducible show wpList _ _ _ (Oper.mk _ (Op.store 29 _ _) _ _ _ _ :: _) _ _); go_must (refine wpList_store_row rfl _ _ _ rfl (w.heap.size + 1) _ rfl rfl 29 _ HSB.out infoLangS rfl lang_oneA ?_))
        have hres : Tryz.f8.results = #[.cell 8 29, .tmp 9] := by kernel_rfl
        (try rw [Exit.noGoto_ret])
        (try simp only [Exit.inBlock, Exit.then])
        refine bodyPost_ret (results_rowL hres _ _ (w.heap.size + 1) _ rfl (load_langS (setRow_heap _ _ _ _ _ _ HSB.out))) rfl ?_
        exact less_some (y := y) HEN.out (less_same HX.out HS.out.l HFX.out HE.out)
  · have n9 := (HS9.out.cell 8).trans (show _ = some (.int .i64 x.T.n) from rfl)
    by_cases hn : x.T.n = 0
    · have d0 : ((x.T.n : Int) == 0) = true := by rw [hn]; rfl
      clear hn
      have a0 := (HQ1.out.a.cell 0).trans (show _ = some (.string x.name) from rfl)
      have a1 := (HQ1.out.a.cell 1).trans (show _ = some (.int .i64 x.ver) from rfl)
      have a2 := (HQ1.out.a.cell 2).trans (show _ = some (.slice x.U.A x.U.n x.U.c) from rfl)
      have a3 := (HQ1.out.a.cell 3).trans (show _ = some (.slice x.C.A x.C.n x.C.c) from rfl)
      have a4 := (HQ1.out.a.cell 4).trans (show _ = some (.slice x.N.A x.N.n x.N.c) from rfl)
      have a5 := (HQ1.out.a.cell 5).trans (show _ = some (.slice x.Q.A x.Q.n x.Q.c) from rfl)
      have a6 := (HQ1.out.a.cell 6).trans (show _ = some (.slice x.E.A x.E.n x.E.c) from rfl)
      have a7 := (HQ1.out.a.cell 7).trans (show _ = some (.slice x.T.A x.T.n x.T.c) from rfl)
      have HSB := Lib.hid HQ1.out.b
      go_wp2_with ((with_reducible show wpList _ _ _ (Oper.mk _ (Op.store 29 _ _) _ _ _ _ :: _) _ _); go_must (refine wpList_store_row rfl _ _ _ rfl (w.heap.size + 1) _ rfl rfl 29 _ HSB.out infoLangS rfl lang_oneA ?_))
      have hres : Tryz.f8.results = #[.cell 8 29, .tmp 9] := by kernel_rfl
      (try rw [Exit.noGoto_ret])
      (try simp only [Exit.inBlock, Exit.then])
      refine bodyPost_ret (results_rowL hres _ _ (w.heap.size + 1) _ rfl (load_langS (setRow_heap _ _ _ _ _ _ HSB.out))) rfl ?_
      exact less_none HX.out hh HFX.out (below_setRow HQ1.out.bel (by omega) _)
    · have d0 : ((x.T.n : Int) == 0) = false := by rw [beq_eq_false_iff_ne]; omega
      have hpos : 0 < x.T.n := by omega
      have hle : x.T.n ≤ 1200 := by have h1 := HFG.out.n; have h2 : x.T.n = x.ts.length := HX.out.t.n; omega
      clear hn
      go_wp2_with fail
      refine (HRk.out _ _ hpos (by omega)).mono ?_
      rintro e w6 ⟨rfl, rfl⟩
      have hi9 := restV_lt at_ hpos
      generalize restV at_ x.T.n = i at hi9 ⊢
      have a0 := (HQ1.out.a.cell 0).trans (show _ = some (.string x.name) from rfl)
      have a1 := (HQ1.out.a.cell 1).trans (show _ = some (.int .i64 x.ver) from rfl)
      have a2 := (HQ1.out.a.cell 2).trans (show _ = some (.slice x.U.A x.U.n x.U.c) from rfl)
      have a3 := (HQ1.out.a.cell 3).trans (show _ = some (.slice x.C.A x.C.n x.C.c) from rfl)
      have a4 := (HQ1.out.a.cell 4).trans (show _ = some (.slice x.N.A x.N.n x.N.c) from rfl)
      have a5 := (HQ1.out.a.cell 5).trans (show _ = some (.slice x.Q.A x.Q.n x.Q.c) from rfl)
      have a6 := (HQ1.out.a.cell 6).trans (show _ = some (.slice x.E.A x.E.n x.E.c) from rfl)
      have a7 := (HQ1.out.a.cell 7).trans (show _ = some (.slice x.T.A x.T.n x.T.c) from rfl)
      go_wp2_with fail
      clear a0 a1 a2 a3 a4 a5 a6 a7 d0 n9
      refine (HTw.out _ HQ1.out.bel).mono ?_
      rintro e w8 ⟨y, rfl, hy, hE, hb8, hO⟩
      have HYN : Hid (y.T.n = x.T.n) := Lib.hid (twin_nte hE hy HX.out)
      have HE := Lib.hid hE
      have HS : Hid (LSt w x #[.string ⟨#[]⟩, .int .i64 0, .slice none 0 0, .slice none 0 0, .slice none 0 0, .slice none 0 0, .slice none 0 0, .slice none 0 0] y w8.heap.size (w8.alloc (.cells #[.string y.name, .int .i64 y.ver, .slice y.U.A y.U.n y.U.c, .slice y.C.A y.C.n y.C.c, .slice y.N.A y.N.n y.N.c, .slice y.Q.A y.Q.n y.Q.c, .slice y.E.A y.E.n y.E.c, .slice y.T.A y.T.n y.T.c] 29))) := Lib.hid (⟨(HQ1.out.after hb8).after (below_of_alloc _), Blk.new _ _ _, (TwinOwn.lower hO (w := w) (HQ1.out.bel.size)).after (below_of_alloc _), langK.mono (langK.below hy (below_of_alloc _)) (Nat.le_refl _) (below_of_alloc _).size⟩)
      have HSd : Hid (LSt w x #[.string ⟨#[]⟩, .int .i64 0, .slice none 0 0, .slice none 0 0, .slice none 0 0, .slice none 0 0, .slice none 0 0, .slice none 0 0] y w8.heap.size (w8.alloc (.cells #[.string y.name, .int .i64 y.ver, .slice y.U.A y.U.n y.U.c, .slice y.C.A y.C.n y.C.c, .slice y.N.A y.N.n y.N.c, .slice y.Q.A y.Q.n y.Q.c, .slice y.E.A y.E.n y.E.c, .slice y.T.A y.T.n y.T.c] 29)).drew) := Lib.hid (HS.out.after (drew1_below _))
      have HGX : Hid (w.heap.size + 1 < w8.heap.size) := Lib.hid ((HQ1.out.after hb8).size)
      have hin : i < y.T.n := by rw [HYN.out]; exact hi9
      clear hy hE hb8 hO
      have HOe : Hid ((w8.alloc (.cells #[.string y.name, .int .i64 y.ver, .slice y.U.A y.U.n y.U.c, .slice y.C.A y.C.n y.C.c, .slice y.N.A y.N.n y.N.c, .slice y.Q.A y.Q.n y.Q.c, .slice y.E.A y.E.n y.E.c, .slice y.T.A y.T.n y.T.c] 29)).drew.ownsRow (w.heap.size + 2) 58 2 (.slice y.T.A y.T.n y.T.c) y.T.n (y.ts.flatMap rowC)) := Lib.hid (own_len HSd.out.o.t.own HSd.out.l.t.n)
      obtain ⟨gb, hA⟩ := own_some HOe.out (Nat.lt_of_le_of_lt (Nat.zero_le _) hin)
      replace HOe := Lib.hid (own_addr HOe.out hA)
      have hyn := HS.out.l.t.n
      obtain ⟨q, hq⟩ : ∃ q, y.ts[i]? = some q := ⟨y.ts[i]'(by omega), List.getElem?_eq_getElem _⟩
      have HPQ := Lib.hid hq
      have HA := Lib.hid hA
      have hcm := (own_row HOe.out).2.2.1
      unfold maxLen at hcm
      have hyl : y.T.n ≤ 1200 := by rw [HYN.out]; exact hle
      have hqn := (HS.out.o.t.leaf q (List.mem_of_getElem? hq)).qn
      have hql := tcells_le HFG.out HE.out (List.mem_of_getElem? hq)
      rw [← hqn] at hql
      have HQN := Lib.hid hqn
      have q1 : (w8.alloc (.cells #[.string y.name, .int .i64 y.ver, .slice y.U.A y.U.n y.U.c, .slice y.C.A y.C.n y.C.c, .slice y.N.A y.N.n y.N.c, .slice y.Q.A y.Q.n y.Q.c, .slice y.E.A y.E.n y.E.c, .slice y.T.A y.T.n y.T.c] 29)).cell? ⟨gb, i * 2 + 1, none⟩ = some (.slice q.2.A q.2.n q.2.c) := (World.ownsRow.cellAt HOe.out (i * 2 + 1) (by omega)).trans ((flatN_get (f := rowC) (s := 2) (fun _ => rfl) y.ts i q hq 1 (by omega)).trans rfl)
      have c6 : (w8.alloc (.cells #[.string y.name, .int .i64 y.ver, .slice y.U.A y.U.n y.U.c, .slice y.C.A y.C.n y.C.c, .slice y.N.A y.N.n y.N.c, .slice y.Q.A y.Q.n y.Q.c, .slice y.E.A y.E.n y.E.c, .slice y.T.A y.T.n y.T.c] 29)).cell? ⟨w8.heap.size, 7, none⟩ = some (.slice (some ⟨gb, 0, none⟩) y.T.n y.T.c) := (HS.out.bx.cell 7).trans (by rw [← hA]; rfl)
      have HOq : Hid ((w8.alloc (.cells #[.string y.name, .int .i64 y.ver, .slice y.U.A y.U.n y.U.c, .slice y.C.A y.C.n y.C.c, .slice y.N.A y.N.n y.N.c, .slice y.Q.A y.Q.n y.Q.c, .slice y.E.A y.E.n y.E.c, .slice y.T.A y.T.n y.T.c] 29)).drew.ownsRow (w.heap.size + 2) 77 3 (.slice q.2.A q.2.n q.2.c) q.2.n (q.1.cells.flatMap ceC)) := Lib.hid ((HSd.out.o.t.leaf q (List.mem_of_getElem? hq)).q)
      clear hyn hqn hq hA
      have hw1 : IntKind.i64.wrap ((q.2.n : Int) + 1) = (q.2.n : Int) + 1 := IntWalk.i64_in _ (by omega)
      by_cases hz : 0 < q.2.n
      · obtain ⟨gq, hAq⟩ := own_some HOq.out hz
        replace HOq := Lib.hid (own_addr HOq.out hAq)
        rw [hAq] at q1
        have HAq := Lib.hid hAq
        have hnq := (own_row HOq.out).2.1
        have hmq := (own_row HOq.out).2.2.1
        unfold maxLen at hmq
        clear hAq hz
        go_wp2_with fail
        refine (HRp.out _ q.2.n hql).mono ?_
        rintro e w10 ⟨rfl, rfl⟩
        have hm := restV_lt part (n := q.2.n + 1) (by omega)
        generalize restV part (q.2.n + 1) = m at hm ⊢
        by_cases hlt : m < q.2.n
        · clear hw1 hm
          go_upto_region 11 with (fail)
          clear c6 q1
          have hw2 : IntKind.i64.wrap ((m : Int) + 1) = (m : Int) + 1 := IntWalk.i64_in _ (by omega)
          have hic : m ≤ q.2.c := by omega
          have hb1 : (0 : Int) ≤ (m : Int) + 1 ∧ (m : Int) + 1 ≤ (q.2.n : Int) := by omega
          have hb2 : (0 : Int) ≤ (i : Int) ∧ (i : Int) < (y.T.n : Int) := by omega
          obtain ⟨p, hp1, hp2⟩ := behind_at gq q.2.n q.2.c m 3 hnq hlt
          have HP2 := Lib.hid hp2
          have HLM : Hid (q.2.n - 1 = (q.1.cells.eraseIdx m).length) := Lib.hid (by rw [List.length_eraseIdx_of_lt (by have := HQN.out; omega)]; have := HQN.out; omega)
          obtain ⟨i1, hi1, hz1, hs1, hbb1⟩ := info_parts info_pi
          clear hp2
          have HSo : Hid (∀ Y, Blk Y w8.heap.size 29 #[.string y.name, .int .i64 y.ver, .slice y.U.A y.U.n y.U.c, .slice y.C.A y.C.n y.C.c, .slice y.N.A y.N.n y.N.c, .slice y.Q.A y.Q.n y.Q.c, .slice y.E.A y.E.n y.E.c, .slice y.T.A y.T.n y.T.c] → (Y.cell? ⟨w8.heap.size, 7, none⟩ = some (.slice (some ⟨gb, 0, none⟩) y.T.n y.T.c))) := Lib.hid fun Y h2 => (h2.cell 7).trans (by rw [← HA.out]; rfl)
          refine wp_region_held_tail 11 (fun Y => Y.cell? ⟨w8.heap.size, 7, none⟩ = some (.slice (some ⟨gb, 0, none⟩) y.T.n y.T.c)) (by kernel_rfl) (by kernel_rfl) ?hSv8 (fun hHeld => ?qv08)
          case hSv8 => exact HSo.out _ HSd.out.bx
          case qv08 =>
            simp only [List.take_succ_cons, List.take_zero, List.drop_succ_cons, List.drop_zero]
            refine wpAnyH_take (i := 0) (v := (.pointer (some ⟨w8.heap.size, 7, none⟩))) rfl (by kernel_rfl) (by kernel_rfl) (by kernel_rfl) (fun _ _ _ h => h) (Or.inl ⟨by rfl, ?yv8_1⟩) (by assumption) ?qv8_1
            case yv8_1 => (intro w hSw; (try dsimp only at hSw); go_simp)
            case qv8_1 =>
              (try simp only [Act.put]); (try simp only [List.setIfInBounds_toArray])
              refine wpAnyH_take (i := 1) (v := (.slice (some ⟨gb, 0, none⟩) y.T.n y.T.c)) rfl (by kernel_rfl) (by kernel_rfl) (by kernel_rfl) (fun _ _ _ h => h) (Or.inl ⟨by rfl, ?yv8_2⟩) (by assumption) ?qv8_2
              case yv8_2 => (intro w hSw; (try dsimp only at hSw); go_simp)
              case qv8_2 =>
                (try simp only [Act.put]); (try simp only [List.setIfInBounds_toArray])
                refine wpAnyH_take (i := 2) (v := (.int .i64 i)) rfl (by kernel_rfl) (by kernel_rfl) (by kernel_rfl) (fun _ _ _ h => h) (Or.inl ⟨by rfl, ?yv8_3⟩) (by assumption) ?qv8_3
                case yv8_3 => (intro w hSw; (try dsimp only at hSw); go_simp)
                case qv8_3 =>
                  (try simp only [Act.put]); (try simp only [List.setIfInBounds_toArray])
                  refine wpAnyH_take (i := 3) (v := (.slice (some ⟨gq, 0, none⟩) q.2.n q.2.c)) rfl (by kernel_rfl) (by kernel_rfl) (by kernel_rfl) (fun _ _ _ h => h) (Or.inl ⟨by rfl, ?yv8_4⟩) (by assumption) ?qv8_4
                  case yv8_4 => (intro w hSw; (try dsimp only at hSw); go_simp)
                  case qv8_4 =>
                    (try simp only [Act.put]); (try simp only [List.setIfInBounds_toArray])
                    refine wpAnyH_take (i := 4) (v := (.int .i64 m)) rfl (by kernel_rfl) (by kernel_rfl) (by kernel_rfl) (fun _ _ _ h => h) (Or.inl ⟨by rfl, ?yv8_5⟩) (by assumption) ?qv8_5
                    case yv8_5 => (intro w hSw; (try dsimp only at hSw); go_simp)
                    case qv8_5 =>
                      (try simp only [Act.put]); (try simp only [List.setIfInBounds_toArray])
                      refine wpAnyH_take (i := 5) (v := (.slice (some ⟨gq, 0, none⟩) m q.2.c)) rfl (by kernel_rfl) (by kernel_rfl) (by kernel_rfl) (fun _ _ _ h => h) (Or.inl ⟨by rfl, ?yv8_6⟩) (by assumption) ?qv8_6
                      case yv8_6 => (intro w hSw; (try dsimp only at hSw); go_simp)
                      case qv8_6 =>
                        (try simp only [Act.put]); (try simp only [List.setIfInBounds_toArray])
                        refine wpAnyH_take (i := 6) (v := (.slice (some ⟨gq, 0, none⟩) q.2.n q.2.c)) rfl (by kernel_rfl) (by kernel_rfl) (by kernel_rfl) (fun _ _ _ h => h) (Or.inl ⟨by rfl, ?yv8_7⟩) (by assumption) ?qv8_7
                        case yv8_7 => (intro w hSw; (try dsimp only at hSw); go_simp)
                        case qv8_7 =>
                          (try simp only [Act.put]); (try simp only [List.setIfInBounds_toArray])
                          refine wpAnyH_take (i := 7) (v := (.int .i64 m)) rfl (by kernel_rfl) (by kernel_rfl) (by kernel_rfl) (fun _ _ _ h => h) (Or.inl ⟨by rfl, ?yv8_8⟩) (by assumption) ?qv8_8
                          case yv8_8 => (intro w hSw; (try dsimp only at hSw); go_simp)
                          case qv8_8 =>
                            (try simp only [Act.put]); (try simp only [List.setIfInBounds_toArray])
                            refine wpAnyH_take (i := 8) (v := (.int .i64 ((m : Int) + 1))) rfl (by kernel_rfl) (by kernel_rfl) (by kernel_rfl) (fun _ _ _ h => h) (Or.inl ⟨by rfl, ?yv8_9⟩) (by assumption) ?qv8_9
                            case yv8_9 => (intro w hSw; (try dsimp only at hSw); go_simp)
                            case qv8_9 =>
                              (try simp only [Act.put]); (try simp only [List.setIfInBounds_toArray])
                              refine wpAnyH_take (i := 9) (v := (.slice (some ⟨gq, p, none⟩) (q.2.n - (m + 1)) (q.2.c - (m + 1)))) rfl (by kernel_rfl) (by kernel_rfl) (by kernel_rfl) (fun _ _ _ h => h) (Or.inl ⟨by rfl, ?yv8_10⟩) (by assumption) ?qv8_10
                              case yv8_10 => (intro w hSw; (try dsimp only at hSw); go_simp)
                              case qv8_10 =>
                                (try simp only [Act.put]); (try simp only [List.setIfInBounds_toArray])
                                refine wpAnyH_ready (rs := [10]) (by kernel_rfl) (by simp) ?_
                                refine AllReadyH.cons rfl (fun K hK => ?sv8_11) ?mv8_11
                                case sv8_11 =>
                                  (refine step_cut (C := ceC) (s := 3) (fun _ => rfl) (one_of one_ceC) (by rfl) (.tmp 81) (.tmp 85) _ (by rfl) (w.heap.size + 2) 77 i1 _ 40 Tryz.underlying56 hi1 hz1 hs1 hbb1 rfl (by decide) (by decide) HOq.out (by omega) m p hlt HP2.out (by go_simp) (by go_simp) (by have := HSd.out.q.size; omega) ?_; intro A' c' Yn hownN hgrN; have HG : Hid (World.grownBy _ Yn (Value.ownBlock (.slice q.2.A q.2.n q.2.c))) := Lib.hid (by rw [HAq.out]; exact hgrN); have HEN := Lib.hid (part_te HSd.out HGX.out HPQ.out HA.out HLM.out hownN HG.out); have HKp := Lib.hid (HSo.out _ (HSd.out.bx.grown hgrN (Ne.symm (own_blk_ne HOq.out HSd.out.bx (by decide))))); have HRn := Lib.hid (own_kept HOe.out HOq.out (by decide) hgrN); clear hownN hgrN)
                                  refine hK.out _ _ ?kv8_11 (fun hHeld => ?qv8_11)
                                  case kv8_11 => ((try dsimp only); exact HKp.out)
                                  case qv8_11 =>
                                    clear hK K
                                    (try simp only [Act.put]); (try simp only [List.setIfInBounds_toArray])
                                    refine wpAnyH_done (by kernel_rfl) ?_ _
                                    clear hHeld hp1
                                    have s1 := (World.ownsRow.cellAt HRn.out (i * 2 + 1) (by omega)).trans ((flatN_get (f := rowC) (s := 2) (fun _ => rfl) y.ts i q HPQ.out 1 (by omega)).trans (show _ = some (.slice q.2.A q.2.n q.2.c) from rfl))
                                    have s2 := World.ownsRow.frozenAt HRn.out (i * 2 + 1)
                                    have HSB := Lib.hid HEN.out.q.b
                                    have e0 := (HEN.out.bx.cell 0).trans (show _ = some (.string y.name) from rfl)
                                    have e1 := (HEN.out.bx.cell 1).trans (show _ = some (.int .i64 y.ver) from rfl)
                                    have e2 := (HEN.out.bx.cell 2).trans (show _ = some (.slice y.U.A y.U.n y.U.c) from rfl)
                                    have e3 := (HEN.out.bx.cell 3).trans (show _ = some (.slice y.C.A y.C.n y.C.c) from rfl)
                                    have e4 := (HEN.out.bx.cell 4).trans (show _ = some (.slice y.N.A y.N.n y.N.c) from rfl)
                                    have e5 := (HEN.out.bx.cell 5).trans (show _ = some (.slice y.Q.A y.Q.n y.Q.c) from rfl)
                                    have e6 := (HEN.out.bx.cell 6).trans (show _ = some (.slice y.E.A y.E.n y.E.c) from rfl)
                                    have e7 := (HEN.out.bx.cell 7).trans (show _ = some (.slice y.T.A y.T.n y.T.c) from rfl)
                                    show wpList _ _ _ _ _ _
                                    go_wp2_with ((with_reducible show wpList _ _ _ (Oper.mk _ (Op.store 29 _ _) _ _ _ _ :: _) _ _); go_must (refine wpList_store_row rfl _ _ _ rfl (w.heap.size + 1) _ rfl rfl 29 _ HSB.out infoLangS rfl lang_oneA ?_))
                                    have hres : Tryz.f8.results = #[.cell 8 29, .tmp 9] := by kernel_rfl
                                    (try rw [Exit.noGoto_ret])
                                    (try simp only [Exit.inBlock, Exit.then])
                                    refine bodyPost_ret (results_rowL hres _ _ (w.heap.size + 1) _ rfl (load_langS (setRow_heap _ _ _ _ _ _ HSB.out))) rfl ?_
                                    exact less_some (y := ({ y with ts := y.ts.set i (⟨q.1.con, q.1.cells.eraseIdx m⟩, ⟨A', q.2.n - 1, c'⟩) } : LangM)) HEN.out (lessp_te HX.out HSd.out.l HFX.out HE.out HPQ.out)
                                case mv8_11 =>
                                  exact AllReadyH.nil
        · have hw3 : ¬ m < q.2.n := hlt
          have HEN := Lib.hid HS.out.whole
          have HSB := Lib.hid HS.out.q.b
          clear c6 q1
          have e0 := (HEN.out.bx.cell 0).trans (show _ = some (.string y.name) from rfl)
          have e1 := (HEN.out.bx.cell 1).trans (show _ = some (.int .i64 y.ver) from rfl)
          have e2 := (HEN.out.bx.cell 2).trans (show _ = some (.slice y.U.A y.U.n y.U.c) from rfl)
          have e3 := (HEN.out.bx.cell 3).trans (show _ = some (.slice y.C.A y.C.n y.C.c) from rfl)
          have e4 := (HEN.out.bx.cell 4).trans (show _ = some (.slice y.N.A y.N.n y.N.c) from rfl)
          have e5 := (HEN.out.bx.cell 5).trans (show _ = some (.slice y.Q.A y.Q.n y.Q.c) from rfl)
          have e6 := (HEN.out.bx.cell 6).trans (show _ = some (.slice y.E.A y.E.n y.E.c) from rfl)
          have e7 := (HEN.out.bx.cell 7).trans (show _ = some (.slice y.T.A y.T.n y.T.c) from rfl)
          go_wp2_with ((with_reducible show wpList _ _ _ (Oper.mk _ (Op.store 29 _ _) _ _ _ _ :: _) _ _); go_must (refine wpList_store_row rfl _ _ _ rfl (w.heap.size + 1) _ rfl rfl 29 _ HSB.out infoLangS rfl lang_oneA ?_))
          have hres : Tryz.f8.results = #[.cell 8 29, .tmp 9] := by kernel_rfl
          (try rw [Exit.noGoto_ret])
          (try simp only [Exit.inBlock, Exit.then])
          refine bodyPost_ret (results_rowL hres _ _ (w.heap.size + 1) _ rfl (load_langS (setRow_heap _ _ _ _ _ _ HSB.out))) rfl ?_
          exact less_some (y := y) HEN.out (less_same HX.out HS.out.l HFX.out HE.out)
      · clear HOq
        go_wp2_with fail
        refine (HRp.out _ q.2.n hql).mono ?_
        rintro e w10 ⟨rfl, rfl⟩
        have hm := restV_lt part (n := q.2.n + 1) (by omega)
        generalize restV part (q.2.n + 1) = m at hm ⊢
        have hw3 : ¬ m < q.2.n := by omega
        have HEN := Lib.hid HS.out.whole
        have HSB := Lib.hid HS.out.q.b
        clear c6 q1
        have e0 := (HEN.out.bx.cell 0).trans (show _ = some (.string y.name) from rfl)
        have e1 := (HEN.out.bx.cell 1).trans (show _ = some (.int .i64 y.ver) from rfl)
        have e2 := (HEN.out.bx.cell 2).trans (show _ = some (.slice y.U.A y.U.n y.U.c) from rfl)
        have e3 := (HEN.out.bx.cell 3).trans (show _ = some (.slice y.C.A y.C.n y.C.c) from rfl)
        have e4 := (HEN.out.bx.cell 4).trans (show _ = some (.slice y.N.A y.N.n y.N.c) from rfl)
        have e5 := (HEN.out.bx.cell 5).trans (show _ = some (.slice y.Q.A y.Q.n y.Q.c) from rfl)
        have e6 := (HEN.out.bx.cell 6).trans (show _ = some (.slice y.E.A y.E.n y.E.c) from rfl)
        have e7 := (HEN.out.bx.cell 7).trans (show _ = some (.slice y.T.A y.T.n y.T.c) from rfl)
        go_wp2_with ((with_reducible show wpList _ _ _ (Oper.mk _ (Op.store 29 _ _) _ _ _ _ :: _) _ _); go_must (refine wpList_store_row rfl _ _ _ rfl (w.heap.size + 1) _ rfl rfl 29 _ HSB.out infoLangS rfl lang_oneA ?_))
        have hres : Tryz.f8.results = #[.cell 8 29, .tmp 9] := by kernel_rfl
        (try rw [Exit.noGoto_ret])
        (try simp only [Exit.inBlock, Exit.then])
        refine bodyPost_ret (results_rowL hres _ _ (w.heap.size + 1) _ rfl (load_langS (setRow_heap _ _ _ _ _ _ HSB.out))) rfl ?_
        exact less_some (y := y) HEN.out (less_same HX.out HS.out.l HFX.out HE.out)
end Go.Proofs.YtilemieknfdjnaaGreat

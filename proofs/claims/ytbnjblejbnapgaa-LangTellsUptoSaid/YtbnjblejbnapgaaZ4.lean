/-
  WALKS: the document: two languages are the same, the loops.
-/
import Derived.Test.YtbnjblejbnapgaaZ3
namespace Go.Proofs.Ytbnjblejbnapgaa
open Go Go.RowKit Go.Sort
set_option linter.unusedVariables false
set_option maxRecDepth 100000 in
set_option maxHeartbeats 12800000 in
theorem refSame4_main (w : World) (hi : Nat) (x y : LangM) (hx : LangIn w 0 hi x) (hy : LangIn w 0 hi y) (hh : hi ≤ w.heap.size) (d0 : (x.name.toList == y.name.toList) = true) (d1 : (x.ver == y.ver) = true) (d2 : eqL strE x.us y.us = true) (lc : x.C.n = y.C.n) (ln : x.N.n = y.N.n) (lq : x.Q.n = y.Q.n) (le : x.E.n = y.E.n) (lt : x.T.n = y.T.n) :
    Calls Try.prog 7 #[.agg #[.string x.name, .int .i64 x.ver, .slice x.U.A x.U.n x.U.c, .slice x.C.A x.C.n x.C.c, .slice x.N.A x.N.n x.N.c, .slice x.Q.A x.Q.n x.Q.c, .slice x.E.A x.E.n x.E.c, .slice x.T.A x.T.n x.T.c], .agg #[.string y.name, .int .i64 y.ver, .slice y.U.A y.U.n y.U.c, .slice y.C.A y.C.n y.C.c, .slice y.N.A y.N.n y.N.c, .slice y.Q.A y.Q.n y.Q.c, .slice y.E.A y.E.n y.E.c, .slice y.T.A y.T.n y.T.c]] w (Ret w (.bool (langEM x y))) := by
  obtain ⟨nm1, vr1, ⟨Au1, nu1, cu1⟩, us1, ⟨Ac1, nc1, cc1⟩, cs1, ⟨An1, nn1, cn1⟩, ru1, ⟨Aq1, nq1, cq1⟩, qs1, ⟨Ae1, ne1, ce1⟩, es1, ⟨At1, nt1, ct1⟩, ts1⟩ := x
  obtain ⟨nm2, vr2, ⟨Au2, nu2, cu2⟩, us2, ⟨Ac2, nc2, cc2⟩, cs2, ⟨An2, nn2, cn2⟩, ru2, ⟨Aq2, nq2, cq2⟩, qs2, ⟨Ae2, ne2, ce2⟩, es2, ⟨At2, nt2, ct2⟩, ts2⟩ := y
  have HX := Lib.hid hx
  have HY := Lib.hid hy
  obtain ⟨iun1, iu1, ic1, inn1, in1, iq1, ie1, it1⟩ := hx
  obtain ⟨iun2, iu2, ic2, inn2, in2, iq2, ie2, it2⟩ := hy
  simp only at iun1 iun2 iu1 iu2 ic1 ic2 inn1 inn2 in1 in2 iq1 iq2 ie1 ie2 it1 it2 ⊢
  have HW := Lib.hid (B2.start w 29 #[.string nm1, .int .i64 vr1, .slice Au1 nu1 cu1, .slice Ac1 nc1 cc1, .slice An1 nn1 cn1, .slice Aq1 nq1 cq1, .slice Ae1 ne1 ce1, .slice At1 nt1 ct1] #[.string nm2, .int .i64 vr2, .slice Au2 nu2 cu2, .slice Ac2 nc2 cc2, .slice An2 nn2 cn2, .slice Aq2 nq2 cq2, .slice Ae2 ne2 ce2, .slice At2 nt2 ct2])
  have HN : Hid (langEM ⟨nm1, vr1, ⟨Au1, nu1, cu1⟩, us1, ⟨Ac1, nc1, cc1⟩, cs1, ⟨An1, nn1, cn1⟩, ru1, ⟨Aq1, nq1, cq1⟩, qs1, ⟨Ae1, ne1, ce1⟩, es1, ⟨At1, nt1, ct1⟩, ts1⟩ ⟨nm2, vr2, ⟨Au2, nu2, cu2⟩, us2, ⟨Ac2, nc2, cc2⟩, cs2, ⟨An2, nn2, cn2⟩, ru2, ⟨Aq2, nq2, cq2⟩, qs2, ⟨Ae2, ne2, ce2⟩, es2, ⟨At2, nt2, ct2⟩, ts2⟩ = ((nm1.toList == nm2.toList) && (vr1 == vr2) && eqL strE us1 us2 && eqL conEM cs1 cs2 && eqL ruE ru1 ru2 && eqL eqEM qs1 qs2 && eqL rowEM es1 es2 && eqL rowEM ts1 ts2)) := Lib.hid rfl
  obtain ⟨res, hres⟩ : ∃ b, langEM ⟨nm1, vr1, ⟨Au1, nu1, cu1⟩, us1, ⟨Ac1, nc1, cc1⟩, cs1, ⟨An1, nn1, cn1⟩, ru1, ⟨Aq1, nq1, cq1⟩, qs1, ⟨Ae1, ne1, ce1⟩, es1, ⟨At1, nt1, ct1⟩, ts1⟩ ⟨nm2, vr2, ⟨Au2, nu2, cu2⟩, us2, ⟨Ac2, nc2, cc2⟩, cs2, ⟨An2, nn2, cn2⟩, ru2, ⟨Aq2, nq2, cq2⟩, qs2, ⟨Ae2, ne2, ce2⟩, es2, ⟨At2, nt2, ct2⟩, ts2⟩ = b := ⟨_, rfl⟩
  rw [hres] at HN ⊢
  have HR := Lib.hid hres
  clear hres
  simp only at d0 d1 d2 lc ln lq le lt
  have m0 : (nm1.toList != nm2.toList) = false := by unfold bne; rw [d0]; rfl
  have m1 : (vr1 != vr2) = false := by unfold bne; rw [d1]; rfl
  have hE1 : ∀ w2, Below w.heap.size w w2 → Calls Try.prog 13 #[.slice Au1 nu1 cu1, .slice Au2 nu2 cu2] w2 (Ret w2 (.bool (eqL strE us1 us2))) := fun w2 hb2 => (refTexts_any w2 0 hi 0 hi _ _ _ _ _ _ _ _ (iu1.below (hb2.mono hh)) (iu2.below (hb2.mono hh))).mono fun _ _ => ret_of_drew
  obtain ⟨e1, he1⟩ : ∃ b, eqL strE us1 us2 = b := ⟨_, rfl⟩
  rw [he1] at hE1 HN
  have HE1 := Lib.hid hE1
  have HU1 := Lib.hid he1
  clear hE1 he1 iun1 iun2 iu1 iu2
  obtain rfl : e1 = true := HU1.out.symm.trans d2
  clear d2
  replace HN : Hid (res = (eqL conEM cs1 cs2 && eqL ruE ru1 ru2 && eqL eqEM qs1 qs2 && eqL rowEM es1 es2 && eqL rowEM ts1 ts2)) := Lib.hid (by rw [HN.out, d0, d1]; simp only [Bool.true_and])
  have Hnc1 := Lib.hid ic1.n
  have HRc1 := Lib.hid ic1
  have zc1 := ic1.row.2.2.1
  have yc1 := ic1.row.2.1
  have Hnc2 := Lib.hid ic2.n
  have HRc2 := Lib.hid ic2
  have zc2 := ic2.row.2.2.1
  have yc2 := ic2.row.2.1
  have Hnn1 := Lib.hid inn1
  have HRn1 := Lib.hid in1
  have zn1 := in1.2.2.1
  have yn1 := in1.2.1
  have Hnn2 := Lib.hid inn2
  have HRn2 := Lib.hid in2
  have zn2 := in2.2.2.1
  have yn2 := in2.2.1
  have Hnq1 := Lib.hid iq1.n
  have HRq1 := Lib.hid iq1
  have zq1 := iq1.row.2.2.1
  have yq1 := iq1.row.2.1
  have Hnq2 := Lib.hid iq2.n
  have HRq2 := Lib.hid iq2
  have zq2 := iq2.row.2.2.1
  have yq2 := iq2.row.2.1
  have Hne1 := Lib.hid ie1.n
  have HRe1 := Lib.hid ie1
  have ze1 := ie1.row.2.2.1
  have ye1 := ie1.row.2.1
  have Hne2 := Lib.hid ie2.n
  have HRe2 := Lib.hid ie2
  have ze2 := ie2.row.2.2.1
  have ye2 := ie2.row.2.1
  have Hnt1 := Lib.hid it1.n
  have HRt1 := Lib.hid it1
  have zt1 := it1.row.2.2.1
  have yt1 := it1.row.2.1
  have Hnt2 := Lib.hid it2.n
  have HRt2 := Lib.hid it2
  have zt2 := it2.row.2.2.1
  have yt2 := it2.row.2.1
  simp only at Hnc1 Hnc2 Hnn1 Hnn2 Hnq1 Hnq2 Hne1 Hne2 Hnt1 Hnt2 zc1 zc2 zn1 zn2 zq1 zq2 ze1 ze2 zt1 zt2 yc1 yc2 yn1 yn2 yq1 yq2 ye1 ye2 yt1 yt2
  unfold maxLen at zc1 zc2 zn1 zn2 zq1 zq2 ze1 ze2 zt1 zt2
  clear inn1 inn2 ic1 ic2 in1 in2 iq1 iq2 ie1 ie2 it1 it2
  have fc : ((nc1 : Int) != (nc2 : Int)) = false := by rw [bne_eq_false_iff_eq]; omega
  subst lc
  have fn : ((nn1 : Int) != (nn2 : Int)) = false := by rw [bne_eq_false_iff_eq]; omega
  subst ln
  have fq : ((nq1 : Int) != (nq2 : Int)) = false := by rw [bne_eq_false_iff_eq]; omega
  subst lq
  have fe : ((ne1 : Int) != (ne2 : Int)) = false := by rw [bne_eq_false_iff_eq]; omega
  subst le
  have ft : ((nt1 : Int) != (nt2 : Int)) = false := by rw [bne_eq_false_iff_eq]; omega
  subst lt
  go_enter Try.func7, Try.ntmps7
  go_wp2_with (go_at_call 13; (with_reducible refine (HE1.out _ HW.out.bel).mono ?_); rintro e w1 ⟨rfl, hb1⟩; obtain ⟨s1, t1⟩ := bcell hb1; have HB1 := Lib.hid (HW.out.after hb1); have hz1 := HB1.out.size; have hz1' : w.heap.size < w1.heap.size := (by omega); clear hb1)
  replace HW := HB1
  clear HB1
  go_loopw [5] (fun i wr => ∃ k : Nat, k ≤ nc1 ∧ i = .int .i64 k ∧ B2 w 29 #[.string nm1, .int .i64 vr1, .slice Au1 nu1 cu1, .slice Ac1 nc1 cc1, .slice An1 nn1 cn1, .slice Aq1 nq1 cq1, .slice Ae1 ne1 ce1, .slice At1 nt1 ct1] #[.string nm2, .int .i64 vr2, .slice Au2 nu2 cu2, .slice Ac2 nc1 cc2, .slice An2 nn1 cn2, .slice Aq2 nq1 cq2, .slice Ae2 ne1 ce2, .slice At2 nt1 ct2] wr ∧ Hid (eqL conEM cs1 cs2 = eqL conEM (cs1.drop k) (cs2.drop k))) (fun i _ => nc1 - (intOf i).toNat)
  case atStart => exact ⟨0, by omega, rfl, HW.out, Lib.hid rfl⟩
  case round =>
    clear HW
    obtain ⟨k, hk, rfl, BWh, HK⟩ := hrel
    have hbel := BWh.bel
    have hsz := BWh.size
    have HW := Lib.hid BWh
    clear BWh
    have a3 : wr.cell? ⟨w.heap.size, 3, none⟩ = some (.slice Ac1 nc1 cc1) := (HW.out.a.cell 3).trans rfl
    have b3 : wr.cell? ⟨w.heap.size + 1, 3, none⟩ = some (.slice Ac2 nc1 cc2) := (HW.out.b.cell 3).trans rfl
    have a4 : wr.cell? ⟨w.heap.size, 4, none⟩ = some (.slice An1 nn1 cn1) := (HW.out.a.cell 4).trans rfl
    have b4 : wr.cell? ⟨w.heap.size + 1, 4, none⟩ = some (.slice An2 nn1 cn2) := (HW.out.b.cell 4).trans rfl
    by_cases hlt : k < nc1
    · obtain ⟨g1, o1, hA1, _, hg1, V1⟩ := HRc1.out.at_ (fun _ => rfl) (show 0 < nc1 by omega)
      obtain ⟨g2, o2, hA2, _, hg2, V2⟩ := HRc2.out.at_ (fun _ => rfl) (show 0 < nc1 by omega)
      simp only at hA1 hA2
      subst hA1 hA2
      obtain ⟨x, hx⟩ : ∃ x, cs1[k]? = some x := ⟨cs1[k]'(by have := Hnc1.out; have := Hnc2.out; omega), List.getElem?_eq_getElem _⟩
      obtain ⟨y, hy⟩ : ∃ y, cs2[k]? = some y := ⟨cs2[k]'(by have := Hnc1.out; have := Hnc2.out; omega), List.getElem?_eq_getElem _⟩
      obtain ⟨hlf1, hat1⟩ := V1 k x hx
      obtain ⟨hlf2, hat2⟩ := V2 k y hy
      have q1_0 : wr.cell? ⟨g1, o1 + k * 6, none⟩ = some (.string x.1.name) := (hbel.cell (p := ⟨_, _, none⟩) (show g1 < w.heap.size by omega)).trans (hat1 0 _ (by omega) rfl)
      have q1_1 : wr.cell? ⟨g1, o1 + k * 6 + 1, none⟩ = some (.string x.1.super) := (hbel.cell (p := ⟨_, _, none⟩) (show g1 < w.heap.size by omega)).trans (hat1 1 _ (by omega) rfl)
      have q1_2 : wr.cell? ⟨g1, o1 + k * 6 + 2, none⟩ = some (.bool x.1.abs) := (hbel.cell (p := ⟨_, _, none⟩) (show g1 < w.heap.size by omega)).trans (hat1 2 _ (by omega) rfl)
      have q1_3 : wr.cell? ⟨g1, o1 + k * 6 + 3, none⟩ = some (.slice x.2.p.A x.2.p.n x.2.p.c) := (hbel.cell (p := ⟨_, _, none⟩) (show g1 < w.heap.size by omega)).trans (hat1 3 _ (by omega) rfl)
      have q1_4 : wr.cell? ⟨g1, o1 + k * 6 + 4, none⟩ = some (.slice x.2.k.A x.2.k.n x.2.k.c) := (hbel.cell (p := ⟨_, _, none⟩) (show g1 < w.heap.size by omega)).trans (hat1 4 _ (by omega) rfl)
      have q1_5 : wr.cell? ⟨g1, o1 + k * 6 + 5, none⟩ = some (.slice x.2.r.A x.2.r.n x.2.r.c) := (hbel.cell (p := ⟨_, _, none⟩) (show g1 < w.heap.size by omega)).trans (hat1 5 _ (by omega) rfl)
      have q2_0 : wr.cell? ⟨g2, o2 + k * 6, none⟩ = some (.string y.1.name) := (hbel.cell (p := ⟨_, _, none⟩) (show g2 < w.heap.size by omega)).trans (hat2 0 _ (by omega) rfl)
      have q2_1 : wr.cell? ⟨g2, o2 + k * 6 + 1, none⟩ = some (.string y.1.super) := (hbel.cell (p := ⟨_, _, none⟩) (show g2 < w.heap.size by omega)).trans (hat2 1 _ (by omega) rfl)
      have q2_2 : wr.cell? ⟨g2, o2 + k * 6 + 2, none⟩ = some (.bool y.1.abs) := (hbel.cell (p := ⟨_, _, none⟩) (show g2 < w.heap.size by omega)).trans (hat2 2 _ (by omega) rfl)
      have q2_3 : wr.cell? ⟨g2, o2 + k * 6 + 3, none⟩ = some (.slice y.2.p.A y.2.p.n y.2.p.c) := (hbel.cell (p := ⟨_, _, none⟩) (show g2 < w.heap.size by omega)).trans (hat2 3 _ (by omega) rfl)
      have q2_4 : wr.cell? ⟨g2, o2 + k * 6 + 4, none⟩ = some (.slice y.2.k.A y.2.k.n y.2.k.c) := (hbel.cell (p := ⟨_, _, none⟩) (show g2 < w.heap.size by omega)).trans (hat2 4 _ (by omega) rfl)
      have q2_5 : wr.cell? ⟨g2, o2 + k * 6 + 5, none⟩ = some (.slice y.2.r.A y.2.r.n y.2.r.c) := (hbel.cell (p := ⟨_, _, none⟩) (show g2 < w.heap.size by omega)).trans (hat2 5 _ (by omega) rfl)
      have HD : Hid (eqL conEM cs1 cs2 = (conEM x y && eqL conEM (cs1.drop (k + 1)) (cs2.drop (k + 1)))) := Lib.hid (by
        obtain ⟨hl1, e1⟩ := List.getElem?_eq_some_iff.1 hx
        obtain ⟨hl2, e2⟩ := List.getElem?_eq_some_iff.1 hy
        rw [HK.out, List.drop_eq_getElem_cons hl1, List.drop_eq_getElem_cons hl2, e1, e2]; rfl)
      have hS : ∀ d os, Calls Try.prog 12 #[.agg #[.string x.1.name, .string x.1.super, .bool x.1.abs, .slice x.2.p.A x.2.p.n x.2.p.c, .slice x.2.k.A x.2.k.n x.2.k.c, .slice x.2.r.A x.2.r.n x.2.r.c], .agg #[.string y.1.name, .string y.1.super, .bool y.1.abs, .slice y.2.p.A y.2.p.n y.2.p.c, .slice y.2.k.A y.2.k.n y.2.k.c, .slice y.2.r.A y.2.r.n y.2.r.c]] (grow (redrawn wr d) os) (Ret (grow (redrawn wr d) os) (.bool (conEM x y))) := fun d os =>
        refSameConcept_any _ hi x y (conK.below (conK.below hlf1 (hbel.mono hh)) ((below_regrown wr d os).mono (by omega))) (conK.below (conK.below hlf2 (hbel.mono hh)) ((below_regrown wr d os).mono (by omega))) (by have := (below_regrown wr d os).size; omega)
      obtain ⟨r, hr⟩ : ∃ b, conEM x y = b := ⟨_, rfl⟩
      rw [hr] at HD hS
      clear hr hx hy V1 V2 hlf1 hlf2 hat1 hat2 HK
      obtain ⟨x3, ⟨⟨Ap3, np3, cp3⟩, ⟨Ak3, nk3, ck3⟩, ⟨Ar3, nr3, cr3⟩⟩⟩ := x
      obtain ⟨x4, ⟨⟨Ap4, np4, cp4⟩, ⟨Ak4, nk4, ck4⟩, ⟨Ar4, nr4, cr4⟩⟩⟩ := y
      simp only at hS q1_0 q1_1 q1_2 q1_3 q1_4 q1_5 q2_0 q2_1 q2_2 q2_3 q2_4 q2_5
      have HS := Lib.hid hS
      have rq1_0 := cell_regrown q1_0
      have rq1_1 := cell_regrown q1_1
      have rq1_2 := cell_regrown q1_2
      have rq1_3 := cell_regrown q1_3
      have rq1_4 := cell_regrown q1_4
      have rq1_5 := cell_regrown q1_5
      have rq2_0 := cell_regrown q2_0
      have rq2_1 := cell_regrown q2_1
      have rq2_2 := cell_regrown q2_2
      have rq2_3 := cell_regrown q2_3
      have rq2_4 := cell_regrown q2_4
      have rq2_5 := cell_regrown q2_5
      have ra3 := cell_regrown a3
      have rb3 := cell_regrown b3
      clear hS q1_0 q1_1 q1_2 q1_3 q1_4 q1_5 q2_0 q2_1 q2_2 q2_3 q2_4 q2_5
      cases r with
      | false =>
        replace HN : Hid (res = false) := Lib.hid (by rw [HN.out, HD.out]; simp only [Bool.false_and])
        clear HD
        go_wp2_with fail
        refine wp_region_quiet_below (by kernel_rfl) (by kernel_rfl) ?_
        repeat (go_big_quiet_step ((go_at_call 12; exact regrown_ret (HS.out _ _))))
        refine wpQuiet_nil ?_
        intro _ hw'
        obtain ⟨⟨dq, osq⟩, hw''⟩ := hw'
        subst hw''
        have hb2 := below_regrown wr dq osq
        generalize grow (redrawn wr dq) osq = w2 at hb2 ⊢
        replace HW := Lib.hid (HW.out.after hb2)
        clear hb2 rq1_0 rq1_1 rq1_2 rq1_3 rq1_4 rq1_5 rq2_0 rq2_1 rq2_2 rq2_3 rq2_4 rq2_5 ra3 rb3
        go_wp2_with fail
        go_ret
        exact ret_b HN.out rfl HW.out.bel
      | true =>
        have HZ : Hid (eqL conEM cs1 cs2 = eqL conEM (cs1.drop (k + 1)) (cs2.drop (k + 1))) := Lib.hid (by rw [HD.out]; simp only [Bool.true_and])
        clear HD
        go_wp2_with fail
        refine wp_region_quiet_below (by kernel_rfl) (by kernel_rfl) ?_
        repeat (go_big_quiet_step ((go_at_call 12; exact regrown_ret (HS.out _ _))))
        refine wpQuiet_nil ?_
        intro _ hw'
        obtain ⟨⟨dq, osq⟩, hw''⟩ := hw'
        subst hw''
        have hb2 := below_regrown wr dq osq
        generalize grow (redrawn wr dq) osq = w2 at hb2 ⊢
        replace HW := Lib.hid (HW.out.after hb2)
        clear hb2 rq1_0 rq1_1 rq1_2 rq1_3 rq1_4 rq1_5 rq2_0 rq2_1 rq2_2 rq2_3 rq2_4 rq2_5 ra3 rb3
        go_wp2_with fail
        go_roundw
        case rel => exact ⟨k + 1, by omega, by go_num, HW.out, HZ⟩
        case measure => simp [intOf]; omega
    · have HZ : Hid (eqL conEM cs1 cs2 = true) := Lib.hid (by rw [HK.out, List.drop_eq_nil_of_le (by have := Hnc1.out; omega), List.drop_eq_nil_of_le (by have := Hnc2.out; omega)]; rfl)
      replace HN : Hid (res = (eqL ruE ru1 ru2 && eqL eqEM qs1 qs2 && eqL rowEM es1 es2 && eqL rowEM ts1 ts2)) := Lib.hid (by rw [HN.out, HZ.out]; simp only [Bool.true_and])
      clear HK HZ
      go_wp2_with fail
      go_loopw [6] (fun i wr => ∃ k : Nat, k ≤ nn1 ∧ i = .int .i64 k ∧ B2 w 29 #[.string nm1, .int .i64 vr1, .slice Au1 nu1 cu1, .slice Ac1 nc1 cc1, .slice An1 nn1 cn1, .slice Aq1 nq1 cq1, .slice Ae1 ne1 ce1, .slice At1 nt1 ct1] #[.string nm2, .int .i64 vr2, .slice Au2 nu2 cu2, .slice Ac2 nc1 cc2, .slice An2 nn1 cn2, .slice Aq2 nq1 cq2, .slice Ae2 ne1 ce2, .slice At2 nt1 ct2] wr ∧ Hid (eqL ruE ru1 ru2 = eqL ruE (ru1.drop k) (ru2.drop k))) (fun i _ => nn1 - (intOf i).toNat)
      case atStart => exact ⟨0, by omega, rfl, HW.out, Lib.hid rfl⟩
      case round =>
        clear HW
        obtain ⟨k, hk, rfl, BWh, HK⟩ := hrel
        have hbel := BWh.bel
        have hsz := BWh.size
        have HW := Lib.hid BWh
        clear BWh
        have a4 : wr.cell? ⟨w.heap.size, 4, none⟩ = some (.slice An1 nn1 cn1) := (HW.out.a.cell 4).trans rfl
        have b4 : wr.cell? ⟨w.heap.size + 1, 4, none⟩ = some (.slice An2 nn1 cn2) := (HW.out.b.cell 4).trans rfl
        have a5 : wr.cell? ⟨w.heap.size, 5, none⟩ = some (.slice Aq1 nq1 cq1) := (HW.out.a.cell 5).trans rfl
        have b5 : wr.cell? ⟨w.heap.size + 1, 5, none⟩ = some (.slice Aq2 nq1 cq2) := (HW.out.b.cell 5).trans rfl
        by_cases hlt : k < nn1
        · obtain ⟨g1, o1, rfl, _, _, hcells1⟩ := (Row.below HRn1.out (hbel.mono hh)).at_ (by omega)
          obtain ⟨g2, o2, rfl, _, _, hcells2⟩ := (Row.below HRn2.out (hbel.mono hh)).at_ (by omega)
          obtain ⟨x, hx⟩ : ∃ x, ru1[k]? = some x := ⟨ru1[k]'(by have := Hnn1.out; have := Hnn2.out; omega), List.getElem?_eq_getElem _⟩
          obtain ⟨y, hy⟩ : ∃ y, ru2[k]? = some y := ⟨ru2[k]'(by have := Hnn1.out; have := Hnn2.out; omega), List.getElem?_eq_getElem _⟩
          have q1_0 := hcells1 _ _ (ruCells_get hx).1
          have q1_0 : wr.cell? ⟨g1, o1 + k * 4, none⟩ = some (.string x.con) := by first | exact q1_0 | (rw [Nat.add_assoc]; exact q1_0)
          have q1_1 := hcells1 _ _ (ruCells_get hx).2.1
          have q1_1 : wr.cell? ⟨g1, o1 + k * 4 + 1, none⟩ = some (.string x.name) := by first | exact q1_1 | (rw [Nat.add_assoc]; exact q1_1)
          have q1_2 := hcells1 _ _ (ruCells_get hx).2.2.1
          have q1_2 : wr.cell? ⟨g1, o1 + k * 4 + 2, none⟩ = some (.bool x.scope) := by first | exact q1_2 | (rw [Nat.add_assoc]; exact q1_2)
          have q1_3 := hcells1 _ _ (ruCells_get hx).2.2.2
          have q1_3 : wr.cell? ⟨g1, o1 + k * 4 + 3, none⟩ = some (.string x.expr) := by first | exact q1_3 | (rw [Nat.add_assoc]; exact q1_3)
          have q2_0 := hcells2 _ _ (ruCells_get hy).1
          have q2_0 : wr.cell? ⟨g2, o2 + k * 4, none⟩ = some (.string y.con) := by first | exact q2_0 | (rw [Nat.add_assoc]; exact q2_0)
          have q2_1 := hcells2 _ _ (ruCells_get hy).2.1
          have q2_1 : wr.cell? ⟨g2, o2 + k * 4 + 1, none⟩ = some (.string y.name) := by first | exact q2_1 | (rw [Nat.add_assoc]; exact q2_1)
          have q2_2 := hcells2 _ _ (ruCells_get hy).2.2.1
          have q2_2 : wr.cell? ⟨g2, o2 + k * 4 + 2, none⟩ = some (.bool y.scope) := by first | exact q2_2 | (rw [Nat.add_assoc]; exact q2_2)
          have q2_3 := hcells2 _ _ (ruCells_get hy).2.2.2
          have q2_3 : wr.cell? ⟨g2, o2 + k * 4 + 3, none⟩ = some (.string y.expr) := by first | exact q2_3 | (rw [Nat.add_assoc]; exact q2_3)
          have HD : Hid (eqL ruE ru1 ru2 = (ruE x y && eqL ruE (ru1.drop (k + 1)) (ru2.drop (k + 1)))) := Lib.hid (by
            obtain ⟨hl1, e1⟩ := List.getElem?_eq_some_iff.1 hx
            obtain ⟨hl2, e2⟩ := List.getElem?_eq_some_iff.1 hy
            rw [HK.out, List.drop_eq_getElem_cons hl1, List.drop_eq_getElem_cons hl2, e1, e2]; rfl)
          clear HK hx hy hcells1 hcells2
          cases e0 : (x.con.toList == y.con.toList) with
          | false =>
            have HZ : Hid (res = false) := Lib.hid (by rw [HN.out, HD.out]; simp only [ruE, e0]; simp)
            clear HD
            go_wp2_with fail
            go_quiet (fail)
            go_wp2_with fail
            go_ret
            exact ret_b HZ.out rfl (HW.out.drewN _).bel
          | true =>
            cases e1 : (x.name.toList == y.name.toList) with
            | false =>
              have HZ : Hid (res = false) := Lib.hid (by rw [HN.out, HD.out]; simp only [ruE, e0, e1]; simp)
              clear HD
              go_wp2_with fail
              go_quiet (fail)
              go_wp2_with fail
              go_ret
              exact ret_b HZ.out rfl (HW.out.drewN _).bel
            | true =>
              cases e2 : (x.scope == y.scope) with
              | false =>
                have HZ : Hid (res = false) := Lib.hid (by rw [HN.out, HD.out]; simp only [ruE, e0, e1, e2]; simp)
                clear HD
                go_wp2_with fail
                go_quiet (fail)
                go_wp2_with fail
                go_ret
                exact ret_b HZ.out rfl (HW.out.drewN _).bel
              | true =>
                cases e3 : (x.expr.toList == y.expr.toList) with
                | false =>
                  have HZ : Hid (res = false) := Lib.hid (by rw [HN.out, HD.out]; simp only [ruE, e0, e1, e2, e3]; simp)
                  clear HD
                  go_wp2_with fail
                  go_quiet (fail)
                  go_wp2_with fail
                  go_ret
                  exact ret_b HZ.out rfl (HW.out.drewN _).bel
                | true =>
                  have HZ : Hid (eqL ruE ru1 ru2 = eqL ruE (ru1.drop (k + 1)) (ru2.drop (k + 1))) := Lib.hid (by rw [HD.out]; simp only [ruE, e0, e1, e2, e3]; rfl)
                  clear HD
                  go_wp2_with fail
                  go_quiet (fail)
                  go_wp2_with fail
                  go_roundw
                  case rel => exact ⟨k + 1, by omega, by go_num, HW.out.drewN _, HZ⟩
                  case measure => simp [intOf]; omega
        · have HZ : Hid (eqL ruE ru1 ru2 = true) := Lib.hid (by rw [HK.out, List.drop_eq_nil_of_le (by have := Hnn1.out; omega), List.drop_eq_nil_of_le (by have := Hnn2.out; omega)]; rfl)
          replace HN : Hid (res = (eqL eqEM qs1 qs2 && eqL rowEM es1 es2 && eqL rowEM ts1 ts2)) := Lib.hid (by rw [HN.out, HZ.out]; simp only [Bool.true_and])
          clear HK HZ
          go_wp2_with fail
          go_loopw [7] (fun i wr => ∃ k : Nat, k ≤ nq1 ∧ i = .int .i64 k ∧ B2 w 29 #[.string nm1, .int .i64 vr1, .slice Au1 nu1 cu1, .slice Ac1 nc1 cc1, .slice An1 nn1 cn1, .slice Aq1 nq1 cq1, .slice Ae1 ne1 ce1, .slice At1 nt1 ct1] #[.string nm2, .int .i64 vr2, .slice Au2 nu2 cu2, .slice Ac2 nc1 cc2, .slice An2 nn1 cn2, .slice Aq2 nq1 cq2, .slice Ae2 ne1 ce2, .slice At2 nt1 ct2] wr ∧ Hid (eqL eqEM qs1 qs2 = eqL eqEM (qs1.drop k) (qs2.drop k))) (fun i _ => nq1 - (intOf i).toNat)
          case atStart => exact ⟨0, by omega, rfl, HW.out, Lib.hid rfl⟩
          case round =>
            clear HW
            obtain ⟨k, hk, rfl, BWh, HK⟩ := hrel
            have hbel := BWh.bel
            have hsz := BWh.size
            have HW := Lib.hid BWh
            clear BWh
            have a5 : wr.cell? ⟨w.heap.size, 5, none⟩ = some (.slice Aq1 nq1 cq1) := (HW.out.a.cell 5).trans rfl
            have b5 : wr.cell? ⟨w.heap.size + 1, 5, none⟩ = some (.slice Aq2 nq1 cq2) := (HW.out.b.cell 5).trans rfl
            have a6 : wr.cell? ⟨w.heap.size, 6, none⟩ = some (.slice Ae1 ne1 ce1) := (HW.out.a.cell 6).trans rfl
            have b6 : wr.cell? ⟨w.heap.size + 1, 6, none⟩ = some (.slice Ae2 ne1 ce2) := (HW.out.b.cell 6).trans rfl
            by_cases hlt : k < nq1
            · obtain ⟨g1, o1, hA1, _, hg1, V1⟩ := HRq1.out.at_ (fun _ => rfl) (show 0 < nq1 by omega)
              obtain ⟨g2, o2, hA2, _, hg2, V2⟩ := HRq2.out.at_ (fun _ => rfl) (show 0 < nq1 by omega)
              simp only at hA1 hA2
              subst hA1 hA2
              obtain ⟨x, hx⟩ : ∃ x, qs1[k]? = some x := ⟨qs1[k]'(by have := Hnq1.out; have := Hnq2.out; omega), List.getElem?_eq_getElem _⟩
              obtain ⟨y, hy⟩ : ∃ y, qs2[k]? = some y := ⟨qs2[k]'(by have := Hnq1.out; have := Hnq2.out; omega), List.getElem?_eq_getElem _⟩
              obtain ⟨hlf1, hat1⟩ := V1 k x hx
              obtain ⟨hlf2, hat2⟩ := V2 k y hy
              have q1_0 : wr.cell? ⟨g1, o1 + k * 3, none⟩ = some (.string x.con) := (hbel.cell (p := ⟨_, _, none⟩) (show g1 < w.heap.size by omega)).trans (hat1 0 _ (by omega) rfl)
              have q1_1 : wr.cell? ⟨g1, o1 + k * 3 + 1, none⟩ = some (.slice x.L.A x.L.n x.L.c) := (hbel.cell (p := ⟨_, _, none⟩) (show g1 < w.heap.size by omega)).trans (hat1 1 _ (by omega) rfl)
              have q1_2 : wr.cell? ⟨g1, o1 + k * 3 + 2, none⟩ = some (.slice x.R.A x.R.n x.R.c) := (hbel.cell (p := ⟨_, _, none⟩) (show g1 < w.heap.size by omega)).trans (hat1 2 _ (by omega) rfl)
              have q2_0 : wr.cell? ⟨g2, o2 + k * 3, none⟩ = some (.string y.con) := (hbel.cell (p := ⟨_, _, none⟩) (show g2 < w.heap.size by omega)).trans (hat2 0 _ (by omega) rfl)
              have q2_1 : wr.cell? ⟨g2, o2 + k * 3 + 1, none⟩ = some (.slice y.L.A y.L.n y.L.c) := (hbel.cell (p := ⟨_, _, none⟩) (show g2 < w.heap.size by omega)).trans (hat2 1 _ (by omega) rfl)
              have q2_2 : wr.cell? ⟨g2, o2 + k * 3 + 2, none⟩ = some (.slice y.R.A y.R.n y.R.c) := (hbel.cell (p := ⟨_, _, none⟩) (show g2 < w.heap.size by omega)).trans (hat2 2 _ (by omega) rfl)
              have HD : Hid (eqL eqEM qs1 qs2 = (eqEM x y && eqL eqEM (qs1.drop (k + 1)) (qs2.drop (k + 1)))) := Lib.hid (by
                obtain ⟨hl1, e1⟩ := List.getElem?_eq_some_iff.1 hx
                obtain ⟨hl2, e2⟩ := List.getElem?_eq_some_iff.1 hy
                rw [HK.out, List.drop_eq_getElem_cons hl1, List.drop_eq_getElem_cons hl2, e1, e2]; rfl)
              have hlf1' := eqK.below hlf1 (hbel.mono hh)
              have hlf2' := eqK.below hlf2 (hbel.mono hh)
              have hE1 : ∀ X, Below wr.heap.size wr X → Calls Try.prog 27 #[.slice x.L.A x.L.n x.L.c, .slice y.L.A y.L.n y.L.c] X (Ret X (.bool (eqL sideEM x.ls y.ls))) := fun X hX => refSides_any X hi x.L y.L _ _ (GRow.below (hlf1'.l) sideK (hX.mono (by omega))) (GRow.below (hlf2'.l) sideK (hX.mono (by omega))) (by have := hX.size; omega)
              obtain ⟨r1, hr1⟩ : ∃ b, eqL sideEM x.ls y.ls = b := ⟨_, rfl⟩
              have hE2 : ∀ X, Below wr.heap.size wr X → Calls Try.prog 27 #[.slice x.R.A x.R.n x.R.c, .slice y.R.A y.R.n y.R.c] X (Ret X (.bool (eqL sideEM x.rs y.rs))) := fun X hX => refSides_any X hi x.R y.R _ _ (GRow.below (hlf1'.r) sideK (hX.mono (by omega))) (GRow.below (hlf2'.r) sideK (hX.mono (by omega))) (by have := hX.size; omega)
              obtain ⟨r2, hr2⟩ : ∃ b, eqL sideEM x.rs y.rs = b := ⟨_, rfl⟩
              have HE : Hid (eqEM x y = ((x.con.toList == y.con.toList) && r1 && r2)) := Lib.hid (by rw [← hr1, ← hr2]; rfl)
              rw [hr1] at hE1
              rw [hr2] at hE2
              obtain ⟨rr, hrr⟩ : ∃ b, eqEM x y = b := ⟨_, rfl⟩
              rw [hrr] at HD HE
              clear hrr hr1 hr2 hx hy V1 V2 hlf1 hlf2 hlf1' hlf2' hat1 hat2 HK
              obtain ⟨con3, ⟨Al3, nl3, cl3⟩, ls3, ⟨Ar3, nr3, cr3⟩, rs3⟩ := x
              obtain ⟨con4, ⟨Al4, nl4, cl4⟩, ls4, ⟨Ar4, nr4, cr4⟩, rs4⟩ := y
              simp only at HE hE1 hE2 q1_0 q1_1 q1_2 q2_0 q2_1 q2_2
              have HE5 := Lib.hid hE1
              have HE6 := Lib.hid hE2
              clear hE1 hE2
              have hg1w : g1 < wr.heap.size := by omega
              have hg2w : g2 < wr.heap.size := by omega
              have HSo : Hid (∀ X : World, Below wr.heap.size wr X → (X.cell? ⟨w.heap.size, 5, none⟩ = some (.slice (some ⟨g1, o1, none⟩) nq1 cq1) ∧ X.cell? ⟨w.heap.size + 1, 5, none⟩ = some (.slice (some ⟨g2, o2, none⟩) nq1 cq2) ∧ X.cell? ⟨g1, o1 + k * 3, none⟩ = some (.string con3) ∧ X.cell? ⟨g1, o1 + k * 3 + 1, none⟩ = some (.slice Al3 nl3 cl3) ∧ X.cell? ⟨g1, o1 + k * 3 + 2, none⟩ = some (.slice Ar3 nr3 cr3) ∧ X.cell? ⟨g2, o2 + k * 3, none⟩ = some (.string con4) ∧ X.cell? ⟨g2, o2 + k * 3 + 1, none⟩ = some (.slice Al4 nl4 cl4) ∧ X.cell? ⟨g2, o2 + k * 3 + 2, none⟩ = some (.slice Ar4 nr4 cr4))) := Lib.hid fun X hX => ⟨(hX.cell (p := ⟨_, _, none⟩) (by simp only; omega)).trans a5, (hX.cell (p := ⟨_, _, none⟩) (by simp only; omega)).trans b5, (hX.cell (p := ⟨_, _, none⟩) (by simp only; omega)).trans q1_0, (hX.cell (p := ⟨_, _, none⟩) (by simp only; omega)).trans q1_1, (hX.cell (p := ⟨_, _, none⟩) (by simp only; omega)).trans q1_2, (hX.cell (p := ⟨_, _, none⟩) (by simp only; omega)).trans q2_0, (hX.cell (p := ⟨_, _, none⟩) (by simp only; omega)).trans q2_1, (hX.cell (p := ⟨_, _, none⟩) (by simp only; omega)).trans q2_2⟩
              go_upto_region 16 with (fail)
              clear a5 b5 q1_0 q1_1 q1_2 q2_0 q2_1 q2_2
              have HBz : Hid (Below wr.heap.size wr wr.drew) := Lib.hid (drew1_below _)
              go_cut [8, 9] (fun s8 s9 wx => ∃ g8 g9 : Nat, s8 = .pointer (some ⟨g8, 0, none⟩) ∧ s9 = .pointer (some ⟨g9, 0, none⟩) ∧ Hid (Below wr.heap.size wr wx) ∧ Hid (Blk wx g8 53 #[.string con3, .slice Al3 nl3 cl3, .slice Ar3 nr3 cr3] ∧ Blk wx g9 53 #[.string con4, .slice Al4 nl4 cl4, .slice Ar4 nr4 cr4]))
              case first =>
                refine wp_region_held (S := (fun X : World => X.cell? ⟨w.heap.size, 5, none⟩ = some (.slice (some ⟨g1, o1, none⟩) nq1 cq1) ∧ X.cell? ⟨w.heap.size + 1, 5, none⟩ = some (.slice (some ⟨g2, o2, none⟩) nq1 cq2) ∧ X.cell? ⟨g1, o1 + k * 3, none⟩ = some (.string con3) ∧ X.cell? ⟨g1, o1 + k * 3 + 1, none⟩ = some (.slice Al3 nl3 cl3) ∧ X.cell? ⟨g1, o1 + k * 3 + 2, none⟩ = some (.slice Ar3 nr3 cr3) ∧ X.cell? ⟨g2, o2 + k * 3, none⟩ = some (.string con4) ∧ X.cell? ⟨g2, o2 + k * 3 + 1, none⟩ = some (.slice Al4 nl4 cl4) ∧ X.cell? ⟨g2, o2 + k * 3 + 2, none⟩ = some (.slice Ar4 nr4 cr4))) (by kernel_rfl) ?_
                show wpAnyH _ _ _ _ _ 14 (Array.replicate 14 false) _ wr.drew
                generalize wr.drew = wz at HBz ⊢
                have hHeld : (fun X : World => X.cell? ⟨w.heap.size, 5, none⟩ = some (.slice (some ⟨g1, o1, none⟩) nq1 cq1) ∧ X.cell? ⟨w.heap.size + 1, 5, none⟩ = some (.slice (some ⟨g2, o2, none⟩) nq1 cq2) ∧ X.cell? ⟨g1, o1 + k * 3, none⟩ = some (.string con3) ∧ X.cell? ⟨g1, o1 + k * 3 + 1, none⟩ = some (.slice Al3 nl3 cl3) ∧ X.cell? ⟨g1, o1 + k * 3 + 2, none⟩ = some (.slice Ar3 nr3 cr3) ∧ X.cell? ⟨g2, o2 + k * 3, none⟩ = some (.string con4) ∧ X.cell? ⟨g2, o2 + k * 3 + 1, none⟩ = some (.slice Al4 nl4 cl4) ∧ X.cell? ⟨g2, o2 + k * 3 + 2, none⟩ = some (.slice Ar4 nr4 cr4)) wz := HSo.out _ HBz.out
                refine wpAnyH_take (i := 0) (v := (.pointer (some ⟨w.heap.size, 5, none⟩))) rfl (by kernel_rfl) (by kernel_rfl) (by kernel_rfl) (fun _ _ _ h => h) (Or.inl ⟨by rfl, ?yeq_1⟩) (by assumption) ?qeq_1
                case yeq_1 => (intro w hSw; (try dsimp only at hSw); go_simp)
                case qeq_1 =>
                  (try simp only [Act.put]); (try simp only [List.setIfInBounds_toArray])
                  refine wpAnyH_take (i := 1) (v := (.slice (some ⟨g1, o1, none⟩) nq1 cq1)) rfl (by kernel_rfl) (by kernel_rfl) (by kernel_rfl) (fun _ _ _ h => h) (Or.inl ⟨by rfl, ?yeq_2⟩) (by assumption) ?qeq_2
                  case yeq_2 => (intro w hSw; (try dsimp only at hSw); go_simp)
                  case qeq_2 =>
                    (try simp only [Act.put]); (try simp only [List.setIfInBounds_toArray])
                    refine wpAnyH_take (i := 2) (v := (.int .i64 k)) rfl (by kernel_rfl) (by kernel_rfl) (by kernel_rfl) (fun _ _ _ h => h) (Or.inl ⟨by rfl, ?yeq_3⟩) (by assumption) ?qeq_3
                    case yeq_3 => (intro w hSw; (try dsimp only at hSw); go_simp)
                    case qeq_3 =>
                      (try simp only [Act.put]); (try simp only [List.setIfInBounds_toArray])
                      refine wpAnyH_take (i := 3) (v := (.pointer (some ⟨g1, o1 + k * 3, none⟩))) rfl (by kernel_rfl) (by kernel_rfl) (by kernel_rfl) (fun _ _ _ h => h) (Or.inl ⟨by rfl, ?yeq_4⟩) (by assumption) ?qeq_4
                      case yeq_4 => (intro w hSw; (try dsimp only at hSw); go_simp)
                      case qeq_4 =>
                        (try simp only [Act.put]); (try simp only [List.setIfInBounds_toArray])
                        refine wpAnyH_take (i := 4) (v := (.agg #[.string con3, .slice Al3 nl3 cl3, .slice Ar3 nr3 cr3])) rfl (by kernel_rfl) (by kernel_rfl) (by kernel_rfl) (fun _ _ _ h => h) (Or.inl ⟨by rfl, ?yeq_5⟩) (by assumption) ?qeq_5
                        case yeq_5 => (intro w hSw; (try dsimp only at hSw); go_simp)
                        case qeq_5 =>
                          (try simp only [Act.put]); (try simp only [List.setIfInBounds_toArray])
                          refine wpAnyH_take (i := 5) (v := (.pointer (some ⟨w.heap.size + 1, 5, none⟩))) rfl (by kernel_rfl) (by kernel_rfl) (by kernel_rfl) (fun _ _ _ h => h) (Or.inl ⟨by rfl, ?yeq_6⟩) (by assumption) ?qeq_6
                          case yeq_6 => (intro w hSw; (try dsimp only at hSw); go_simp)
                          case qeq_6 =>
                            (try simp only [Act.put]); (try simp only [List.setIfInBounds_toArray])
                            refine wpAnyH_take (i := 6) (v := (.slice (some ⟨g2, o2, none⟩) nq1 cq2)) rfl (by kernel_rfl) (by kernel_rfl) (by kernel_rfl) (fun _ _ _ h => h) (Or.inl ⟨by rfl, ?yeq_7⟩) (by assumption) ?qeq_7
                            case yeq_7 => (intro w hSw; (try dsimp only at hSw); go_simp)
                            case qeq_7 =>
                              (try simp only [Act.put]); (try simp only [List.setIfInBounds_toArray])
                              refine wpAnyH_take (i := 7) (v := (.int .i64 k)) rfl (by kernel_rfl) (by kernel_rfl) (by kernel_rfl) (fun _ _ _ h => h) (Or.inl ⟨by rfl, ?yeq_8⟩) (by assumption) ?qeq_8
                              case yeq_8 => (intro w hSw; (try dsimp only at hSw); go_simp)
                              case qeq_8 =>
                                (try simp only [Act.put]); (try simp only [List.setIfInBounds_toArray])
                                refine wpAnyH_take (i := 8) (v := (.pointer (some ⟨g2, o2 + k * 3, none⟩))) rfl (by kernel_rfl) (by kernel_rfl) (by kernel_rfl) (fun _ _ _ h => h) (Or.inl ⟨by rfl, ?yeq_9⟩) (by assumption) ?qeq_9
                                case yeq_9 => (intro w hSw; (try dsimp only at hSw); go_simp)
                                case qeq_9 =>
                                  (try simp only [Act.put]); (try simp only [List.setIfInBounds_toArray])
                                  refine wpAnyH_take (i := 9) (v := (.agg #[.string con4, .slice Al4 nl4 cl4, .slice Ar4 nr4 cr4])) rfl (by kernel_rfl) (by kernel_rfl) (by kernel_rfl) (fun _ _ _ h => h) (Or.inl ⟨by rfl, ?yeq_10⟩) (by assumption) ?qeq_10
                                  case yeq_10 => (intro w hSw; (try dsimp only at hSw); go_simp)
                                  case qeq_10 =>
                                    (try simp only [Act.put]); (try simp only [List.setIfInBounds_toArray])
                                    refine wpAnyH_ready (rs := [10, 11]) (by kernel_rfl) (by simp) ?_
                                    refine AllReadyH.cons rfl (fun K hK => ?seq_11) ?meq_11
                                    case seq_11 =>
                                      (refine step_alloc _ (by rfl) 53 #[.string ⟨#[]⟩, .slice none 0 0, .slice none 0 0] (by go_simp) ?_; intro g8 Y8 hx8 hb8 hs8; have HU8 := Lib.hid hx8; have HG8 := Lib.hid (Nat.le_trans HBz.out.size hs8); replace HBz := Lib.hid (HBz.out.trans (hb8.mono HBz.out.size)); clear hx8 hb8 hs8)
                                      refine hK.out _ _ ?keq_11 (fun hHeld => ?qeq_11)
                                      case keq_11 => ((try dsimp only); exact HSo.out _ HBz.out)
                                      case qeq_11 =>
                                        clear hK K
                                        (try simp only [Act.put]); (try simp only [List.setIfInBounds_toArray])
                                        refine wpAnyH_ready (rs := [11]) (by kernel_rfl) (by simp) ?_
                                        refine AllReadyH.cons rfl (fun K hK => ?seq_12) ?meq_12
                                        case seq_12 =>
                                          (refine step_alloc _ (by rfl) 53 #[.string ⟨#[]⟩, .slice none 0 0, .slice none 0 0] (by go_simp) ?_; intro g9 Y9 hx9 hb9 hs9; have HU9 := Lib.hid hx9; have HG9 := Lib.hid (Nat.le_trans HBz.out.size hs9); have HNE := Lib.hid (Nat.lt_of_lt_of_le HU8.out.lt hs9); replace HU8 := Lib.hid (HU8.out.after hb9); replace HBz := Lib.hid (HBz.out.trans (hb9.mono HBz.out.size)); clear hx9 hb9 hs9)
                                          refine hK.out _ _ ?keq_12 (fun hHeld => ?qeq_12)
                                          case keq_12 => ((try dsimp only); exact HSo.out _ HBz.out)
                                          case qeq_12 =>
                                            clear hK K
                                            (try simp only [Act.put]); (try simp only [List.setIfInBounds_toArray])
                                            refine wpAnyH_ready (rs := [12]) (by kernel_rfl) (by simp) ?_
                                            refine AllReadyH.cons rfl (fun K hK => ?seq_13) ?meq_13
                                            case seq_13 =>
                                              (have z0 := (HU8.out.cell 0).trans (show _ = some (.string ⟨#[]⟩) from rfl); have f0 := HU8.out.frozen 0; have z1 := (HU8.out.cell 1).trans (show _ = some (.slice none 0 0) from rfl); have f1 := HU8.out.frozen 1; have z2 := (HU8.out.cell 2).trans (show _ = some (.slice none 0 0) from rfl); have f2 := HU8.out.frozen 2; have HL := Lib.hid (lay3 HBz.out HU8.out HG8.out (.string con3) (.slice Al3 nl3 cl3) (.slice Ar3 nr3 cr3)); replace HBz := Lib.hid HL.out.1; replace HU9 := Lib.hid (HL.out.2.2 _ _ _ (Nat.ne_of_gt HNE.out) HU9.out); replace HU8 := Lib.hid HL.out.2.1; clear HL; go_simp)
                                              refine hK.out _ _ ?keq_13 (fun hHeld => ?qeq_13)
                                              case keq_13 => ((try dsimp only); exact HSo.out _ HBz.out)
                                              case qeq_13 =>
                                                clear hK K
                                                (try simp only [Act.put]); (try simp only [List.setIfInBounds_toArray])
                                                refine wpAnyH_ready (rs := [13]) (by kernel_rfl) (by simp) ?_
                                                refine AllReadyH.cons rfl (fun K hK => ?seq_14) ?meq_14
                                                case seq_14 =>
                                                  (have z0 := (HU9.out.cell 0).trans (show _ = some (.string ⟨#[]⟩) from rfl); have f0 := HU9.out.frozen 0; have z1 := (HU9.out.cell 1).trans (show _ = some (.slice none 0 0) from rfl); have f1 := HU9.out.frozen 1; have z2 := (HU9.out.cell 2).trans (show _ = some (.slice none 0 0) from rfl); have f2 := HU9.out.frozen 2; have HL := Lib.hid (lay3 HBz.out HU9.out HG9.out (.string con4) (.slice Al4 nl4 cl4) (.slice Ar4 nr4 cr4)); replace HBz := Lib.hid HL.out.1; replace HU8 := Lib.hid (HL.out.2.2 _ _ _ (Nat.ne_of_lt HNE.out) HU8.out); replace HU9 := Lib.hid HL.out.2.1; clear HL; go_simp)
                                                  refine hK.out _ _ ?keq_14 (fun hHeld => ?qeq_14)
                                                  case keq_14 => ((try dsimp only); exact HSo.out _ HBz.out)
                                                  case qeq_14 =>
                                                    clear hK K
                                                    (try simp only [Act.put]); (try simp only [List.setIfInBounds_toArray])
                                                    refine wpAnyH_done (by kernel_rfl) ?_ _
                                                    clear hHeld
                                                    go_wp2_with fail
                                                    go_meet
                                                    exact ⟨g8, g9, rfl, rfl, HBz, Lib.hid ⟨HU8.out, HU9.out⟩⟩
                                                case meq_14 =>
                                                  exact AllReadyH.nil
                                            case meq_13 =>
                                              exact AllReadyH.nil
                                        case meq_12 =>
                                          exact AllReadyH.nil
                                    case meq_11 =>
                                      refine AllReadyH.cons rfl (fun K hK => ?seq_15) ?meq_15
                                      case seq_15 =>
                                        (refine step_alloc _ (by rfl) 53 #[.string ⟨#[]⟩, .slice none 0 0, .slice none 0 0] (by go_simp) ?_; intro g9 Y9 hx9 hb9 hs9; have HU9 := Lib.hid hx9; have HG9 := Lib.hid (Nat.le_trans HBz.out.size hs9); replace HBz := Lib.hid (HBz.out.trans (hb9.mono HBz.out.size)); clear hx9 hb9 hs9)
                                        refine hK.out _ _ ?keq_15 (fun hHeld => ?qeq_15)
                                        case keq_15 => ((try dsimp only); exact HSo.out _ HBz.out)
                                        case qeq_15 =>
                                          clear hK K
                                          (try simp only [Act.put]); (try simp only [List.setIfInBounds_toArray])
                                          refine wpAnyH_ready (rs := [10]) (by kernel_rfl) (by simp) ?_
                                          refine AllReadyH.cons rfl (fun K hK => ?seq_16) ?meq_16
                                          case seq_16 =>
                                            (refine step_alloc _ (by rfl) 53 #[.string ⟨#[]⟩, .slice none 0 0, .slice none 0 0] (by go_simp) ?_; intro g8 Y8 hx8 hb8 hs8; have HU8 := Lib.hid hx8; have HG8 := Lib.hid (Nat.le_trans HBz.out.size hs8); have HNE := Lib.hid (Nat.lt_of_lt_of_le HU9.out.lt hs8); replace HU9 := Lib.hid (HU9.out.after hb8); replace HBz := Lib.hid (HBz.out.trans (hb8.mono HBz.out.size)); clear hx8 hb8 hs8)
                                            refine hK.out _ _ ?keq_16 (fun hHeld => ?qeq_16)
                                            case keq_16 => ((try dsimp only); exact HSo.out _ HBz.out)
                                            case qeq_16 =>
                                              clear hK K
                                              (try simp only [Act.put]); (try simp only [List.setIfInBounds_toArray])
                                              refine wpAnyH_ready (rs := [12]) (by kernel_rfl) (by simp) ?_
                                              refine AllReadyH.cons rfl (fun K hK => ?seq_17) ?meq_17
                                              case seq_17 =>
                                                (have z0 := (HU8.out.cell 0).trans (show _ = some (.string ⟨#[]⟩) from rfl); have f0 := HU8.out.frozen 0; have z1 := (HU8.out.cell 1).trans (show _ = some (.slice none 0 0) from rfl); have f1 := HU8.out.frozen 1; have z2 := (HU8.out.cell 2).trans (show _ = some (.slice none 0 0) from rfl); have f2 := HU8.out.frozen 2; have HL := Lib.hid (lay3 HBz.out HU8.out HG8.out (.string con3) (.slice Al3 nl3 cl3) (.slice Ar3 nr3 cr3)); replace HBz := Lib.hid HL.out.1; replace HU9 := Lib.hid (HL.out.2.2 _ _ _ (Nat.ne_of_lt HNE.out) HU9.out); replace HU8 := Lib.hid HL.out.2.1; clear HL; go_simp)
                                                refine hK.out _ _ ?keq_17 (fun hHeld => ?qeq_17)
                                                case keq_17 => ((try dsimp only); exact HSo.out _ HBz.out)
                                                case qeq_17 =>
                                                  clear hK K
                                                  (try simp only [Act.put]); (try simp only [List.setIfInBounds_toArray])
                                                  refine wpAnyH_ready (rs := [13]) (by kernel_rfl) (by simp) ?_
                                                  refine AllReadyH.cons rfl (fun K hK => ?seq_18) ?meq_18
                                                  case seq_18 =>
                                                    (have z0 := (HU9.out.cell 0).trans (show _ = some (.string ⟨#[]⟩) from rfl); have f0 := HU9.out.frozen 0; have z1 := (HU9.out.cell 1).trans (show _ = some (.slice none 0 0) from rfl); have f1 := HU9.out.frozen 1; have z2 := (HU9.out.cell 2).trans (show _ = some (.slice none 0 0) from rfl); have f2 := HU9.out.frozen 2; have HL := Lib.hid (lay3 HBz.out HU9.out HG9.out (.string con4) (.slice Al4 nl4 cl4) (.slice Ar4 nr4 cr4)); replace HBz := Lib.hid HL.out.1; replace HU8 := Lib.hid (HL.out.2.2 _ _ _ (Nat.ne_of_gt HNE.out) HU8.out); replace HU9 := Lib.hid HL.out.2.1; clear HL; go_simp)
                                                    refine hK.out _ _ ?keq_18 (fun hHeld => ?qeq_18)
                                                    case keq_18 => ((try dsimp only); exact HSo.out _ HBz.out)
                                                    case qeq_18 =>
                                                      clear hK K
                                                      (try simp only [Act.put]); (try simp only [List.setIfInBounds_toArray])
                                                      refine wpAnyH_done (by kernel_rfl) ?_ _
                                                      clear hHeld
                                                      go_wp2_with fail
                                                      go_meet
                                                      exact ⟨g8, g9, rfl, rfl, HBz, Lib.hid ⟨HU8.out, HU9.out⟩⟩
                                                  case meq_18 =>
                                                    exact AllReadyH.nil
                                              case meq_17 =>
                                                exact AllReadyH.nil
                                          case meq_16 =>
                                            exact AllReadyH.nil
                                      case meq_15 =>
                                        exact AllReadyH.nil
              case rest =>
                obtain ⟨g8, g9, rfl, rfl, HBz, HBx⟩ := hcut
                rename World => wc
                have u0 : wc.cell? ⟨g8, 0, none⟩ = some (.string con3) := (HBx.out.1.cell 0).trans rfl
                have u1 : wc.cell? ⟨g8, 1, none⟩ = some (.slice Al3 nl3 cl3) := (HBx.out.1.cell 1).trans rfl
                have u2 : wc.cell? ⟨g8, 2, none⟩ = some (.slice Ar3 nr3 cr3) := (HBx.out.1.cell 2).trans rfl
                have v0 : wc.cell? ⟨g9, 0, none⟩ = some (.string con4) := (HBx.out.2.cell 0).trans rfl
                have v1 : wc.cell? ⟨g9, 1, none⟩ = some (.slice Al4 nl4 cl4) := (HBx.out.2.cell 1).trans rfl
                have v2 : wc.cell? ⟨g9, 2, none⟩ = some (.slice Ar4 nr4 cr4) := (HBx.out.2.cell 2).trans rfl
                have hg8 := HBx.out.1.lt
                have hg9 := HBx.out.2.lt
                clear HBx
                cases e0 : (con3.toList == con4.toList) with
                | false =>
                  have m0 : (con3.toList != con4.toList) = true := by unfold bne; rw [e0]; rfl
                  replace HN : Hid (res = false) := Lib.hid (by rw [HN.out, HD.out, HE.out, e0]; simp)
                  clear HD HE
                  go_wp2_with fail
                  go_ret
                  exact ret_b HN.out rfl (HW.out.after HBz.out).bel
                | true =>
                  have m0 : (con3.toList != con4.toList) = false := by unfold bne; rw [e0]; rfl
                  cases r1 with
                  | false =>
                    replace HN : Hid (res = false) := Lib.hid (by rw [HN.out, HD.out, HE.out]; simp)
                    clear HD HE
                    go_wp2_with (first | (go_at_call 27; (with_reducible refine (HE6.out _ HC1.out).mono ?_); rintro e w6 ⟨rfl, hb6⟩; obtain ⟨s6, t6⟩ := bcell hb6; have HC2 := Lib.hid (HC1.out.trans (hb6.mono HC1.out.size)); have hg86 := Nat.lt_of_lt_of_le hg85 hb6.size; have hg96 := Nat.lt_of_lt_of_le hg95 hb6.size; clear hb6) | (go_at_call 27; (with_reducible refine (HE5.out _ HBz.out).mono ?_); rintro e w5 ⟨rfl, hb5⟩; obtain ⟨s5, t5⟩ := bcell hb5; have HC1 := Lib.hid (HBz.out.trans (hb5.mono HBz.out.size)); have hg85 := Nat.lt_of_lt_of_le hg8 hb5.size; have hg95 := Nat.lt_of_lt_of_le hg9 hb5.size; clear hb5))
                    go_ret
                    exact ret_b HN.out rfl (HW.out.after HC1.out).bel
                  | true =>
                    cases r2 with
                    | false =>
                      replace HN : Hid (res = false) := Lib.hid (by rw [HN.out, HD.out, HE.out]; simp)
                      clear HD HE
                      go_wp2_with (first | (go_at_call 27; (with_reducible refine (HE6.out _ HC1.out).mono ?_); rintro e w6 ⟨rfl, hb6⟩; obtain ⟨s6, t6⟩ := bcell hb6; have HC2 := Lib.hid (HC1.out.trans (hb6.mono HC1.out.size)); have hg86 := Nat.lt_of_lt_of_le hg85 hb6.size; have hg96 := Nat.lt_of_lt_of_le hg95 hb6.size; clear hb6) | (go_at_call 27; (with_reducible refine (HE5.out _ HBz.out).mono ?_); rintro e w5 ⟨rfl, hb5⟩; obtain ⟨s5, t5⟩ := bcell hb5; have HC1 := Lib.hid (HBz.out.trans (hb5.mono HBz.out.size)); have hg85 := Nat.lt_of_lt_of_le hg8 hb5.size; have hg95 := Nat.lt_of_lt_of_le hg9 hb5.size; clear hb5))
                      go_ret
                      exact ret_b HN.out rfl (HW.out.after HC2.out).bel
                    | true =>
                      have HZ : Hid (eqL eqEM qs1 qs2 = eqL eqEM (qs1.drop (k + 1)) (qs2.drop (k + 1))) := Lib.hid (by rw [HD.out, HE.out, e0]; rfl)
                      clear HD HE
                      go_wp2_with (first | (go_at_call 27; (with_reducible refine (HE6.out _ HC1.out).mono ?_); rintro e w6 ⟨rfl, hb6⟩; obtain ⟨s6, t6⟩ := bcell hb6; have HC2 := Lib.hid (HC1.out.trans (hb6.mono HC1.out.size)); have hg86 := Nat.lt_of_lt_of_le hg85 hb6.size; have hg96 := Nat.lt_of_lt_of_le hg95 hb6.size; clear hb6) | (go_at_call 27; (with_reducible refine (HE5.out _ HBz.out).mono ?_); rintro e w5 ⟨rfl, hb5⟩; obtain ⟨s5, t5⟩ := bcell hb5; have HC1 := Lib.hid (HBz.out.trans (hb5.mono HBz.out.size)); have hg85 := Nat.lt_of_lt_of_le hg8 hb5.size; have hg95 := Nat.lt_of_lt_of_le hg9 hb5.size; clear hb5))
                      go_roundw
                      case rel => exact ⟨k + 1, by omega, by go_num, HW.out.after HC2.out, HZ⟩
                      case measure => simp [intOf]; omega
            · have HZ : Hid (eqL eqEM qs1 qs2 = true) := Lib.hid (by rw [HK.out, List.drop_eq_nil_of_le (by have := Hnq1.out; omega), List.drop_eq_nil_of_le (by have := Hnq2.out; omega)]; rfl)
              replace HN : Hid (res = (eqL rowEM es1 es2 && eqL rowEM ts1 ts2)) := Lib.hid (by rw [HN.out, HZ.out]; simp only [Bool.true_and])
              clear HK HZ
              go_wp2_with fail
              go_loopw [10] (fun i wr => ∃ k : Nat, k ≤ ne1 ∧ i = .int .i64 k ∧ B2 w 29 #[.string nm1, .int .i64 vr1, .slice Au1 nu1 cu1, .slice Ac1 nc1 cc1, .slice An1 nn1 cn1, .slice Aq1 nq1 cq1, .slice Ae1 ne1 ce1, .slice At1 nt1 ct1] #[.string nm2, .int .i64 vr2, .slice Au2 nu2 cu2, .slice Ac2 nc1 cc2, .slice An2 nn1 cn2, .slice Aq2 nq1 cq2, .slice Ae2 ne1 ce2, .slice At2 nt1 ct2] wr ∧ Hid (eqL rowEM es1 es2 = eqL rowEM (es1.drop k) (es2.drop k))) (fun i _ => ne1 - (intOf i).toNat)
              case atStart => exact ⟨0, by omega, rfl, HW.out, Lib.hid rfl⟩
              case round =>
                clear HW
                obtain ⟨k, hk, rfl, BWh, HK⟩ := hrel
                have hbel := BWh.bel
                have hsz := BWh.size
                have HW := Lib.hid BWh
                clear BWh
                have a6 : wr.cell? ⟨w.heap.size, 6, none⟩ = some (.slice Ae1 ne1 ce1) := (HW.out.a.cell 6).trans rfl
                have b6 : wr.cell? ⟨w.heap.size + 1, 6, none⟩ = some (.slice Ae2 ne1 ce2) := (HW.out.b.cell 6).trans rfl
                have a7 : wr.cell? ⟨w.heap.size, 7, none⟩ = some (.slice At1 nt1 ct1) := (HW.out.a.cell 7).trans rfl
                have b7 : wr.cell? ⟨w.heap.size + 1, 7, none⟩ = some (.slice At2 nt1 ct2) := (HW.out.b.cell 7).trans rfl
                by_cases hlt : k < ne1
                · obtain ⟨g1, o1, hA1, _, hg1, V1⟩ := HRe1.out.at_ (fun _ => rfl) (show 0 < ne1 by omega)
                  obtain ⟨g2, o2, hA2, _, hg2, V2⟩ := HRe2.out.at_ (fun _ => rfl) (show 0 < ne1 by omega)
                  simp only at hA1 hA2
                  subst hA1 hA2
                  obtain ⟨x, hx⟩ : ∃ x, es1[k]? = some x := ⟨es1[k]'(by have := Hne1.out; have := Hne2.out; omega), List.getElem?_eq_getElem _⟩
                  obtain ⟨y, hy⟩ : ∃ y, es2[k]? = some y := ⟨es2[k]'(by have := Hne1.out; have := Hne2.out; omega), List.getElem?_eq_getElem _⟩
                  obtain ⟨hlf1, hat1⟩ := V1 k x hx
                  obtain ⟨hlf2, hat2⟩ := V2 k y hy
                  have q1_0 : wr.cell? ⟨g1, o1 + k * 2, none⟩ = some (.string x.1.con) := (hbel.cell (p := ⟨_, _, none⟩) (show g1 < w.heap.size by omega)).trans (hat1 0 _ (by omega) rfl)
                  have q1_1 : wr.cell? ⟨g1, o1 + k * 2 + 1, none⟩ = some (.slice x.2.A x.2.n x.2.c) := (hbel.cell (p := ⟨_, _, none⟩) (show g1 < w.heap.size by omega)).trans (hat1 1 _ (by omega) rfl)
                  have q2_0 : wr.cell? ⟨g2, o2 + k * 2, none⟩ = some (.string y.1.con) := (hbel.cell (p := ⟨_, _, none⟩) (show g2 < w.heap.size by omega)).trans (hat2 0 _ (by omega) rfl)
                  have q2_1 : wr.cell? ⟨g2, o2 + k * 2 + 1, none⟩ = some (.slice y.2.A y.2.n y.2.c) := (hbel.cell (p := ⟨_, _, none⟩) (show g2 < w.heap.size by omega)).trans (hat2 1 _ (by omega) rfl)
                  have HD : Hid (eqL rowEM es1 es2 = (rowEM x y && eqL rowEM (es1.drop (k + 1)) (es2.drop (k + 1)))) := Lib.hid (by
                    obtain ⟨hl1, e1⟩ := List.getElem?_eq_some_iff.1 hx
                    obtain ⟨hl2, e2⟩ := List.getElem?_eq_some_iff.1 hy
                    rw [HK.out, List.drop_eq_getElem_cons hl1, List.drop_eq_getElem_cons hl2, e1, e2]; rfl)
                  have hlf1' := rowK.below hlf1 (hbel.mono hh)
                  have hlf2' := rowK.below hlf2 (hbel.mono hh)
                  have hE1 : ∀ X, Below wr.heap.size wr X → Calls Try.prog 28 #[.slice x.2.A x.2.n x.2.c, .slice y.2.A y.2.n y.2.c] X (Ret X (.bool (eqL ceE x.1.cells y.1.cells))) := fun X hX => (refCells_any X 0 hi 0 hi _ _ _ _ _ _ _ _ (Row.below hlf1'.q (hX.mono (by omega))) (Row.below hlf2'.q (hX.mono (by omega)))).mono fun _ _ => ret_of_drew
                  obtain ⟨r1, hr1⟩ : ∃ b, eqL ceE x.1.cells y.1.cells = b := ⟨_, rfl⟩
                  have HE : Hid (rowEM x y = ((x.1.con.toList == y.1.con.toList) && r1)) := Lib.hid (by rw [← hr1]; rfl)
                  rw [hr1] at hE1
                  obtain ⟨rr, hrr⟩ : ∃ b, rowEM x y = b := ⟨_, rfl⟩
                  rw [hrr] at HD HE
                  clear hrr hr1 hx hy V1 V2 hlf1 hlf2 hlf1' hlf2' hat1 hat2 HK
                  obtain ⟨x3, ⟨Aq3, nq3, cq3⟩⟩ := x
                  obtain ⟨x4, ⟨Aq4, nq4, cq4⟩⟩ := y
                  simp only at HE hE1 q1_0 q1_1 q2_0 q2_1
                  have HE5 := Lib.hid hE1
                  clear hE1
                  have hg1w : g1 < wr.heap.size := by omega
                  have hg2w : g2 < wr.heap.size := by omega
                  have HSo : Hid (∀ X : World, Below wr.heap.size wr X → (X.cell? ⟨w.heap.size, 6, none⟩ = some (.slice (some ⟨g1, o1, none⟩) ne1 ce1) ∧ X.cell? ⟨w.heap.size + 1, 6, none⟩ = some (.slice (some ⟨g2, o2, none⟩) ne1 ce2) ∧ X.cell? ⟨g1, o1 + k * 2, none⟩ = some (.string x3.con) ∧ X.cell? ⟨g1, o1 + k * 2 + 1, none⟩ = some (.slice Aq3 nq3 cq3) ∧ X.cell? ⟨g2, o2 + k * 2, none⟩ = some (.string x4.con) ∧ X.cell? ⟨g2, o2 + k * 2 + 1, none⟩ = some (.slice Aq4 nq4 cq4))) := Lib.hid fun X hX => ⟨(hX.cell (p := ⟨_, _, none⟩) (by simp only; omega)).trans a6, (hX.cell (p := ⟨_, _, none⟩) (by simp only; omega)).trans b6, (hX.cell (p := ⟨_, _, none⟩) (by simp only; omega)).trans q1_0, (hX.cell (p := ⟨_, _, none⟩) (by simp only; omega)).trans q1_1, (hX.cell (p := ⟨_, _, none⟩) (by simp only; omega)).trans q2_0, (hX.cell (p := ⟨_, _, none⟩) (by simp only; omega)).trans q2_1⟩
                  go_upto_region 22 with (fail)
                  clear a6 b6 q1_0 q1_1 q2_0 q2_1
                  have HBz : Hid (Below wr.heap.size wr wr.drew) := Lib.hid (drew1_below _)
                  go_cut [11, 12] (fun s8 s9 wx => ∃ g8 g9 : Nat, s8 = .pointer (some ⟨g8, 0, none⟩) ∧ s9 = .pointer (some ⟨g9, 0, none⟩) ∧ Hid (Below wr.heap.size wr wx) ∧ Hid (Blk wx g8 56 #[.string x3.con, .slice Aq3 nq3 cq3] ∧ Blk wx g9 56 #[.string x4.con, .slice Aq4 nq4 cq4]))
                  case first =>
                    refine wp_region_held (S := (fun X : World => X.cell? ⟨w.heap.size, 6, none⟩ = some (.slice (some ⟨g1, o1, none⟩) ne1 ce1) ∧ X.cell? ⟨w.heap.size + 1, 6, none⟩ = some (.slice (some ⟨g2, o2, none⟩) ne1 ce2) ∧ X.cell? ⟨g1, o1 + k * 2, none⟩ = some (.string x3.con) ∧ X.cell? ⟨g1, o1 + k * 2 + 1, none⟩ = some (.slice Aq3 nq3 cq3) ∧ X.cell? ⟨g2, o2 + k * 2, none⟩ = some (.string x4.con) ∧ X.cell? ⟨g2, o2 + k * 2 + 1, none⟩ = some (.slice Aq4 nq4 cq4))) (by kernel_rfl) ?_
                    show wpAnyH _ _ _ _ _ 14 (Array.replicate 14 false) _ wr.drew
                    generalize wr.drew = wz at HBz ⊢
                    have hHeld : (fun X : World => X.cell? ⟨w.heap.size, 6, none⟩ = some (.slice (some ⟨g1, o1, none⟩) ne1 ce1) ∧ X.cell? ⟨w.heap.size + 1, 6, none⟩ = some (.slice (some ⟨g2, o2, none⟩) ne1 ce2) ∧ X.cell? ⟨g1, o1 + k * 2, none⟩ = some (.string x3.con) ∧ X.cell? ⟨g1, o1 + k * 2 + 1, none⟩ = some (.slice Aq3 nq3 cq3) ∧ X.cell? ⟨g2, o2 + k * 2, none⟩ = some (.string x4.con) ∧ X.cell? ⟨g2, o2 + k * 2 + 1, none⟩ = some (.slice Aq4 nq4 cq4)) wz := HSo.out _ HBz.out
                    refine wpAnyH_take (i := 0) (v := (.pointer (some ⟨w.heap.size, 6, none⟩))) rfl (by kernel_rfl) (by kernel_rfl) (by kernel_rfl) (fun _ _ _ h => h) (Or.inl ⟨by rfl, ?yed_1⟩) (by assumption) ?qed_1
                    case yed_1 => (intro w hSw; (try dsimp only at hSw); go_simp)
                    case qed_1 =>
                      (try simp only [Act.put]); (try simp only [List.setIfInBounds_toArray])
                      refine wpAnyH_take (i := 1) (v := (.slice (some ⟨g1, o1, none⟩) ne1 ce1)) rfl (by kernel_rfl) (by kernel_rfl) (by kernel_rfl) (fun _ _ _ h => h) (Or.inl ⟨by rfl, ?yed_2⟩) (by assumption) ?qed_2
                      case yed_2 => (intro w hSw; (try dsimp only at hSw); go_simp)
                      case qed_2 =>
                        (try simp only [Act.put]); (try simp only [List.setIfInBounds_toArray])
                        refine wpAnyH_take (i := 2) (v := (.int .i64 k)) rfl (by kernel_rfl) (by kernel_rfl) (by kernel_rfl) (fun _ _ _ h => h) (Or.inl ⟨by rfl, ?yed_3⟩) (by assumption) ?qed_3
                        case yed_3 => (intro w hSw; (try dsimp only at hSw); go_simp)
                        case qed_3 =>
                          (try simp only [Act.put]); (try simp only [List.setIfInBounds_toArray])
                          refine wpAnyH_take (i := 3) (v := (.pointer (some ⟨g1, o1 + k * 2, none⟩))) rfl (by kernel_rfl) (by kernel_rfl) (by kernel_rfl) (fun _ _ _ h => h) (Or.inl ⟨by rfl, ?yed_4⟩) (by assumption) ?qed_4
                          case yed_4 => (intro w hSw; (try dsimp only at hSw); go_simp)
                          case qed_4 =>
                            (try simp only [Act.put]); (try simp only [List.setIfInBounds_toArray])
                            refine wpAnyH_take (i := 4) (v := (.agg #[.string x3.con, .slice Aq3 nq3 cq3])) rfl (by kernel_rfl) (by kernel_rfl) (by kernel_rfl) (fun _ _ _ h => h) (Or.inl ⟨by rfl, ?yed_5⟩) (by assumption) ?qed_5
                            case yed_5 => (intro w hSw; (try dsimp only at hSw); go_simp)
                            case qed_5 =>
                              (try simp only [Act.put]); (try simp only [List.setIfInBounds_toArray])
                              refine wpAnyH_take (i := 5) (v := (.pointer (some ⟨w.heap.size + 1, 6, none⟩))) rfl (by kernel_rfl) (by kernel_rfl) (by kernel_rfl) (fun _ _ _ h => h) (Or.inl ⟨by rfl, ?yed_6⟩) (by assumption) ?qed_6
                              case yed_6 => (intro w hSw; (try dsimp only at hSw); go_simp)
                              case qed_6 =>
                                (try simp only [Act.put]); (try simp only [List.setIfInBounds_toArray])
                                refine wpAnyH_take (i := 6) (v := (.slice (some ⟨g2, o2, none⟩) ne1 ce2)) rfl (by kernel_rfl) (by kernel_rfl) (by kernel_rfl) (fun _ _ _ h => h) (Or.inl ⟨by rfl, ?yed_7⟩) (by assumption) ?qed_7
                                case yed_7 => (intro w hSw; (try dsimp only at hSw); go_simp)
                                case qed_7 =>
                                  (try simp only [Act.put]); (try simp only [List.setIfInBounds_toArray])
                                  refine wpAnyH_take (i := 7) (v := (.int .i64 k)) rfl (by kernel_rfl) (by kernel_rfl) (by kernel_rfl) (fun _ _ _ h => h) (Or.inl ⟨by rfl, ?yed_8⟩) (by assumption) ?qed_8
                                  case yed_8 => (intro w hSw; (try dsimp only at hSw); go_simp)
                                  case qed_8 =>
                                    (try simp only [Act.put]); (try simp only [List.setIfInBounds_toArray])
                                    refine wpAnyH_take (i := 8) (v := (.pointer (some ⟨g2, o2 + k * 2, none⟩))) rfl (by kernel_rfl) (by kernel_rfl) (by kernel_rfl) (fun _ _ _ h => h) (Or.inl ⟨by rfl, ?yed_9⟩) (by assumption) ?qed_9
                                    case yed_9 => (intro w hSw; (try dsimp only at hSw); go_simp)
                                    case qed_9 =>
                                      (try simp only [Act.put]); (try simp only [List.setIfInBounds_toArray])
                                      refine wpAnyH_take (i := 9) (v := (.agg #[.string x4.con, .slice Aq4 nq4 cq4])) rfl (by kernel_rfl) (by kernel_rfl) (by kernel_rfl) (fun _ _ _ h => h) (Or.inl ⟨by rfl, ?yed_10⟩) (by assumption) ?qed_10
                                      case yed_10 => (intro w hSw; (try dsimp only at hSw); go_simp)
                                      case qed_10 =>
                                        (try simp only [Act.put]); (try simp only [List.setIfInBounds_toArray])
                                        refine wpAnyH_ready (rs := [10, 11]) (by kernel_rfl) (by simp) ?_
                                        refine AllReadyH.cons rfl (fun K hK => ?sed_11) ?med_11
                                        case sed_11 =>
                                          (refine step_alloc _ (by rfl) 56 #[.string ⟨#[]⟩, .slice none 0 0] (by go_simp) ?_; intro g8 Y8 hx8 hb8 hs8; have HU8 := Lib.hid hx8; have HG8 := Lib.hid (Nat.le_trans HBz.out.size hs8); replace HBz := Lib.hid (HBz.out.trans (hb8.mono HBz.out.size)); clear hx8 hb8 hs8)
                                          refine hK.out _ _ ?ked_11 (fun hHeld => ?qed_11)
                                          case ked_11 => ((try dsimp only); exact HSo.out _ HBz.out)
                                          case qed_11 =>
                                            clear hK K
                                            (try simp only [Act.put]); (try simp only [List.setIfInBounds_toArray])
                                            refine wpAnyH_ready (rs := [11]) (by kernel_rfl) (by simp) ?_
                                            refine AllReadyH.cons rfl (fun K hK => ?sed_12) ?med_12
                                            case sed_12 =>
                                              (refine step_alloc _ (by rfl) 56 #[.string ⟨#[]⟩, .slice none 0 0] (by go_simp) ?_; intro g9 Y9 hx9 hb9 hs9; have HU9 := Lib.hid hx9; have HG9 := Lib.hid (Nat.le_trans HBz.out.size hs9); have HNE := Lib.hid (Nat.lt_of_lt_of_le HU8.out.lt hs9); replace HU8 := Lib.hid (HU8.out.after hb9); replace HBz := Lib.hid (HBz.out.trans (hb9.mono HBz.out.size)); clear hx9 hb9 hs9)
                                              refine hK.out _ _ ?ked_12 (fun hHeld => ?qed_12)
                                              case ked_12 => ((try dsimp only); exact HSo.out _ HBz.out)
                                              case qed_12 =>
                                                clear hK K
                                                (try simp only [Act.put]); (try simp only [List.setIfInBounds_toArray])
                                                refine wpAnyH_ready (rs := [12]) (by kernel_rfl) (by simp) ?_
                                                refine AllReadyH.cons rfl (fun K hK => ?sed_13) ?med_13
                                                case sed_13 =>
                                                  (have z0 := (HU8.out.cell 0).trans (show _ = some (.string ⟨#[]⟩) from rfl); have f0 := HU8.out.frozen 0; have z1 := (HU8.out.cell 1).trans (show _ = some (.slice none 0 0) from rfl); have f1 := HU8.out.frozen 1; have HL := Lib.hid (lay2 HBz.out HU8.out HG8.out (.string x3.con) (.slice Aq3 nq3 cq3)); replace HBz := Lib.hid HL.out.1; replace HU9 := Lib.hid (HL.out.2.2 _ _ _ (Nat.ne_of_gt HNE.out) HU9.out); replace HU8 := Lib.hid HL.out.2.1; clear HL; go_simp)
                                                  refine hK.out _ _ ?ked_13 (fun hHeld => ?qed_13)
                                                  case ked_13 => ((try dsimp only); exact HSo.out _ HBz.out)
                                                  case qed_13 =>
                                                    clear hK K
                                                    (try simp only [Act.put]); (try simp only [List.setIfInBounds_toArray])
                                                    refine wpAnyH_ready (rs := [13]) (by kernel_rfl) (by simp) ?_
                                                    refine AllReadyH.cons rfl (fun K hK => ?sed_14) ?med_14
                                                    case sed_14 =>
                                                      (have z0 := (HU9.out.cell 0).trans (show _ = some (.string ⟨#[]⟩) from rfl); have f0 := HU9.out.frozen 0; have z1 := (HU9.out.cell 1).trans (show _ = some (.slice none 0 0) from rfl); have f1 := HU9.out.frozen 1; have HL := Lib.hid (lay2 HBz.out HU9.out HG9.out (.string x4.con) (.slice Aq4 nq4 cq4)); replace HBz := Lib.hid HL.out.1; replace HU8 := Lib.hid (HL.out.2.2 _ _ _ (Nat.ne_of_lt HNE.out) HU8.out); replace HU9 := Lib.hid HL.out.2.1; clear HL; go_simp)
                                                      refine hK.out _ _ ?ked_14 (fun hHeld => ?qed_14)
                                                      case ked_14 => ((try dsimp only); exact HSo.out _ HBz.out)
                                                      case qed_14 =>
                                                        clear hK K
                                                        (try simp only [Act.put]); (try simp only [List.setIfInBounds_toArray])
                                                        refine wpAnyH_done (by kernel_rfl) ?_ _
                                                        clear hHeld
                                                        go_wp2_with fail
                                                        go_meet
                                                        exact ⟨g8, g9, rfl, rfl, HBz, Lib.hid ⟨HU8.out, HU9.out⟩⟩
                                                    case med_14 =>
                                                      exact AllReadyH.nil
                                                case med_13 =>
                                                  exact AllReadyH.nil
                                            case med_12 =>
                                              exact AllReadyH.nil
                                        case med_11 =>
                                          refine AllReadyH.cons rfl (fun K hK => ?sed_15) ?med_15
                                          case sed_15 =>
                                            (refine step_alloc _ (by rfl) 56 #[.string ⟨#[]⟩, .slice none 0 0] (by go_simp) ?_; intro g9 Y9 hx9 hb9 hs9; have HU9 := Lib.hid hx9; have HG9 := Lib.hid (Nat.le_trans HBz.out.size hs9); replace HBz := Lib.hid (HBz.out.trans (hb9.mono HBz.out.size)); clear hx9 hb9 hs9)
                                            refine hK.out _ _ ?ked_15 (fun hHeld => ?qed_15)
                                            case ked_15 => ((try dsimp only); exact HSo.out _ HBz.out)
                                            case qed_15 =>
                                              clear hK K
                                              (try simp only [Act.put]); (try simp only [List.setIfInBounds_toArray])
                                              refine wpAnyH_ready (rs := [10]) (by kernel_rfl) (by simp) ?_
                                              refine AllReadyH.cons rfl (fun K hK => ?sed_16) ?med_16
                                              case sed_16 =>
                                                (refine step_alloc _ (by rfl) 56 #[.string ⟨#[]⟩, .slice none 0 0] (by go_simp) ?_; intro g8 Y8 hx8 hb8 hs8; have HU8 := Lib.hid hx8; have HG8 := Lib.hid (Nat.le_trans HBz.out.size hs8); have HNE := Lib.hid (Nat.lt_of_lt_of_le HU9.out.lt hs8); replace HU9 := Lib.hid (HU9.out.after hb8); replace HBz := Lib.hid (HBz.out.trans (hb8.mono HBz.out.size)); clear hx8 hb8 hs8)
                                                refine hK.out _ _ ?ked_16 (fun hHeld => ?qed_16)
                                                case ked_16 => ((try dsimp only); exact HSo.out _ HBz.out)
                                                case qed_16 =>
                                                  clear hK K
                                                  (try simp only [Act.put]); (try simp only [List.setIfInBounds_toArray])
                                                  refine wpAnyH_ready (rs := [12]) (by kernel_rfl) (by simp) ?_
                                                  refine AllReadyH.cons rfl (fun K hK => ?sed_17) ?med_17
                                                  case sed_17 =>
                                                    (have z0 := (HU8.out.cell 0).trans (show _ = some (.string ⟨#[]⟩) from rfl); have f0 := HU8.out.frozen 0; have z1 := (HU8.out.cell 1).trans (show _ = some (.slice none 0 0) from rfl); have f1 := HU8.out.frozen 1; have HL := Lib.hid (lay2 HBz.out HU8.out HG8.out (.string x3.con) (.slice Aq3 nq3 cq3)); replace HBz := Lib.hid HL.out.1; replace HU9 := Lib.hid (HL.out.2.2 _ _ _ (Nat.ne_of_lt HNE.out) HU9.out); replace HU8 := Lib.hid HL.out.2.1; clear HL; go_simp)
                                                    refine hK.out _ _ ?ked_17 (fun hHeld => ?qed_17)
                                                    case ked_17 => ((try dsimp only); exact HSo.out _ HBz.out)
                                                    case qed_17 =>
                                                      clear hK K
                                                      (try simp only [Act.put]); (try simp only [List.setIfInBounds_toArray])
                                                      refine wpAnyH_ready (rs := [13]) (by kernel_rfl) (by simp) ?_
                                                      refine AllReadyH.cons rfl (fun K hK => ?sed_18) ?med_18
                                                      case sed_18 =>
                                                        (have z0 := (HU9.out.cell 0).trans (show _ = some (.string ⟨#[]⟩) from rfl); have f0 := HU9.out.frozen 0; have z1 := (HU9.out.cell 1).trans (show _ = some (.slice none 0 0) from rfl); have f1 := HU9.out.frozen 1; have HL := Lib.hid (lay2 HBz.out HU9.out HG9.out (.string x4.con) (.slice Aq4 nq4 cq4)); replace HBz := Lib.hid HL.out.1; replace HU8 := Lib.hid (HL.out.2.2 _ _ _ (Nat.ne_of_gt HNE.out) HU8.out); replace HU9 := Lib.hid HL.out.2.1; clear HL; go_simp)
                                                        refine hK.out _ _ ?ked_18 (fun hHeld => ?qed_18)
                                                        case ked_18 => ((try dsimp only); exact HSo.out _ HBz.out)
                                                        case qed_18 =>
                                                          clear hK K
                                                          (try simp only [Act.put]); (try simp only [List.setIfInBounds_toArray])
                                                          refine wpAnyH_done (by kernel_rfl) ?_ _
                                                          clear hHeld
                                                          go_wp2_with fail
                                                          go_meet
                                                          exact ⟨g8, g9, rfl, rfl, HBz, Lib.hid ⟨HU8.out, HU9.out⟩⟩
                                                      case med_18 =>
                                                        exact AllReadyH.nil
                                                  case med_17 =>
                                                    exact AllReadyH.nil
                                              case med_16 =>
                                                exact AllReadyH.nil
                                          case med_15 =>
                                            exact AllReadyH.nil
                  case rest =>
                    obtain ⟨g8, g9, rfl, rfl, HBz, HBx⟩ := hcut
                    rename World => wc
                    have u0 : wc.cell? ⟨g8, 0, none⟩ = some (.string x3.con) := (HBx.out.1.cell 0).trans rfl
                    have u1 : wc.cell? ⟨g8, 1, none⟩ = some (.slice Aq3 nq3 cq3) := (HBx.out.1.cell 1).trans rfl
                    have v0 : wc.cell? ⟨g9, 0, none⟩ = some (.string x4.con) := (HBx.out.2.cell 0).trans rfl
                    have v1 : wc.cell? ⟨g9, 1, none⟩ = some (.slice Aq4 nq4 cq4) := (HBx.out.2.cell 1).trans rfl
                    have hg8 := HBx.out.1.lt
                    have hg9 := HBx.out.2.lt
                    clear HBx
                    cases e0 : (x3.con.toList == x4.con.toList) with
                    | false =>
                      have m0 : (x3.con.toList != x4.con.toList) = true := by unfold bne; rw [e0]; rfl
                      replace HN : Hid (res = false) := Lib.hid (by rw [HN.out, HD.out, HE.out, e0]; simp)
                      clear HD HE
                      go_wp2_with fail
                      go_ret
                      exact ret_b HN.out rfl (HW.out.after HBz.out).bel
                    | true =>
                      have m0 : (x3.con.toList != x4.con.toList) = false := by unfold bne; rw [e0]; rfl
                      cases r1 with
                      | false =>
                        replace HN : Hid (res = false) := Lib.hid (by rw [HN.out, HD.out, HE.out]; simp)
                        clear HD HE
                        go_wp2_with (first | (go_at_call 28; (with_reducible refine (HE5.out _ HBz.out).mono ?_); rintro e w5 ⟨rfl, hb5⟩; obtain ⟨s5, t5⟩ := bcell hb5; have HC1 := Lib.hid (HBz.out.trans (hb5.mono HBz.out.size)); have hg85 := Nat.lt_of_lt_of_le hg8 hb5.size; have hg95 := Nat.lt_of_lt_of_le hg9 hb5.size; clear hb5))
                        go_ret
                        exact ret_b HN.out rfl (HW.out.after HC1.out).bel
                      | true =>
                        have HZ : Hid (eqL rowEM es1 es2 = eqL rowEM (es1.drop (k + 1)) (es2.drop (k + 1))) := Lib.hid (by rw [HD.out, HE.out, e0]; rfl)
                        clear HD HE
                        go_wp2_with (first | (go_at_call 28; (with_reducible refine (HE5.out _ HBz.out).mono ?_); rintro e w5 ⟨rfl, hb5⟩; obtain ⟨s5, t5⟩ := bcell hb5; have HC1 := Lib.hid (HBz.out.trans (hb5.mono HBz.out.size)); have hg85 := Nat.lt_of_lt_of_le hg8 hb5.size; have hg95 := Nat.lt_of_lt_of_le hg9 hb5.size; clear hb5))
                        go_roundw
                        case rel => exact ⟨k + 1, by omega, by go_num, HW.out.after HC1.out, HZ⟩
                        case measure => simp [intOf]; omega
                · have HZ : Hid (eqL rowEM es1 es2 = true) := Lib.hid (by rw [HK.out, List.drop_eq_nil_of_le (by have := Hne1.out; omega), List.drop_eq_nil_of_le (by have := Hne2.out; omega)]; rfl)
                  replace HN : Hid (res = (eqL rowEM ts1 ts2)) := Lib.hid (by rw [HN.out, HZ.out]; simp only [Bool.true_and])
                  clear HK HZ
                  go_wp2_with fail
                  go_loopw [13] (fun i wr => ∃ k : Nat, k ≤ nt1 ∧ i = .int .i64 k ∧ B2 w 29 #[.string nm1, .int .i64 vr1, .slice Au1 nu1 cu1, .slice Ac1 nc1 cc1, .slice An1 nn1 cn1, .slice Aq1 nq1 cq1, .slice Ae1 ne1 ce1, .slice At1 nt1 ct1] #[.string nm2, .int .i64 vr2, .slice Au2 nu2 cu2, .slice Ac2 nc1 cc2, .slice An2 nn1 cn2, .slice Aq2 nq1 cq2, .slice Ae2 ne1 ce2, .slice At2 nt1 ct2] wr ∧ Hid (eqL rowEM ts1 ts2 = eqL rowEM (ts1.drop k) (ts2.drop k))) (fun i _ => nt1 - (intOf i).toNat)
                  case atStart => exact ⟨0, by omega, rfl, HW.out, Lib.hid rfl⟩
                  case round =>
                    clear HW
                    obtain ⟨k, hk, rfl, BWh, HK⟩ := hrel
                    have hbel := BWh.bel
                    have hsz := BWh.size
                    have HW := Lib.hid BWh
                    clear BWh
                    have a7 : wr.cell? ⟨w.heap.size, 7, none⟩ = some (.slice At1 nt1 ct1) := (HW.out.a.cell 7).trans rfl
                    have b7 : wr.cell? ⟨w.heap.size + 1, 7, none⟩ = some (.slice At2 nt1 ct2) := (HW.out.b.cell 7).trans rfl
                    by_cases hlt : k < nt1
                    · obtain ⟨g1, o1, hA1, _, hg1, V1⟩ := HRt1.out.at_ (fun _ => rfl) (show 0 < nt1 by omega)
                      obtain ⟨g2, o2, hA2, _, hg2, V2⟩ := HRt2.out.at_ (fun _ => rfl) (show 0 < nt1 by omega)
                      simp only at hA1 hA2
                      subst hA1 hA2
                      obtain ⟨x, hx⟩ : ∃ x, ts1[k]? = some x := ⟨ts1[k]'(by have := Hnt1.out; have := Hnt2.out; omega), List.getElem?_eq_getElem _⟩
                      obtain ⟨y, hy⟩ : ∃ y, ts2[k]? = some y := ⟨ts2[k]'(by have := Hnt1.out; have := Hnt2.out; omega), List.getElem?_eq_getElem _⟩
                      obtain ⟨hlf1, hat1⟩ := V1 k x hx
                      obtain ⟨hlf2, hat2⟩ := V2 k y hy
                      have q1_0 : wr.cell? ⟨g1, o1 + k * 2, none⟩ = some (.string x.1.con) := (hbel.cell (p := ⟨_, _, none⟩) (show g1 < w.heap.size by omega)).trans (hat1 0 _ (by omega) rfl)
                      have q1_1 : wr.cell? ⟨g1, o1 + k * 2 + 1, none⟩ = some (.slice x.2.A x.2.n x.2.c) := (hbel.cell (p := ⟨_, _, none⟩) (show g1 < w.heap.size by omega)).trans (hat1 1 _ (by omega) rfl)
                      have q2_0 : wr.cell? ⟨g2, o2 + k * 2, none⟩ = some (.string y.1.con) := (hbel.cell (p := ⟨_, _, none⟩) (show g2 < w.heap.size by omega)).trans (hat2 0 _ (by omega) rfl)
                      have q2_1 : wr.cell? ⟨g2, o2 + k * 2 + 1, none⟩ = some (.slice y.2.A y.2.n y.2.c) := (hbel.cell (p := ⟨_, _, none⟩) (show g2 < w.heap.size by omega)).trans (hat2 1 _ (by omega) rfl)
                      have HD : Hid (eqL rowEM ts1 ts2 = (rowEM x y && eqL rowEM (ts1.drop (k + 1)) (ts2.drop (k + 1)))) := Lib.hid (by
                        obtain ⟨hl1, e1⟩ := List.getElem?_eq_some_iff.1 hx
                        obtain ⟨hl2, e2⟩ := List.getElem?_eq_some_iff.1 hy
                        rw [HK.out, List.drop_eq_getElem_cons hl1, List.drop_eq_getElem_cons hl2, e1, e2]; rfl)
                      have hlf1' := rowK.below hlf1 (hbel.mono hh)
                      have hlf2' := rowK.below hlf2 (hbel.mono hh)
                      have hE1 : ∀ X, Below wr.heap.size wr X → Calls Try.prog 29 #[.slice x.2.A x.2.n x.2.c, .slice y.2.A y.2.n y.2.c] X (Ret X (.bool (eqL ceE x.1.cells y.1.cells))) := fun X hX => (refPieces_any X 0 hi 0 hi _ _ _ _ _ _ _ _ (Row.below hlf1'.q (hX.mono (by omega))) (Row.below hlf2'.q (hX.mono (by omega)))).mono fun _ _ => ret_of_drew
                      obtain ⟨r1, hr1⟩ : ∃ b, eqL ceE x.1.cells y.1.cells = b := ⟨_, rfl⟩
                      have HE : Hid (rowEM x y = ((x.1.con.toList == y.1.con.toList) && r1)) := Lib.hid (by rw [← hr1]; rfl)
                      rw [hr1] at hE1
                      obtain ⟨rr, hrr⟩ : ∃ b, rowEM x y = b := ⟨_, rfl⟩
                      rw [hrr] at HD HE
                      clear hrr hr1 hx hy V1 V2 hlf1 hlf2 hlf1' hlf2' hat1 hat2 HK
                      obtain ⟨x3, ⟨Aq3, nq3, cq3⟩⟩ := x
                      obtain ⟨x4, ⟨Aq4, nq4, cq4⟩⟩ := y
                      simp only at HE hE1 q1_0 q1_1 q2_0 q2_1
                      have HE5 := Lib.hid hE1
                      clear hE1
                      have hg1w : g1 < wr.heap.size := by omega
                      have hg2w : g2 < wr.heap.size := by omega
                      have HSo : Hid (∀ X : World, Below wr.heap.size wr X → (X.cell? ⟨w.heap.size, 7, none⟩ = some (.slice (some ⟨g1, o1, none⟩) nt1 ct1) ∧ X.cell? ⟨w.heap.size + 1, 7, none⟩ = some (.slice (some ⟨g2, o2, none⟩) nt1 ct2) ∧ X.cell? ⟨g1, o1 + k * 2, none⟩ = some (.string x3.con) ∧ X.cell? ⟨g1, o1 + k * 2 + 1, none⟩ = some (.slice Aq3 nq3 cq3) ∧ X.cell? ⟨g2, o2 + k * 2, none⟩ = some (.string x4.con) ∧ X.cell? ⟨g2, o2 + k * 2 + 1, none⟩ = some (.slice Aq4 nq4 cq4))) := Lib.hid fun X hX => ⟨(hX.cell (p := ⟨_, _, none⟩) (by simp only; omega)).trans a7, (hX.cell (p := ⟨_, _, none⟩) (by simp only; omega)).trans b7, (hX.cell (p := ⟨_, _, none⟩) (by simp only; omega)).trans q1_0, (hX.cell (p := ⟨_, _, none⟩) (by simp only; omega)).trans q1_1, (hX.cell (p := ⟨_, _, none⟩) (by simp only; omega)).trans q2_0, (hX.cell (p := ⟨_, _, none⟩) (by simp only; omega)).trans q2_1⟩
                      go_upto_region 28 with (fail)
                      clear a7 b7 q1_0 q1_1 q2_0 q2_1
                      have HBz : Hid (Below wr.heap.size wr wr.drew) := Lib.hid (drew1_below _)
                      go_cut [14, 15] (fun s8 s9 wx => ∃ g8 g9 : Nat, s8 = .pointer (some ⟨g8, 0, none⟩) ∧ s9 = .pointer (some ⟨g9, 0, none⟩) ∧ Hid (Below wr.heap.size wr wx) ∧ Hid (Blk wx g8 59 #[.string x3.con, .slice Aq3 nq3 cq3] ∧ Blk wx g9 59 #[.string x4.con, .slice Aq4 nq4 cq4]))
                      case first =>
                        refine wp_region_held (S := (fun X : World => X.cell? ⟨w.heap.size, 7, none⟩ = some (.slice (some ⟨g1, o1, none⟩) nt1 ct1) ∧ X.cell? ⟨w.heap.size + 1, 7, none⟩ = some (.slice (some ⟨g2, o2, none⟩) nt1 ct2) ∧ X.cell? ⟨g1, o1 + k * 2, none⟩ = some (.string x3.con) ∧ X.cell? ⟨g1, o1 + k * 2 + 1, none⟩ = some (.slice Aq3 nq3 cq3) ∧ X.cell? ⟨g2, o2 + k * 2, none⟩ = some (.string x4.con) ∧ X.cell? ⟨g2, o2 + k * 2 + 1, none⟩ = some (.slice Aq4 nq4 cq4))) (by kernel_rfl) ?_
                        show wpAnyH _ _ _ _ _ 14 (Array.replicate 14 false) _ wr.drew
                        generalize wr.drew = wz at HBz ⊢
                        have hHeld : (fun X : World => X.cell? ⟨w.heap.size, 7, none⟩ = some (.slice (some ⟨g1, o1, none⟩) nt1 ct1) ∧ X.cell? ⟨w.heap.size + 1, 7, none⟩ = some (.slice (some ⟨g2, o2, none⟩) nt1 ct2) ∧ X.cell? ⟨g1, o1 + k * 2, none⟩ = some (.string x3.con) ∧ X.cell? ⟨g1, o1 + k * 2 + 1, none⟩ = some (.slice Aq3 nq3 cq3) ∧ X.cell? ⟨g2, o2 + k * 2, none⟩ = some (.string x4.con) ∧ X.cell? ⟨g2, o2 + k * 2 + 1, none⟩ = some (.slice Aq4 nq4 cq4)) wz := HSo.out _ HBz.out
                        refine wpAnyH_take (i := 0) (v := (.pointer (some ⟨w.heap.size, 7, none⟩))) rfl (by kernel_rfl) (by kernel_rfl) (by kernel_rfl) (fun _ _ _ h => h) (Or.inl ⟨by rfl, ?yte_1⟩) (by assumption) ?qte_1
                        case yte_1 => (intro w hSw; (try dsimp only at hSw); go_simp)
                        case qte_1 =>
                          (try simp only [Act.put]); (try simp only [List.setIfInBounds_toArray])
                          refine wpAnyH_take (i := 1) (v := (.slice (some ⟨g1, o1, none⟩) nt1 ct1)) rfl (by kernel_rfl) (by kernel_rfl) (by kernel_rfl) (fun _ _ _ h => h) (Or.inl ⟨by rfl, ?yte_2⟩) (by assumption) ?qte_2
                          case yte_2 => (intro w hSw; (try dsimp only at hSw); go_simp)
                          case qte_2 =>
                            (try simp only [Act.put]); (try simp only [List.setIfInBounds_toArray])
                            refine wpAnyH_take (i := 2) (v := (.int .i64 k)) rfl (by kernel_rfl) (by kernel_rfl) (by kernel_rfl) (fun _ _ _ h => h) (Or.inl ⟨by rfl, ?yte_3⟩) (by assumption) ?qte_3
                            case yte_3 => (intro w hSw; (try dsimp only at hSw); go_simp)
                            case qte_3 =>
                              (try simp only [Act.put]); (try simp only [List.setIfInBounds_toArray])
                              refine wpAnyH_take (i := 3) (v := (.pointer (some ⟨g1, o1 + k * 2, none⟩))) rfl (by kernel_rfl) (by kernel_rfl) (by kernel_rfl) (fun _ _ _ h => h) (Or.inl ⟨by rfl, ?yte_4⟩) (by assumption) ?qte_4
                              case yte_4 => (intro w hSw; (try dsimp only at hSw); go_simp)
                              case qte_4 =>
                                (try simp only [Act.put]); (try simp only [List.setIfInBounds_toArray])
                                refine wpAnyH_take (i := 4) (v := (.agg #[.string x3.con, .slice Aq3 nq3 cq3])) rfl (by kernel_rfl) (by kernel_rfl) (by kernel_rfl) (fun _ _ _ h => h) (Or.inl ⟨by rfl, ?yte_5⟩) (by assumption) ?qte_5
                                case yte_5 => (intro w hSw; (try dsimp only at hSw); go_simp)
                                case qte_5 =>
                                  (try simp only [Act.put]); (try simp only [List.setIfInBounds_toArray])
                                  refine wpAnyH_take (i := 5) (v := (.pointer (some ⟨w.heap.size + 1, 7, none⟩))) rfl (by kernel_rfl) (by kernel_rfl) (by kernel_rfl) (fun _ _ _ h => h) (Or.inl ⟨by rfl, ?yte_6⟩) (by assumption) ?qte_6
                                  case yte_6 => (intro w hSw; (try dsimp only at hSw); go_simp)
                                  case qte_6 =>
                                    (try simp only [Act.put]); (try simp only [List.setIfInBounds_toArray])
                                    refine wpAnyH_take (i := 6) (v := (.slice (some ⟨g2, o2, none⟩) nt1 ct2)) rfl (by kernel_rfl) (by kernel_rfl) (by kernel_rfl) (fun _ _ _ h => h) (Or.inl ⟨by rfl, ?yte_7⟩) (by assumption) ?qte_7
                                    case yte_7 => (intro w hSw; (try dsimp only at hSw); go_simp)
                                    case qte_7 =>
                                      (try simp only [Act.put]); (try simp only [List.setIfInBounds_toArray])
                                      refine wpAnyH_take (i := 7) (v := (.int .i64 k)) rfl (by kernel_rfl) (by kernel_rfl) (by kernel_rfl) (fun _ _ _ h => h) (Or.inl ⟨by rfl, ?yte_8⟩) (by assumption) ?qte_8
                                      case yte_8 => (intro w hSw; (try dsimp only at hSw); go_simp)
                                      case qte_8 =>
                                        (try simp only [Act.put]); (try simp only [List.setIfInBounds_toArray])
                                        refine wpAnyH_take (i := 8) (v := (.pointer (some ⟨g2, o2 + k * 2, none⟩))) rfl (by kernel_rfl) (by kernel_rfl) (by kernel_rfl) (fun _ _ _ h => h) (Or.inl ⟨by rfl, ?yte_9⟩) (by assumption) ?qte_9
                                        case yte_9 => (intro w hSw; (try dsimp only at hSw); go_simp)
                                        case qte_9 =>
                                          (try simp only [Act.put]); (try simp only [List.setIfInBounds_toArray])
                                          refine wpAnyH_take (i := 9) (v := (.agg #[.string x4.con, .slice Aq4 nq4 cq4])) rfl (by kernel_rfl) (by kernel_rfl) (by kernel_rfl) (fun _ _ _ h => h) (Or.inl ⟨by rfl, ?yte_10⟩) (by assumption) ?qte_10
                                          case yte_10 => (intro w hSw; (try dsimp only at hSw); go_simp)
                                          case qte_10 =>
                                            (try simp only [Act.put]); (try simp only [List.setIfInBounds_toArray])
                                            refine wpAnyH_ready (rs := [10, 11]) (by kernel_rfl) (by simp) ?_
                                            refine AllReadyH.cons rfl (fun K hK => ?ste_11) ?mte_11
                                            case ste_11 =>
                                              (refine step_alloc _ (by rfl) 59 #[.string ⟨#[]⟩, .slice none 0 0] (by go_simp) ?_; intro g8 Y8 hx8 hb8 hs8; have HU8 := Lib.hid hx8; have HG8 := Lib.hid (Nat.le_trans HBz.out.size hs8); replace HBz := Lib.hid (HBz.out.trans (hb8.mono HBz.out.size)); clear hx8 hb8 hs8)
                                              refine hK.out _ _ ?kte_11 (fun hHeld => ?qte_11)
                                              case kte_11 => ((try dsimp only); exact HSo.out _ HBz.out)
                                              case qte_11 =>
                                                clear hK K
                                                (try simp only [Act.put]); (try simp only [List.setIfInBounds_toArray])
                                                refine wpAnyH_ready (rs := [11]) (by kernel_rfl) (by simp) ?_
                                                refine AllReadyH.cons rfl (fun K hK => ?ste_12) ?mte_12
                                                case ste_12 =>
                                                  (refine step_alloc _ (by rfl) 59 #[.string ⟨#[]⟩, .slice none 0 0] (by go_simp) ?_; intro g9 Y9 hx9 hb9 hs9; have HU9 := Lib.hid hx9; have HG9 := Lib.hid (Nat.le_trans HBz.out.size hs9); have HNE := Lib.hid (Nat.lt_of_lt_of_le HU8.out.lt hs9); replace HU8 := Lib.hid (HU8.out.after hb9); replace HBz := Lib.hid (HBz.out.trans (hb9.mono HBz.out.size)); clear hx9 hb9 hs9)
                                                  refine hK.out _ _ ?kte_12 (fun hHeld => ?qte_12)
                                                  case kte_12 => ((try dsimp only); exact HSo.out _ HBz.out)
                                                  case qte_12 =>
                                                    clear hK K
                                                    (try simp only [Act.put]); (try simp only [List.setIfInBounds_toArray])
                                                    refine wpAnyH_ready (rs := [12]) (by kernel_rfl) (by simp) ?_
                                                    refine AllReadyH.cons rfl (fun K hK => ?ste_13) ?mte_13
                                                    case ste_13 =>
                                                      (have z0 := (HU8.out.cell 0).trans (show _ = some (.string ⟨#[]⟩) from rfl); have f0 := HU8.out.frozen 0; have z1 := (HU8.out.cell 1).trans (show _ = some (.slice none 0 0) from rfl); have f1 := HU8.out.frozen 1; have HL := Lib.hid (lay2 HBz.out HU8.out HG8.out (.string x3.con) (.slice Aq3 nq3 cq3)); replace HBz := Lib.hid HL.out.1; replace HU9 := Lib.hid (HL.out.2.2 _ _ _ (Nat.ne_of_gt HNE.out) HU9.out); replace HU8 := Lib.hid HL.out.2.1; clear HL; go_simp)
                                                      refine hK.out _ _ ?kte_13 (fun hHeld => ?qte_13)
                                                      case kte_13 => ((try dsimp only); exact HSo.out _ HBz.out)
                                                      case qte_13 =>
                                                        clear hK K
                                                        (try simp only [Act.put]); (try simp only [List.setIfInBounds_toArray])
                                                        refine wpAnyH_ready (rs := [13]) (by kernel_rfl) (by simp) ?_
                                                        refine AllReadyH.cons rfl (fun K hK => ?ste_14) ?mte_14
                                                        case ste_14 =>
                                                          (have z0 := (HU9.out.cell 0).trans (show _ = some (.string ⟨#[]⟩) from rfl); have f0 := HU9.out.frozen 0; have z1 := (HU9.out.cell 1).trans (show _ = some (.slice none 0 0) from rfl); have f1 := HU9.out.frozen 1; have HL := Lib.hid (lay2 HBz.out HU9.out HG9.out (.string x4.con) (.slice Aq4 nq4 cq4)); replace HBz := Lib.hid HL.out.1; replace HU8 := Lib.hid (HL.out.2.2 _ _ _ (Nat.ne_of_lt HNE.out) HU8.out); replace HU9 := Lib.hid HL.out.2.1; clear HL; go_simp)
                                                          refine hK.out _ _ ?kte_14 (fun hHeld => ?qte_14)
                                                          case kte_14 => ((try dsimp only); exact HSo.out _ HBz.out)
                                                          case qte_14 =>
                                                            clear hK K
                                                            (try simp only [Act.put]); (try simp only [List.setIfInBounds_toArray])
                                                            refine wpAnyH_done (by kernel_rfl) ?_ _
                                                            clear hHeld
                                                            go_wp2_with fail
                                                            go_meet
                                                            exact ⟨g8, g9, rfl, rfl, HBz, Lib.hid ⟨HU8.out, HU9.out⟩⟩
                                                        case mte_14 =>
                                                          exact AllReadyH.nil
                                                    case mte_13 =>
                                                      exact AllReadyH.nil
                                                case mte_12 =>
                                                  exact AllReadyH.nil
                                            case mte_11 =>
                                              refine AllReadyH.cons rfl (fun K hK => ?ste_15) ?mte_15
                                              case ste_15 =>
                                                (refine step_alloc _ (by rfl) 59 #[.string ⟨#[]⟩, .slice none 0 0] (by go_simp) ?_; intro g9 Y9 hx9 hb9 hs9; have HU9 := Lib.hid hx9; have HG9 := Lib.hid (Nat.le_trans HBz.out.size hs9); replace HBz := Lib.hid (HBz.out.trans (hb9.mono HBz.out.size)); clear hx9 hb9 hs9)
                                                refine hK.out _ _ ?kte_15 (fun hHeld => ?qte_15)
                                                case kte_15 => ((try dsimp only); exact HSo.out _ HBz.out)
                                                case qte_15 =>
                                                  clear hK K
                                                  (try simp only [Act.put]); (try simp only [List.setIfInBounds_toArray])
                                                  refine wpAnyH_ready (rs := [10]) (by kernel_rfl) (by simp) ?_
                                                  refine AllReadyH.cons rfl (fun K hK => ?ste_16) ?mte_16
                                                  case ste_16 =>
                                                    (refine step_alloc _ (by rfl) 59 #[.string ⟨#[]⟩, .slice none 0 0] (by go_simp) ?_; intro g8 Y8 hx8 hb8 hs8; have HU8 := Lib.hid hx8; have HG8 := Lib.hid (Nat.le_trans HBz.out.size hs8); have HNE := Lib.hid (Nat.lt_of_lt_of_le HU9.out.lt hs8); replace HU9 := Lib.hid (HU9.out.after hb8); replace HBz := Lib.hid (HBz.out.trans (hb8.mono HBz.out.size)); clear hx8 hb8 hs8)
                                                    refine hK.out _ _ ?kte_16 (fun hHeld => ?qte_16)
                                                    case kte_16 => ((try dsimp only); exact HSo.out _ HBz.out)
                                                    case qte_16 =>
                                                      clear hK K
                                                      (try simp only [Act.put]); (try simp only [List.setIfInBounds_toArray])
                                                      refine wpAnyH_ready (rs := [12]) (by kernel_rfl) (by simp) ?_
                                                      refine AllReadyH.cons rfl (fun K hK => ?ste_17) ?mte_17
                                                      case ste_17 =>
                                                        (have z0 := (HU8.out.cell 0).trans (show _ = some (.string ⟨#[]⟩) from rfl); have f0 := HU8.out.frozen 0; have z1 := (HU8.out.cell 1).trans (show _ = some (.slice none 0 0) from rfl); have f1 := HU8.out.frozen 1; have HL := Lib.hid (lay2 HBz.out HU8.out HG8.out (.string x3.con) (.slice Aq3 nq3 cq3)); replace HBz := Lib.hid HL.out.1; replace HU9 := Lib.hid (HL.out.2.2 _ _ _ (Nat.ne_of_lt HNE.out) HU9.out); replace HU8 := Lib.hid HL.out.2.1; clear HL; go_simp)
                                                        refine hK.out _ _ ?kte_17 (fun hHeld => ?qte_17)
                                                        case kte_17 => ((try dsimp only); exact HSo.out _ HBz.out)
                                                        case qte_17 =>
                                                          clear hK K
                                                          (try simp only [Act.put]); (try simp only [List.setIfInBounds_toArray])
                                                          refine wpAnyH_ready (rs := [13]) (by kernel_rfl) (by simp) ?_
                                                          refine AllReadyH.cons rfl (fun K hK => ?ste_18) ?mte_18
                                                          case ste_18 =>
                                                            (have z0 := (HU9.out.cell 0).trans (show _ = some (.string ⟨#[]⟩) from rfl); have f0 := HU9.out.frozen 0; have z1 := (HU9.out.cell 1).trans (show _ = some (.slice none 0 0) from rfl); have f1 := HU9.out.frozen 1; have HL := Lib.hid (lay2 HBz.out HU9.out HG9.out (.string x4.con) (.slice Aq4 nq4 cq4)); replace HBz := Lib.hid HL.out.1; replace HU8 := Lib.hid (HL.out.2.2 _ _ _ (Nat.ne_of_gt HNE.out) HU8.out); replace HU9 := Lib.hid HL.out.2.1; clear HL; go_simp)
                                                            refine hK.out _ _ ?kte_18 (fun hHeld => ?qte_18)
                                                            case kte_18 => ((try dsimp only); exact HSo.out _ HBz.out)
                                                            case qte_18 =>
                                                              clear hK K
                                                              (try simp only [Act.put]); (try simp only [List.setIfInBounds_toArray])
                                                              refine wpAnyH_done (by kernel_rfl) ?_ _
                                                              clear hHeld
                                                              go_wp2_with fail
                                                              go_meet
                                                              exact ⟨g8, g9, rfl, rfl, HBz, Lib.hid ⟨HU8.out, HU9.out⟩⟩
                                                          case mte_18 =>
                                                            exact AllReadyH.nil
                                                      case mte_17 =>
                                                        exact AllReadyH.nil
                                                  case mte_16 =>
                                                    exact AllReadyH.nil
                                              case mte_15 =>
                                                exact AllReadyH.nil
                      case rest =>
                        obtain ⟨g8, g9, rfl, rfl, HBz, HBx⟩ := hcut
                        rename World => wc
                        have u0 : wc.cell? ⟨g8, 0, none⟩ = some (.string x3.con) := (HBx.out.1.cell 0).trans rfl
                        have u1 : wc.cell? ⟨g8, 1, none⟩ = some (.slice Aq3 nq3 cq3) := (HBx.out.1.cell 1).trans rfl
                        have v0 : wc.cell? ⟨g9, 0, none⟩ = some (.string x4.con) := (HBx.out.2.cell 0).trans rfl
                        have v1 : wc.cell? ⟨g9, 1, none⟩ = some (.slice Aq4 nq4 cq4) := (HBx.out.2.cell 1).trans rfl
                        have hg8 := HBx.out.1.lt
                        have hg9 := HBx.out.2.lt
                        clear HBx
                        cases e0 : (x3.con.toList == x4.con.toList) with
                        | false =>
                          have m0 : (x3.con.toList != x4.con.toList) = true := by unfold bne; rw [e0]; rfl
                          replace HN : Hid (res = false) := Lib.hid (by rw [HN.out, HD.out, HE.out, e0]; simp)
                          clear HD HE
                          go_wp2_with fail
                          go_ret
                          exact ret_b HN.out rfl (HW.out.after HBz.out).bel
                        | true =>
                          have m0 : (x3.con.toList != x4.con.toList) = false := by unfold bne; rw [e0]; rfl
                          cases r1 with
                          | false =>
                            replace HN : Hid (res = false) := Lib.hid (by rw [HN.out, HD.out, HE.out]; simp)
                            clear HD HE
                            go_wp2_with (first | (go_at_call 29; (with_reducible refine (HE5.out _ HBz.out).mono ?_); rintro e w5 ⟨rfl, hb5⟩; obtain ⟨s5, t5⟩ := bcell hb5; have HC1 := Lib.hid (HBz.out.trans (hb5.mono HBz.out.size)); have hg85 := Nat.lt_of_lt_of_le hg8 hb5.size; have hg95 := Nat.lt_of_lt_of_le hg9 hb5.size; clear hb5))
                            go_ret
                            exact ret_b HN.out rfl (HW.out.after HC1.out).bel
                          | true =>
                            have HZ : Hid (eqL rowEM ts1 ts2 = eqL rowEM (ts1.drop (k + 1)) (ts2.drop (k + 1))) := Lib.hid (by rw [HD.out, HE.out, e0]; rfl)
                            clear HD HE
                            go_wp2_with (first | (go_at_call 29; (with_reducible refine (HE5.out _ HBz.out).mono ?_); rintro e w5 ⟨rfl, hb5⟩; obtain ⟨s5, t5⟩ := bcell hb5; have HC1 := Lib.hid (HBz.out.trans (hb5.mono HBz.out.size)); have hg85 := Nat.lt_of_lt_of_le hg8 hb5.size; have hg95 := Nat.lt_of_lt_of_le hg9 hb5.size; clear hb5))
                            go_roundw
                            case rel => exact ⟨k + 1, by omega, by go_num, HW.out.after HC1.out, HZ⟩
                            case measure => simp [intOf]; omega
                    · have HZ : Hid (eqL rowEM ts1 ts2 = true) := Lib.hid (by rw [HK.out, List.drop_eq_nil_of_le (by have := Hnt1.out; omega), List.drop_eq_nil_of_le (by have := Hnt2.out; omega)]; rfl)
                      clear HK
                      go_wp2_with fail
                      go_ret
                      exact ret_b (by rw [HN.out]; exact HZ.out) rfl HW.out.bel
end Go.Proofs.Ytbnjblejbnapgaa

/-
  WALKS: the program: languages are the same.
  NAMES IN ORDER, each once: plain mathematics. No program stands in it.
  WALKS: the document: the names in order.
  WALKS: the program: the names in order.
  WALKS: two lists of flat elements are the same.
-/
import Derived.Test.YtilemieknfdjnaaGreatZ17
import Derived.Lib.SlicesCompact
import Derived.Lib.RowBridge
import Derived.Sort.Walk0
import Derived.Test.YtilemieknfdjnaaGreatShelf
import Derived.Sort.OwnSorted
namespace Go.Proofs.YtilemieknfdjnaaGreat
open Go Go.RowKit Go.Sort
set_option linter.unusedVariables false
set_option maxRecDepth 100000 in
set_option maxHeartbeats 6400000 in
theorem same_lang_any (w : World) (hi : Nat) (x y : LangM) (hx : LangIn w 0 hi x) (hy : LangIn w 0 hi y) (hh : hi ≤ w.heap.size) :
    Calls Tryz.prog 13 #[.agg #[.string x.name, .int .i64 x.ver, .slice x.U.A x.U.n x.U.c, .slice x.C.A x.C.n x.C.c, .slice x.N.A x.N.n x.N.c, .slice x.Q.A x.Q.n x.Q.c, .slice x.E.A x.E.n x.E.c, .slice x.T.A x.T.n x.T.c], .agg #[.string y.name, .int .i64 y.ver, .slice y.U.A y.U.n y.U.c, .slice y.C.A y.C.n y.C.c, .slice y.N.A y.N.n y.N.c, .slice y.Q.A y.Q.n y.Q.c, .slice y.E.A y.E.n y.E.c, .slice y.T.A y.T.n y.T.c]] w (Ret w (.bool (langEM x y))) := by
  obtain ⟨nm1, vr1, ⟨Au1, nu1, cu1⟩, us1, ⟨Ac1, nc1, cc1⟩, cs1, ⟨An1, nn1, cn1⟩, ru1, ⟨Aq1, nq1, cq1⟩, qs1, ⟨Ae1, ne1, ce1⟩, es1, ⟨At1, nt1, ct1⟩, ts1⟩ := x
  obtain ⟨nm2, vr2, ⟨Au2, nu2, cu2⟩, us2, ⟨Ac2, nc2, cc2⟩, cs2, ⟨An2, nn2, cn2⟩, ru2, ⟨Aq2, nq2, cq2⟩, qs2, ⟨Ae2, ne2, ce2⟩, es2, ⟨At2, nt2, ct2⟩, ts2⟩ := y
  obtain ⟨iun1, iu1, ic1, inn1, in1, iq1, ie1, it1⟩ := hx
  obtain ⟨iun2, iu2, ic2, inn2, in2, iq2, ie2, it2⟩ := hy
  simp only at iun1 iun2 iu1 iu2 ic1 ic2 inn1 inn2 in1 in2 iq1 iq2 ie1 ie2 it1 it2 ⊢
  have HW0 := Lib.hid (B2.start w 29 #[.string nm1, .int .i64 vr1, .slice Au1 nu1 cu1, .slice Ac1 nc1 cc1, .slice An1 nn1 cn1, .slice Aq1 nq1 cq1, .slice Ae1 ne1 ce1, .slice At1 nt1 ct1] #[.string nm2, .int .i64 vr2, .slice Au2 nu2 cu2, .slice Ac2 nc2 cc2, .slice An2 nn2 cn2, .slice Aq2 nq2 cq2, .slice Ae2 ne2 ce2, .slice At2 nt2 ct2])
  have HN : Hid (langEM ⟨nm1, vr1, ⟨Au1, nu1, cu1⟩, us1, ⟨Ac1, nc1, cc1⟩, cs1, ⟨An1, nn1, cn1⟩, ru1, ⟨Aq1, nq1, cq1⟩, qs1, ⟨Ae1, ne1, ce1⟩, es1, ⟨At1, nt1, ct1⟩, ts1⟩ ⟨nm2, vr2, ⟨Au2, nu2, cu2⟩, us2, ⟨Ac2, nc2, cc2⟩, cs2, ⟨An2, nn2, cn2⟩, ru2, ⟨Aq2, nq2, cq2⟩, qs2, ⟨Ae2, ne2, ce2⟩, es2, ⟨At2, nt2, ct2⟩, ts2⟩ = ((nm1.toList == nm2.toList) && (vr1 == vr2) && eqL strE us1 us2 && eqL conEM cs1 cs2 && eqL ruE ru1 ru2 && eqL eqEM qs1 qs2 && eqL rowEM es1 es2 && eqL rowEM ts1 ts2)) := Lib.hid rfl
  obtain ⟨res, hres⟩ : ∃ b, langEM ⟨nm1, vr1, ⟨Au1, nu1, cu1⟩, us1, ⟨Ac1, nc1, cc1⟩, cs1, ⟨An1, nn1, cn1⟩, ru1, ⟨Aq1, nq1, cq1⟩, qs1, ⟨Ae1, ne1, ce1⟩, es1, ⟨At1, nt1, ct1⟩, ts1⟩ ⟨nm2, vr2, ⟨Au2, nu2, cu2⟩, us2, ⟨Ac2, nc2, cc2⟩, cs2, ⟨An2, nn2, cn2⟩, ru2, ⟨Aq2, nq2, cq2⟩, qs2, ⟨Ae2, ne2, ce2⟩, es2, ⟨At2, nt2, ct2⟩, ts2⟩ = b := ⟨_, rfl⟩
  rw [hres] at HN ⊢
  have hE1 : ∀ w2, Below w.heap.size w w2 → Calls Tryz.prog 29 #[.slice Au1 nu1 cu1, .slice Au2 nu2 cu2] w2 (Ret w2 (.bool (eqL strE us1 us2))) := fun w2 hb2 => (eqStrs_any w2 0 hi 0 hi _ _ _ _ _ _ _ _ (iu1.below (hb2.mono hh)) (iu2.below (hb2.mono hh))).mono fun _ _ => ret_of_drew
  obtain ⟨e1, he1⟩ : ∃ b, eqL strE us1 us2 = b := ⟨_, rfl⟩
  rw [he1] at hE1 HN
  have HE1 := Lib.hid hE1
  clear hE1 he1
  have hE2 : ∀ w2, Below w.heap.size w w2 → Calls Tryz.prog 30 #[.slice Ac1 nc1 cc1, .slice Ac2 nc2 cc2, .func (.func 31) #[] #[]] w2 (Ret w2 (.bool (eqL conEM cs1 cs2))) := fun w2 hb2 => eqf_con_any w2 hi ⟨Ac1, nc1, cc1⟩ ⟨Ac2, nc2, cc2⟩ _ _ (ic1.below conK (hb2.mono hh)) (ic2.below conK (hb2.mono hh)) (Nat.le_trans hh hb2.size)
  obtain ⟨e2, he2⟩ : ∃ b, eqL conEM cs1 cs2 = b := ⟨_, rfl⟩
  rw [he2] at hE2 HN
  have HE2 := Lib.hid hE2
  clear hE2 he2
  have hE3 : ∀ w2, Below w.heap.size w w2 → Calls Tryz.prog 32 #[.slice An1 nn1 cn1, .slice An2 nn2 cn2] w2 (Ret w2 (.bool (eqL ruE ru1 ru2))) := fun w2 hb2 => (eqRus_any w2 0 hi 0 hi _ _ _ _ _ _ _ _ (in1.below (hb2.mono hh)) (in2.below (hb2.mono hh))).mono fun _ _ => ret_of_drew
  obtain ⟨e3, he3⟩ : ∃ b, eqL ruE ru1 ru2 = b := ⟨_, rfl⟩
  rw [he3] at hE3 HN
  have HE3 := Lib.hid hE3
  clear hE3 he3
  have hE4 : ∀ w2, Below w.heap.size w w2 → Calls Tryz.prog 33 #[.slice Aq1 nq1 cq1, .slice Aq2 nq2 cq2, .func (.func 34) #[] #[]] w2 (Ret w2 (.bool (eqL eqEM qs1 qs2))) := fun w2 hb2 => eqf_eq_any w2 hi ⟨Aq1, nq1, cq1⟩ ⟨Aq2, nq2, cq2⟩ _ _ (iq1.below eqK (hb2.mono hh)) (iq2.below eqK (hb2.mono hh)) (Nat.le_trans hh hb2.size)
  obtain ⟨e4, he4⟩ : ∃ b, eqL eqEM qs1 qs2 = b := ⟨_, rfl⟩
  rw [he4] at hE4 HN
  have HE4 := Lib.hid hE4
  clear hE4 he4
  have hE5 : ∀ w2, Below w.heap.size w w2 → Calls Tryz.prog 35 #[.slice Ae1 ne1 ce1, .slice Ae2 ne2 ce2, .func (.func 36) #[] #[]] w2 (Ret w2 (.bool (eqL rowEM es1 es2))) := fun w2 hb2 => eqf_ed_any w2 hi ⟨Ae1, ne1, ce1⟩ ⟨Ae2, ne2, ce2⟩ _ _ (ie1.below rowK (hb2.mono hh)) (ie2.below rowK (hb2.mono hh)) (Nat.le_trans hh hb2.size)
  obtain ⟨e5, he5⟩ : ∃ b, eqL rowEM es1 es2 = b := ⟨_, rfl⟩
  rw [he5] at hE5 HN
  have HE5 := Lib.hid hE5
  clear hE5 he5
  have hE6 : ∀ w2, Below w.heap.size w w2 → Calls Tryz.prog 37 #[.slice At1 nt1 ct1, .slice At2 nt2 ct2, .func (.func 38) #[] #[]] w2 (Ret w2 (.bool (eqL rowEM ts1 ts2))) := fun w2 hb2 => eqf_te_any w2 hi ⟨At1, nt1, ct1⟩ ⟨At2, nt2, ct2⟩ _ _ (it1.below rowK (hb2.mono hh)) (it2.below rowK (hb2.mono hh)) (Nat.le_trans hh hb2.size)
  obtain ⟨e6, he6⟩ : ∃ b, eqL rowEM ts1 ts2 = b := ⟨_, rfl⟩
  rw [he6] at hE6 HN
  have HE6 := Lib.hid hE6
  clear hE6 he6
  clear iun1 iun2 iu1 iu2 ic1 ic2 inn1 inn2 in1 in2 iq1 iq2 ie1 ie2 it1 it2 hres
  cases d0 : (nm1.toList == nm2.toList) with
  | false =>
    have HZ : Hid (res = false) := Lib.hid (by rw [HN.out, d0]; simp)
    clear HN
    go_enter Tryz.func13, Tryz.ntmps13
    go_wp2_with fail
    go_ret
    exact ret_b (by exact HZ.out) rfl HW0.out.bel
  | true =>
    cases d1 : (vr1 == vr2) with
    | false =>
      have HZ : Hid (res = false) := Lib.hid (by rw [HN.out, d1]; simp)
      clear HN
      go_enter Tryz.func13, Tryz.ntmps13
      go_wp2_with fail
      go_ret
      exact ret_b (by exact HZ.out) rfl HW0.out.bel
    | true =>
      replace HN : Hid (res = (e1 && e2 && e3 && e4 && e5 && e6)) := Lib.hid (by rw [HN.out, d0, d1]; simp only [Bool.true_and])
      cases e1 with
      | false =>
        go_enter Tryz.func13, Tryz.ntmps13
        go_wp2_with (first | (go_at_call 29; (with_reducible refine (HE1.out _ HW0.out.bel).mono ?_); rintro e w1 ⟨rfl, hb1⟩; obtain ⟨s1, t1⟩ := bcell hb1; have HB1 := Lib.hid (HW0.out.after hb1); have hz1 := HB1.out.size; have hz1' : w.heap.size < w1.heap.size := (by omega); clear hb1))
        go_ret
        exact ret_b (by rw [HN.out]; simp) rfl HB1.out.bel
      | true =>
        cases e2 with
        | false =>
          go_enter Tryz.func13, Tryz.ntmps13
          go_wp2_with (first | (go_at_call 30; (with_reducible refine (HE2.out _ HB1.out.bel).mono ?_); rintro e w2 ⟨rfl, hb2⟩; obtain ⟨s2, t2⟩ := bcell hb2; have HB2 := Lib.hid (HB1.out.after hb2); have hz2 := HB2.out.size; have hz2' : w.heap.size < w2.heap.size := (by omega); clear hb2) | (go_at_call 29; (with_reducible refine (HE1.out _ HW0.out.bel).mono ?_); rintro e w1 ⟨rfl, hb1⟩; obtain ⟨s1, t1⟩ := bcell hb1; have HB1 := Lib.hid (HW0.out.after hb1); have hz1 := HB1.out.size; have hz1' : w.heap.size < w1.heap.size := (by omega); clear hb1))
          go_ret
          exact ret_b (by rw [HN.out]; simp) rfl HB2.out.bel
        | true =>
          cases e3 with
          | false =>
            go_enter Tryz.func13, Tryz.ntmps13
            go_wp2_with (first | (go_at_call 32; (with_reducible refine (HE3.out _ HB2.out.bel).mono ?_); rintro e w3 ⟨rfl, hb3⟩; obtain ⟨s3, t3⟩ := bcell hb3; have HB3 := Lib.hid (HB2.out.after hb3); have hz3 := HB3.out.size; have hz3' : w.heap.size < w3.heap.size := (by omega); clear hb3) | (go_at_call 30; (with_reducible refine (HE2.out _ HB1.out.bel).mono ?_); rintro e w2 ⟨rfl, hb2⟩; obtain ⟨s2, t2⟩ := bcell hb2; have HB2 := Lib.hid (HB1.out.after hb2); have hz2 := HB2.out.size; have hz2' : w.heap.size < w2.heap.size := (by omega); clear hb2) | (go_at_call 29; (with_reducible refine (HE1.out _ HW0.out.bel).mono ?_); rintro e w1 ⟨rfl, hb1⟩; obtain ⟨s1, t1⟩ := bcell hb1; have HB1 := Lib.hid (HW0.out.after hb1); have hz1 := HB1.out.size; have hz1' : w.heap.size < w1.heap.size := (by omega); clear hb1))
            go_ret
            exact ret_b (by rw [HN.out]; simp) rfl HB3.out.bel
          | true =>
            cases e4 with
            | false =>
              go_enter Tryz.func13, Tryz.ntmps13
              go_wp2_with (first | (go_at_call 33; (with_reducible refine (HE4.out _ HB3.out.bel).mono ?_); rintro e w4 ⟨rfl, hb4⟩; obtain ⟨s4, t4⟩ := bcell hb4; have HB4 := Lib.hid (HB3.out.after hb4); have hz4 := HB4.out.size; have hz4' : w.heap.size < w4.heap.size := (by omega); clear hb4) | (go_at_call 32; (with_reducible refine (HE3.out _ HB2.out.bel).mono ?_); rintro e w3 ⟨rfl, hb3⟩; obtain ⟨s3, t3⟩ := bcell hb3; have HB3 := Lib.hid (HB2.out.after hb3); have hz3 := HB3.out.size; have hz3' : w.heap.size < w3.heap.size := (by omega); clear hb3) | (go_at_call 30; (with_reducible refine (HE2.out _ HB1.out.bel).mono ?_); rintro e w2 ⟨rfl, hb2⟩; obtain ⟨s2, t2⟩ := bcell hb2; have HB2 := Lib.hid (HB1.out.after hb2); have hz2 := HB2.out.size; have hz2' : w.heap.size < w2.heap.size := (by omega); clear hb2) | (go_at_call 29; (with_reducible refine (HE1.out _ HW0.out.bel).mono ?_); rintro e w1 ⟨rfl, hb1⟩; obtain ⟨s1, t1⟩ := bcell hb1; have HB1 := Lib.hid (HW0.out.after hb1); have hz1 := HB1.out.size; have hz1' : w.heap.size < w1.heap.size := (by omega); clear hb1))
              go_ret
              exact ret_b (by rw [HN.out]; simp) rfl HB4.out.bel
            | true =>
              cases e5 with
              | false =>
                go_enter Tryz.func13, Tryz.ntmps13
                go_wp2_with (first | (go_at_call 35; (with_reducible refine (HE5.out _ HB4.out.bel).mono ?_); rintro e w5 ⟨rfl, hb5⟩; obtain ⟨s5, t5⟩ := bcell hb5; have HB5 := Lib.hid (HB4.out.after hb5); have hz5 := HB5.out.size; have hz5' : w.heap.size < w5.heap.size := (by omega); clear hb5) | (go_at_call 33; (with_reducible refine (HE4.out _ HB3.out.bel).mono ?_); rintro e w4 ⟨rfl, hb4⟩; obtain ⟨s4, t4⟩ := bcell hb4; have HB4 := Lib.hid (HB3.out.after hb4); have hz4 := HB4.out.size; have hz4' : w.heap.size < w4.heap.size := (by omega); clear hb4) | (go_at_call 32; (with_reducible refine (HE3.out _ HB2.out.bel).mono ?_); rintro e w3 ⟨rfl, hb3⟩; obtain ⟨s3, t3⟩ := bcell hb3; have HB3 := Lib.hid (HB2.out.after hb3); have hz3 := HB3.out.size; have hz3' : w.heap.size < w3.heap.size := (by omega); clear hb3) | (go_at_call 30; (with_reducible refine (HE2.out _ HB1.out.bel).mono ?_); rintro e w2 ⟨rfl, hb2⟩; obtain ⟨s2, t2⟩ := bcell hb2; have HB2 := Lib.hid (HB1.out.after hb2); have hz2 := HB2.out.size; have hz2' : w.heap.size < w2.heap.size := (by omega); clear hb2) | (go_at_call 29; (with_reducible refine (HE1.out _ HW0.out.bel).mono ?_); rintro e w1 ⟨rfl, hb1⟩; obtain ⟨s1, t1⟩ := bcell hb1; have HB1 := Lib.hid (HW0.out.after hb1); have hz1 := HB1.out.size; have hz1' : w.heap.size < w1.heap.size := (by omega); clear hb1))
                go_ret
                exact ret_b (by rw [HN.out]; simp) rfl HB5.out.bel
              | true =>
                cases e6 with
                | false =>
                  go_enter Tryz.func13, Tryz.ntmps13
                  go_wp2_with (first | (go_at_call 37; (with_reducible refine (HE6.out _ HB5.out.bel).mono ?_); rintro e w6 ⟨rfl, hb6⟩; obtain ⟨s6, t6⟩ := bcell hb6; have HB6 := Lib.hid (HB5.out.after hb6); have hz6 := HB6.out.size; have hz6' : w.heap.size < w6.heap.size := (by omega); clear hb6) | (go_at_call 35; (with_reducible refine (HE5.out _ HB4.out.bel).mono ?_); rintro e w5 ⟨rfl, hb5⟩; obtain ⟨s5, t5⟩ := bcell hb5; have HB5 := Lib.hid (HB4.out.after hb5); have hz5 := HB5.out.size; have hz5' : w.heap.size < w5.heap.size := (by omega); clear hb5) | (go_at_call 33; (with_reducible refine (HE4.out _ HB3.out.bel).mono ?_); rintro e w4 ⟨rfl, hb4⟩; obtain ⟨s4, t4⟩ := bcell hb4; have HB4 := Lib.hid (HB3.out.after hb4); have hz4 := HB4.out.size; have hz4' : w.heap.size < w4.heap.size := (by omega); clear hb4) | (go_at_call 32; (with_reducible refine (HE3.out _ HB2.out.bel).mono ?_); rintro e w3 ⟨rfl, hb3⟩; obtain ⟨s3, t3⟩ := bcell hb3; have HB3 := Lib.hid (HB2.out.after hb3); have hz3 := HB3.out.size; have hz3' : w.heap.size < w3.heap.size := (by omega); clear hb3) | (go_at_call 30; (with_reducible refine (HE2.out _ HB1.out.bel).mono ?_); rintro e w2 ⟨rfl, hb2⟩; obtain ⟨s2, t2⟩ := bcell hb2; have HB2 := Lib.hid (HB1.out.after hb2); have hz2 := HB2.out.size; have hz2' : w.heap.size < w2.heap.size := (by omega); clear hb2) | (go_at_call 29; (with_reducible refine (HE1.out _ HW0.out.bel).mono ?_); rintro e w1 ⟨rfl, hb1⟩; obtain ⟨s1, t1⟩ := bcell hb1; have HB1 := Lib.hid (HW0.out.after hb1); have hz1 := HB1.out.size; have hz1' : w.heap.size < w1.heap.size := (by omega); clear hb1))
                  go_ret
                  exact ret_b (by rw [HN.out]; rfl) rfl HB6.out.bel
                | true =>
                  go_enter Tryz.func13, Tryz.ntmps13
                  go_wp2_with (first | (go_at_call 37; (with_reducible refine (HE6.out _ HB5.out.bel).mono ?_); rintro e w6 ⟨rfl, hb6⟩; obtain ⟨s6, t6⟩ := bcell hb6; have HB6 := Lib.hid (HB5.out.after hb6); have hz6 := HB6.out.size; have hz6' : w.heap.size < w6.heap.size := (by omega); clear hb6) | (go_at_call 35; (with_reducible refine (HE5.out _ HB4.out.bel).mono ?_); rintro e w5 ⟨rfl, hb5⟩; obtain ⟨s5, t5⟩ := bcell hb5; have HB5 := Lib.hid (HB4.out.after hb5); have hz5 := HB5.out.size; have hz5' : w.heap.size < w5.heap.size := (by omega); clear hb5) | (go_at_call 33; (with_reducible refine (HE4.out _ HB3.out.bel).mono ?_); rintro e w4 ⟨rfl, hb4⟩; obtain ⟨s4, t4⟩ := bcell hb4; have HB4 := Lib.hid (HB3.out.after hb4); have hz4 := HB4.out.size; have hz4' : w.heap.size < w4.heap.size := (by omega); clear hb4) | (go_at_call 32; (with_reducible refine (HE3.out _ HB2.out.bel).mono ?_); rintro e w3 ⟨rfl, hb3⟩; obtain ⟨s3, t3⟩ := bcell hb3; have HB3 := Lib.hid (HB2.out.after hb3); have hz3 := HB3.out.size; have hz3' : w.heap.size < w3.heap.size := (by omega); clear hb3) | (go_at_call 30; (with_reducible refine (HE2.out _ HB1.out.bel).mono ?_); rintro e w2 ⟨rfl, hb2⟩; obtain ⟨s2, t2⟩ := bcell hb2; have HB2 := Lib.hid (HB1.out.after hb2); have hz2 := HB2.out.size; have hz2' : w.heap.size < w2.heap.size := (by omega); clear hb2) | (go_at_call 29; (with_reducible refine (HE1.out _ HW0.out.bel).mono ?_); rintro e w1 ⟨rfl, hb1⟩; obtain ⟨s1, t1⟩ := bcell hb1; have HB1 := Lib.hid (HW0.out.after hb1); have hz1 := HB1.out.size; have hz1' : w.heap.size < w1.heap.size := (by omega); clear hb1))
                  go_ret
                  exact ret_b (by rw [HN.out]; rfl) rfl HB6.out.bel
end Go.Proofs.YtilemieknfdjnaaGreat
namespace Go.Proofs.YtilemieknfdjnaaGreat
open Go Go.RowKit
set_option linter.unusedVariables false
abbrev Bys := List UInt8
theorem bys_irrefl (a : Bys) : ¬ a < a := List.lt_irrefl a
theorem bys_trans {a b c : Bys} (h : a < b) (h' : b < c) : a < c := List.lt_trans h h'
theorem bys_tri (a b : Bys) : a < b ∨ a = b ∨ b < a := by
  by_cases h1 : a < b
  · exact .inl h1
  · by_cases h2 : b < a
    · exact .inr (.inr h2)
    · exact .inr (.inl (List.le_antisymm (List.not_lt.1 h2) (List.not_lt.1 h1)))
theorem bys_le {a b : Bys} : a ≤ b ↔ a < b ∨ a = b := by
  constructor
  · intro h
    rcases bys_tri a b with h1 | h1 | h1
    · exact .inl h1
    · exact .inr h1
    · exact absurd h1 (List.not_lt.2 h)
  · rintro (h | rfl)
    · exact List.not_lt.1 (fun h' => bys_irrefl _ (bys_trans h h'))
    · exact List.not_lt.1 (bys_irrefl _)
abbrev Up (l : List Bys) : Prop := l.Pairwise (· < ·)
/-- lists that rise and have the same members are one -/
theorem up_eq : ∀ {l m : List Bys}, Up l → Up m → (∀ x, x ∈ l ↔ x ∈ m) → l = m
  | [], [], _, _, _ => rfl
  | [], y :: m, _, _, h => absurd ((h y).2 List.mem_cons_self) (by simp)
  | x :: l, [], _, _, h => absurd ((h x).1 List.mem_cons_self) (by simp)
  | x :: l, y :: m, hl, hm, h => by
    obtain ⟨hx, hl'⟩ := List.pairwise_cons.1 hl
    obtain ⟨hy, hm'⟩ := List.pairwise_cons.1 hm
    have e : x = y := by
      rcases List.mem_cons.1 ((h x).1 List.mem_cons_self) with e | e
      · exact e
      · rcases List.mem_cons.1 ((h y).2 List.mem_cons_self) with e' | e'
        · exact e'.symm
        · exact absurd (bys_trans (hy _ e) (hx _ e')) (bys_irrefl _)
    subst e
    congr 1
    refine up_eq hl' hm' fun z => ⟨fun hz => ?_, fun hz => ?_⟩
    · rcases List.mem_cons.1 ((h z).1 (List.mem_cons_of_mem _ hz)) with e | e
      · subst e; exact absurd (hx _ hz) (bys_irrefl _)
      · exact e
    · rcases List.mem_cons.1 ((h z).2 (List.mem_cons_of_mem _ hz)) with e | e
      · subst e; exact absurd (hy _ hz) (bys_irrefl _)
      · exact e
/-- a name put in its place, unless it stands there -/
def insN (s : Bys) : List Bys → List Bys
  | [] => [s]
  | x :: r => if x < s then x :: insN s r else if x = s then x :: r else s :: x :: r
theorem insN_mem (s z : Bys) : ∀ l, z ∈ insN s l ↔ z = s ∨ z ∈ l
  | [] => by simp [insN]
  | x :: r => by
    unfold insN
    split
    · rw [List.mem_cons, insN_mem s z r, List.mem_cons]; constructor <;> rintro (h | h | h) <;> simp [h]
    · split
      · rename_i h; subst h; simp
      · simp
theorem insN_up (s : Bys) : ∀ {l}, Up l → Up (insN s l)
  | [], _ => by simp [insN, Up]
  | x :: r, h => by
    obtain ⟨hx, hr⟩ := List.pairwise_cons.1 h
    unfold insN
    split
    · rename_i h1
      refine List.pairwise_cons.2 ⟨fun z hz => ?_, insN_up s hr⟩
      rcases (insN_mem s z r).1 hz with rfl | hz
      · exact h1
      · exact hx z hz
    · split
      · exact h
      · rename_i h1 h2
        refine List.pairwise_cons.2 ⟨fun z hz => ?_, h⟩
        have hsx : s < x := by
          rcases bys_tri s x with h3 | h3 | h3
          · exact h3
          · exact absurd h3.symm h2
          · exact absurd h3 h1
        rcases List.mem_cons.1 hz with rfl | hz
        · exact hsx
        · exact bys_trans hsx (hx z hz)
def namesV (B : List Bys) : List Bys := B.foldl (fun acc s => insN s acc) []
theorem names_fold : ∀ (B acc : List Bys), Up acc → Up (B.foldl (fun acc s => insN s acc) acc) ∧ ∀ z, z ∈ B.foldl (fun acc s => insN s acc) acc ↔ z ∈ acc ∨ z ∈ B
  | [], acc, h => ⟨h, by simp⟩
  | s :: B, acc, h => by
    obtain ⟨h1, h2⟩ := names_fold B (insN s acc) (insN_up s h)
    refine ⟨h1, fun z => ?_⟩
    rw [List.foldl_cons, h2, insN_mem, List.mem_cons]
    constructor
    · rintro ((h | h) | h) <;> simp [h]
    · rintro (h | h | h) <;> simp [h]
/-- what compact leaves of a list that does not fall -/
theorem compact_up {d : Array Bys} (hd : ∀ i j, i ≤ j → j < d.size → d[i]! ≤ d[j]!) : ∀ m, m ≤ d.size → Up (Lib.compactUpTo d m) ∧ ∀ z, z ∈ Lib.compactUpTo d m ↔ ∃ j, j < m ∧ d[j]! = z
  | 0, _ => ⟨by simp [Lib.compactUpTo, Up], by simp [Lib.compactUpTo]⟩
  | m + 1, h => by
    obtain ⟨h1, h2⟩ := compact_up hd m (by omega)
    rw [Lib.compactUpTo_succ]
    cases hk : Lib.keeps d m with
    | true =>
      rw [if_pos rfl]
      refine ⟨List.pairwise_append.2 ⟨h1, by simp, fun a ha b hb => ?_⟩, fun z => ?_⟩
      · rw [List.mem_singleton] at hb
        subst hb
        obtain ⟨j, hj, rfl⟩ := (h2 a).1 ha
        have hm : d[m - 1]! ≠ d[m]! := by
          intro e
          have := Lib.keeps_neg (d := d) (m := m) (by omega) e.symm
          rw [hk] at this; cases this
        have h3 : d[j]! ≤ d[m - 1]! := hd j (m - 1) (by omega) (by omega)
        have h4 : d[m - 1]! ≤ d[m]! := hd (m - 1) m (by omega) (by omega)
        have h5 : d[m - 1]! < d[m]! := (bys_le.1 h4).resolve_right hm
        rcases bys_le.1 h3 with h6 | h6
        · exact bys_trans h6 h5
        · rw [h6]; exact h5
      · rw [List.mem_append, h2, List.mem_singleton]
        constructor
        · rintro (⟨j, hj, e⟩ | e)
          · exact ⟨j, by omega, e⟩
          · exact ⟨m, by omega, e.symm⟩
        · rintro ⟨j, hj, e⟩
          rcases Nat.lt_or_ge j m with hj' | hj'
          · exact .inl ⟨j, hj', e⟩
          · exact .inr (by rw [← e, show j = m by omega])
    | false =>
      rw [if_neg (by simp), List.append_nil]
      refine ⟨h1, fun z => ?_⟩
      rw [h2]
      have hm : 0 < m ∧ d[m]! = d[m - 1]! := by
        rcases Nat.eq_zero_or_pos m with h0 | h0
        · subst h0; have := Lib.keeps_lt_one d 0 (by omega); rw [hk] at this; cases this
        · refine ⟨h0, Classical.byContradiction fun hne => ?_⟩
          have := Lib.keeps_pos hne; rw [hk] at this; cases this
      constructor
      · rintro ⟨j, hj, e⟩; exact ⟨j, by omega, e⟩
      · rintro ⟨j, hj, e⟩
        rcases Nat.lt_or_ge j m with hj' | hj'
        · exact ⟨j, hj', e⟩
        · exact ⟨m - 1, by omega, by rw [← hm.2, ← e, show j = m by omega]⟩
theorem sorted_le {l : List Bys} (h : l.Pairwise (· ≤ ·)) : ∀ i j, i ≤ j → j < l.toArray.size → l.toArray[i]! ≤ l.toArray[j]! := by
  intro i j hij hj
  have hj' : j < l.length := by simpa using hj
  have e1 : l.toArray[i]! = l[i]'(by omega) := by simp [show i < l.length by omega]
  have e2 : l.toArray[j]! = l[j] := by simp [hj']
  rw [e1, e2]
  rcases Nat.lt_or_ge i j with h1 | h1
  · exact List.pairwise_iff_getElem.1 h i j (by omega) hj' h1
  · have : i = j := by omega
    subst this
    exact bys_le.2 (.inr rfl)
/-- sorted and compacted: the names in order, each once -/
theorem compact_sort (B : List Bys) : Lib.compact (B.mergeSort fun x y => decide (x ≤ y)) = namesV B := by
  obtain ⟨S, hS⟩ : ∃ S, (B.mergeSort fun x y => decide (x ≤ y)) = S := ⟨_, rfl⟩
  have hp : S.Pairwise (· ≤ ·) := by
    rw [← hS]
    have := List.pairwise_mergeSort (le := fun x y : Bys => decide (x ≤ y)) (fun a b c h1 h2 => by
      simp only [decide_eq_true_eq] at h1 h2 ⊢
      exact List.le_trans h1 h2) (fun a b => by
      simp only [Bool.or_eq_true, decide_eq_true_eq]
      exact List.le_total a b) B
    exact this.imp (by intro a b h; simpa using h)
  have hm : ∀ z, z ∈ S ↔ z ∈ B := fun z => by rw [← hS]; exact List.mem_mergeSort
  rw [hS]
  obtain ⟨h1, h2⟩ := compact_up (sorted_le hp) S.length (by simp)
  obtain ⟨h3, h4⟩ := names_fold B [] (by simp [Up])
  refine up_eq h1 h3 fun z => ?_
  show z ∈ Lib.compactUpTo _ _ ↔ z ∈ List.foldl (fun acc s => insN s acc) [] B
  rw [h2, h4, ← hm]
  constructor
  · rintro ⟨j, hj, e⟩
    right
    have : S.toArray[j]! = S[j] := by simp [hj]
    rw [this] at e
    rw [← e]
    exact List.getElem_mem hj
  · rintro (h | h)
    · simp at h
    · obtain ⟨j, hj, e⟩ := List.getElem_of_mem h
      refine ⟨j, hj, ?_⟩
      have : S.toArray[j]! = S[j] := by simp [hj]
      rw [this, e]
end Go.Proofs.YtilemieknfdjnaaGreat
namespace Go.Proofs.YtilemieknfdjnaaGreat
open Go Go.RowKit Go.Sort
set_option linter.unusedVariables false
def enc (b : Bys) : Value := .string ⟨b.toArray⟩
def encs (l : List Bys) : List Value := l.map enc
theorem encs_len (l : List Bys) : (encs l).length = l.length := by simp [encs]
/-- names in own memory -/
def OwnS (w : World) (B : Nat) (v : Value) (l : List Bys) : Prop := w.ownsRow B 9 1 v l.length (encs l)
def NamesPost (w : World) (l : List Bys) (e : Ending) (w' : World) : Prop := ∃ v, e = .returned v ∧ OwnS w' w.heap.size v l ∧ Below w.heap.size w w'
theorem OwnS.after {w w' : World} {B : Nat} {v : Value} {l : List Bys} (h : OwnS w B v l) (hb : Below w.heap.size w w') : OwnS w' B v l := own_after h hb
theorem OwnS.num {w : World} {B n : Nat} {v : Value} {l : List Bys} (h : OwnS w B v l) (hl : l.length = n) : w.ownsRow B 9 1 v n (encs l) := by subst hl; exact h
theorem own_takeS {w : World} {B n c g a : Nat} {l : List Bys} (h : OwnS w B (.slice (some ⟨g, 0, none⟩) n c) l) (hl : l.length = n) (ha : a ≤ n) : w.ownsRow B 9 1 (.slice (some ⟨g, 0, none⟩) a c) a (encs (l.take a)) := by
  subst hl
  rcases h.2 with ⟨hv, _⟩ | ⟨g', cap, cur, hv, hb, hg, h1, h2, h3, h4⟩
  · simp at hv
  · injection hv with e1 e2 e3
    subst e3
    injection e1 with e1; injection e1 with e1; subst e1
    refine ⟨by rw [encs_len, List.length_take]; omega, .inr ⟨g, c, cur, rfl, hb, hg, by omega, h2, h3, ?_⟩⟩
    rw [Nat.mul_one] at h4 ⊢
    have : cur.toList.take a = (cur.toList.take l.length).take a := by rw [List.take_take]; congr 1; omega
    rw [this, h4]
    simp [encs, List.map_take]
end Go.Proofs.YtilemieknfdjnaaGreat
namespace Go.Proofs.YtilemieknfdjnaaGreat
open Go Go.RowKit Go.Sort
set_option linter.unusedVariables false
def sortS (l : List Bys) : List Bys := l.mergeSort fun x y => decide (x ≤ y)
theorem sortS_len (l : List Bys) : (sortS l).length = l.length := List.length_mergeSort _
theorem grow_nil (W : World) : grow W #[] = W := by cases W; simp [grow]
/-- names of the call's own are sorted in their place -/
theorem sort_ownS (w : World) (B c g n : Nat) (zs : List Bys) (h : OwnS w B (.slice (some ⟨g, 0, none⟩) n c) zs) (hl : zs.length = n) (h4 : n ≤ 1048576) :
    Calls Tryz.prog 39 #[.slice (some ⟨g, 0, none⟩) n c] w fun e w' => e = .returned (.tuple #[]) ∧ OwnS w' B (.slice (some ⟨g, 0, none⟩) n c) (sortS zs) ∧ w.grownBy w' (some g) := by
  subst hl
  rcases h.2 with ⟨h', _⟩ | ⟨g', cap, cur, h', hb, hg, hnc, hcm, hcs, htake⟩
  · simp at h'
  · simp only [Value.slice.injEq, Option.some.injEq, Addr.mk.injEq, and_true, true_and] at h'
    obtain ⟨rfl, rfl⟩ := h'
    rw [Nat.mul_one] at htake
    have h1 := Tryz.slices_Sort_string g 0 c zs w (holds_of_block hg htake) (Array.getElem?_eq_some_iff.1 hg).1 (by omega)
    refine h1.mono fun e w' ⟨he, n, os, hw⟩ => ⟨he, ?_, ?_⟩
    · rw [hw]
      have := ownsRow_sorted (n := n) (os := os) (ts := sortS zs) (sortS_len zs) hb hg hnc hcm hcs
      unfold OwnS
      rw [sortS_len]
      exact this
    · rw [hw]
      exact grownBy_sorted _
/-- .. and compacted -/
theorem compact_ownS (w : World) (B c g n : Nat) (zs : List Bys) (h : OwnS w B (.slice (some ⟨g, 0, none⟩) n c) zs) (hl : zs.length = n) (h4 : n ≤ 1048576) :
    Calls Tryz.prog 40 #[.slice (some ⟨g, 0, none⟩) n c] w fun e w' => e = .returned (.slice (some ⟨g, 0, none⟩) (Lib.compact zs).length c) ∧ OwnS w' B (.slice (some ⟨g, 0, none⟩) (Lib.compact zs).length c) (Lib.compact zs) ∧ w.grownBy w' (some g) := by
  subst hl
  rcases h.2 with ⟨h', _⟩ | ⟨g', cap, cur, h', hb, hg, hnc, hcm, hcs, htake⟩
  · simp at h'
  · simp only [Value.slice.injEq, Option.some.injEq, Addr.mk.injEq, and_true, true_and] at h'
    obtain ⟨rfl, rfl⟩ := h'
    rw [Nat.mul_one] at htake
    have h1 := Tryz.slices_Compact_string g 0 c zs w (holds_of_block hg htake) (by omega) hnc
    have hle := Lib.compact_length_le zs
    obtain ⟨D, hD⟩ : ∃ D, Lib.compact zs ++ List.replicate (zs.length - (Lib.compact zs).length) [] = D := ⟨_, rfl⟩
    have hDl : D.length = zs.length := by rw [← hD, List.length_append, List.length_replicate]; omega
    rw [hD] at h1
    refine h1.mono fun e w' ⟨he, q, hw⟩ => ⟨he, ?_, ?_⟩
    · have hw2 : w' = grow (putRow encStr (Sort.ahead w q) g 0 D.toArray) #[] := by rw [hw, grow_nil]
      rw [hw2]
      have h2 := ownsRow_sorted (n := q) (os := #[]) (ts := D) hDl hb hg hnc hcm hcs
      have h3 : OwnS (grow (putRow encStr (Sort.ahead w q) g 0 D.toArray) #[]) B (.slice (some ⟨g, 0, none⟩) zs.length c) D := by unfold OwnS; rw [hDl]; exact h2
      have h5 := own_takeS h3 hDl hle
      rw [← hD, List.take_left] at h5
      rw [hD] at h5
      exact h5
    · have hw2 : w' = grow (putRow encStr (Sort.ahead w q) g 0 D.toArray) #[] := by rw [hw, grow_nil]
      rw [hw2]
      exact grownBy_sorted _
set_option maxRecDepth 100000 in
set_option maxHeartbeats 6400000 in
theorem names_any (w : World) (hi : Nat) (x : LangM) (h : LangIn w 0 hi x) (hh : hi ≤ w.heap.size) (hn : x.C.n ≤ 1048576) : Calls Tryz.prog 15 #[.agg (langC x).toArray] w (NamesPost w (namesV (x.cs.map fun g => g.1.name.data.toList))) := by
  obtain ⟨nm, vr, ⟨Au, nu, cu⟩, us, ⟨Ac, nc, cc⟩, cs, ⟨An, nn, cn⟩, ru, ⟨Aq, nq, cq⟩, qs, ⟨Ae, ne, ce⟩, es, ⟨At, nt, ct⟩, ts⟩ := x
  obtain ⟨hun, hu, hc, hnn, hn_, hq, he, ht⟩ := h
  simp only at hc hn ⊢
  have HI := Lib.hid hc
  have HN := Lib.hid hc.n
  simp only at HN
  clear hun hu hc hnn hn_ hq he ht
  show Calls _ _ #[.agg #[.string nm, .int .i64 vr, .slice Au nu cu, .slice Ac nc cc, .slice An nn cn, .slice Aq nq cq, .slice Ae ne ce, .slice At nt ct]] _ _
  obtain ⟨NM, hNM⟩ : ∃ NM : List Bys, cs.map (fun g => g.1.name.data.toList) = NM := ⟨_, rfl⟩
  rw [hNM]
  have HNM := Lib.hid hNM
  have HNl : Hid (NM.length = nc) := Lib.hid (by rw [← hNM, List.length_map, HN.out])
  clear hNM
  obtain ⟨i0, hi0, hz0, hz1, hz2⟩ := info_parts info_str
  obtain ⟨cur, hcs, hmk⟩ := make_rows 22 9 i0 _ 1 16 Tryz.underlying22 hi0 hz0 hz1 hz2 rfl nc (by omega) (by omega)
  clear hz0 hz1 hz2 hi0
  have HX0 : Hid (Blk ((w.alloc (.cells #[.string nm, .int .i64 vr, .slice Au nu cu, .slice Ac nc cc, .slice An nn cn, .slice Aq nq cq, .slice Ae ne ce, .slice At nt ct] 29)).alloc (.cells cur 9)) w.heap.size 29 #[.string nm, .int .i64 vr, .slice Au nu cu, .slice Ac nc cc, .slice An nn cn, .slice Aq nq cq, .slice Ae ne ce, .slice At nt ct]) := Lib.hid ((Blk.new _ _ _).alloc _)
  have HO0 : Hid (∃ xs : List Value, xs.length = nc - 0 ∧ ((w.alloc (.cells #[.string nm, .int .i64 vr, .slice Au nu cu, .slice Ac nc cc, .slice An nn cn, .slice Aq nq cq, .slice Ae ne ce, .slice At nt ct] 29)).alloc (.cells cur 9)).ownsRow (w.heap.size + 1) 9 1 (.slice (some ⟨w.heap.size + 1, 0, none⟩) nc nc) nc (encs (NM.take 0) ++ xs)) := Lib.hid ⟨cur.toList, by simpa using hcs, by
    refine ⟨by simpa [encs] using hcs, .inr ⟨w.heap.size + 1, nc, cur, rfl, Nat.le_refl _, Blk.new' (by simp), Nat.le_refl _, by unfold maxLen; omega, hcs, ?_⟩⟩
    rw [List.take_of_length_le (by simp; omega)]
    simp [encs]⟩
  have HB0 : Hid (Below w.heap.size w ((w.alloc (.cells #[.string nm, .int .i64 vr, .slice Au nu cu, .slice Ac nc cc, .slice An nn cn, .slice Aq nq cq, .slice Ae ne ce, .slice At nt ct] 29)).alloc (.cells cur 9))) := Lib.hid ((below_more (Below.refl _ _) _).alloc (by simp) _)
  go_enter Tryz.func15, Tryz.ntmps15
  go_wp2_with fail
  go_loopw [13] (fun i wr => ∃ k : Nat, i = .int .i64 k ∧ k ≤ nc ∧ Hid (Blk wr w.heap.size 29 #[.string nm, .int .i64 vr, .slice Au nu cu, .slice Ac nc cc, .slice An nn cn, .slice Aq nq cq, .slice Ae ne ce, .slice At nt ct]) ∧ Hid (∃ xs : List Value, xs.length = nc - k ∧ wr.ownsRow (w.heap.size + 1) 9 1 (.slice (some ⟨w.heap.size + 1, 0, none⟩) nc nc) nc (encs (NM.take k) ++ xs)) ∧ Hid (Below w.heap.size w wr)) (fun i _ => nc - (intOf i).toNat)
  case atStart => exact ⟨0, rfl, Nat.zero_le _, HX0, HO0, HB0⟩
  case round =>
    obtain ⟨k, rfl, hk, HX, HO, HB⟩ := hrel
    have hsz := HB.out.size
    have hsx := HX.out.lt
    by_cases hlt : k < nc
    · obtain ⟨b, o, hA, _, hb, VV⟩ := HI.out.at_ (fun _ => rfl) (show 0 < nc by omega)
      simp only at hA
      subst hA
      obtain ⟨x, hx⟩ : ∃ x, cs[k]? = some x := ⟨cs[k]'(by have := HN.out; omega), List.getElem?_eq_getElem _⟩
      obtain ⟨hlf, hat⟩ := VV k x hx
      obtain ⟨⟨x1, x2, x3, xp, xk, xr⟩, ⟨⟨Ap, np, cp⟩, ⟨Ak, nk, ck⟩, ⟨Ar, nr, cr⟩⟩⟩ := x
      have q0 : wr.cell? ⟨b, o + k * 6, none⟩ = some (.string x1) := (HB.out.cell (p := ⟨_, _, none⟩) (show b < w.heap.size by omega)).trans (hat 0 _ (by omega) rfl)
      have q1 : wr.cell? ⟨b, o + k * 6 + 1, none⟩ = some (.string x2) := (HB.out.cell (p := ⟨_, _, none⟩) (show b < w.heap.size by omega)).trans (hat 1 _ (by omega) rfl)
      have q2 : wr.cell? ⟨b, o + k * 6 + 2, none⟩ = some (.bool x3) := (HB.out.cell (p := ⟨_, _, none⟩) (show b < w.heap.size by omega)).trans (hat 2 _ (by omega) rfl)
      have q3 : wr.cell? ⟨b, o + k * 6 + 3, none⟩ = some (.slice Ap np cp) := (HB.out.cell (p := ⟨_, _, none⟩) (show b < w.heap.size by omega)).trans (hat 3 _ (by omega) rfl)
      have q4 : wr.cell? ⟨b, o + k * 6 + 4, none⟩ = some (.slice Ak nk ck) := (HB.out.cell (p := ⟨_, _, none⟩) (show b < w.heap.size by omega)).trans (hat 4 _ (by omega) rfl)
      have q5 : wr.cell? ⟨b, o + k * 6 + 5, none⟩ = some (.slice Ar nr cr) := (HB.out.cell (p := ⟨_, _, none⟩) (show b < w.heap.size by omega)).trans (hat 5 _ (by omega) rfl)
      have hnx : Hid (NM[k]? = some x1.data.toList) := Lib.hid (by rw [← HNM.out, List.getElem?_map, hx]; rfl)
      obtain ⟨xs, hxs, hown⟩ := HO.out
      obtain ⟨u, xs', rfl⟩ : ∃ u xs', xs = u :: xs' := by
        cases xs with
        | nil => simp at hxs; omega
        | cons u xs' => exact ⟨u, xs', rfl⟩
      have hel : (encs (NM.take k)).length = k := by rw [encs_len, List.length_take]; have := HNl.out; omega
      have hown2 := World.ownsRow.alloc hown (.cells #[.string x1, .string x2, .bool x3, .slice Ap np cp, .slice Ak nk ck, .slice Ar nr cr] 47)
      have hgk : (encs (NM.take k) ++ u :: xs')[k]? = some u := by rw [List.getElem?_append_right (by omega), hel]; simp
      have cz : (wr.alloc (.cells #[.string x1, .string x2, .bool x3, .slice Ap np cp, .slice Ak nk ck, .slice Ar nr cr] 47)).cell? ⟨w.heap.size + 1, k, none⟩ = some u := (World.ownsRow.cellAt hown2 k (by omega)).trans hgk
      have fz : (wr.alloc (.cells #[.string x1, .string x2, .bool x3, .slice Ap np cp, .slice Ak nk ck, .slice Ar nr cr] 47)).frozen? ⟨w.heap.size + 1, k, none⟩ = false := World.ownsRow.frozenAt hown2 k
      have hst := World.ownsRow.stored hown2 k (.string x1)
      have hset : (encs (NM.take k) ++ u :: xs').set k (.string x1) = encs (NM.take (k + 1)) ++ xs' := by
        rw [List.set_append_right _ _ (by omega), hel, Nat.sub_self, List.set_cons_zero, List.take_add_one, hnx.out]
        simp only [encs, List.map_append, Option.toList_some, List.map_cons, List.map_nil, List.append_assoc, List.cons_append, List.nil_append]
        rfl
      have HO2 : Hid (∃ xs : List Value, xs.length = nc - (k + 1) ∧ ((wr.alloc (.cells #[.string x1, .string x2, .bool x3, .slice Ap np cp, .slice Ak nk ck, .slice Ar nr cr] 47)).setCell ⟨w.heap.size + 1, k, none⟩ (.string x1)).ownsRow (w.heap.size + 1) 9 1 (.slice (some ⟨w.heap.size + 1, 0, none⟩) nc nc) nc (encs (NM.take (k + 1)) ++ xs)) := Lib.hid ⟨xs', by simp at hxs; omega, by rw [← hset]; exact hst.1⟩
      have HX2 := Lib.hid (Blk.grown (HX.out.alloc (.cells #[.string x1, .string x2, .bool x3, .slice Ap np cp, .slice Ak nk ck, .slice Ar nr cr] 47)) hst.2 (by intro e; injection e with e; omega))
      have HB2 : Hid (Below w.heap.size w ((wr.alloc (.cells #[.string x1, .string x2, .bool x3, .slice Ap np cp, .slice Ak nk ck, .slice Ar nr cr] 47)).setCell ⟨w.heap.size + 1, k, none⟩ (.string x1))) := Lib.hid ((HB.out.alloc hsz _).setCell (p := ⟨w.heap.size + 1, k, none⟩) (Nat.le_succ _) _)
      clear hlf hat VV hx hxs hown hown2 hst hset hgk hel HO HX
      go_wp2_with fail
      go_roundw
      case rel => exact ⟨k + 1, by go_num, by omega, HX2, HO2, HB2⟩
      case measure => simp [intOf]; omega
    · have hkn : k = nc := by omega
      obtain ⟨xs, hxs, hown⟩ := HO.out
      have HOs : Hid (OwnS wr (w.heap.size + 1) (.slice (some ⟨w.heap.size + 1, 0, none⟩) nc nc) NM) := Lib.hid (by
        obtain rfl : xs = [] := List.length_eq_zero_iff.1 (by omega)
        rw [List.append_nil, List.take_of_length_le (by have := HNl.out; omega)] at hown
        unfold OwnS
        rw [HNl.out]; exact hown)
      clear hown hxs HO
      go_wp2_with fail
      refine (sort_ownS wr (w.heap.size + 1) nc (w.heap.size + 1) nc NM HOs.out HNl.out hn).mono ?_
      rintro e w2 ⟨rfl, ho2, hg2⟩
      have HB2 : Hid (Below w.heap.size w w2) := Lib.hid (below_grows (v := .slice (some ⟨w.heap.size + 1, 0, none⟩) nc nc) HB.out hg2 (OwnS.num HOs.out HNl.out) (Nat.le_succ _))
      have HO2 := Lib.hid ho2
      clear ho2 hg2
      go_wp2_with fail
      refine (compact_ownS w2 (w.heap.size + 1) nc (w.heap.size + 1) nc (sortS NM) HO2.out (by rw [sortS_len, HNl.out]) hn).mono ?_
      rintro e w3 ⟨rfl, ho3, hg3⟩
      have HB3 : Hid (Below w.heap.size w w3) := Lib.hid (below_grows (v := .slice (some ⟨w.heap.size + 1, 0, none⟩) nc nc) HB2.out hg3 (OwnS.num HO2.out (by rw [sortS_len, HNl.out])) (Nat.le_succ _))
      have HO3 : Hid (OwnS w3 w.heap.size (.slice (some ⟨w.heap.size + 1, 0, none⟩) (Lib.compact (sortS NM)).length nc) (namesV NM)) := Lib.hid (by rw [← compact_sort]; exact own_mono ho3 (Nat.le_succ _))
      clear ho3 hg3
      go_wp2_with fail
      go_ret
      exact ⟨_, rfl, HO3.out, HB3.out⟩
end Go.Proofs.YtilemieknfdjnaaGreat
namespace Go.Proofs.YtilemieknfdjnaaGreat
open Go Go.RowKit Go.Sort
set_option linter.unusedVariables false
set_option maxHeartbeats 1600000 in
theorem refTexts_any (w : World) (lo hi lo' hi' : Nat) (A A' : Option Addr) (n c n' c' : Nat) (l m : List ByteArray) (h1 : Row w lo hi 1 A n c (strCells l)) (h2 : Row w lo' hi' 1 A' n' c' (strCells m)) :
    Calls Tryz.prog 14 #[.slice A n c, .slice A' n' c'] w (DrewV w (.bool (eqL strE l m))) := by
  have hl1 : l.length = n := by have := h1.1; rw [strCells_length] at this; omega
  have hl2 : m.length = n' := by have := h2.1; rw [strCells_length] at this; omega
  have HL1 := Lib.hid hl1
  have HL2 := Lib.hid hl2
  have hc := h1.2.2.1
  have hnc := h1.2.1
  have hc' := h2.2.2.1
  have hnc' := h2.2.1
  unfold maxLen at hc hc'
  clear hl1 hl2
  by_cases hne : n = n'
  · have d0 : ((n : Int) != (n' : Int)) = false := by rw [bne_eq_false_iff_eq]; omega
    subst hne
    go_enter Tryz.func14, Tryz.ntmps14
    go_wp2_with fail
    go_loopw [5] (fun i wr => ∃ k : Nat, k ≤ n ∧ i = .int .i64 k ∧ Hid (∃ q, wr = w.drewN q) ∧ Hid (eqL strE l m = eqL strE (l.drop k) (m.drop k))) (fun i _ => n - (intOf i).toNat)
    case atStart => exact ⟨0, by omega, rfl, Lib.hid ⟨0, rfl⟩, Lib.hid rfl⟩
    case round =>
      obtain ⟨k, hk, rfl, HQ, HK⟩ := hrel
      by_cases hlt : k < n
      · obtain ⟨b1, o1, rfl, _, _, hcells1⟩ := (h1.below (drew_below HQ.out)).at_ (by omega)
        obtain ⟨b2, o2, rfl, _, _, hcells2⟩ := (h2.below (drew_below HQ.out)).at_ (by omega)
        obtain ⟨x, hx⟩ : ∃ x, l[k]? = some x := ⟨l[k]'(by have := HL1.out; omega), List.getElem?_eq_getElem _⟩
        obtain ⟨y, hy⟩ : ∃ y, m[k]? = some y := ⟨m[k]'(by have := HL2.out; omega), List.getElem?_eq_getElem _⟩
        have q1 := hcells1 k _ (strCells_get hx)
        have q2 := hcells2 k _ (strCells_get hy)
        have HD : Hid (eqL strE l m = (strE x y && eqL strE (l.drop (k + 1)) (m.drop (k + 1)))) := Lib.hid (by
          obtain ⟨hl1, e1⟩ := List.getElem?_eq_some_iff.1 hx
          obtain ⟨hl2, e2⟩ := List.getElem?_eq_some_iff.1 hy
          rw [HK.out, List.drop_eq_getElem_cons hl1, List.drop_eq_getElem_cons hl2, e1, e2]; rfl)
        clear HK hx hy hcells1 hcells2
        cases e0 : (x.toList == y.toList) with
        | false =>
          have HZ : Hid (eqL strE l m = false) := Lib.hid (by rw [HD.out]; simp only [strE, e0]; rfl)
          clear HD
          have d1 : (x.toList != y.toList) = true := by unfold bne; rw [e0]; rfl
          go_wp2_with fail
          go_quiet (fail)
          go_wp2_with fail
          go_ret
          exact ⟨ret_bool HZ.out.symm, drew_more HQ.out nq⟩
        | true =>
          have HZ : Hid (eqL strE l m = eqL strE (l.drop (k + 1)) (m.drop (k + 1))) := Lib.hid (by rw [HD.out]; simp only [strE, e0]; rfl)
          clear HD
          have d1 : (x.toList != y.toList) = false := by unfold bne; rw [e0]; rfl
          go_wp2_with fail
          go_quiet (fail)
          go_wp2_with fail
          go_roundw
          case rel => exact ⟨k + 1, by omega, by go_num, Lib.hid (drew_more HQ.out nq), HZ⟩
          case measure => simp [intOf]; omega
      · have HZ : Hid (eqL strE l m = true) := Lib.hid (by rw [HK.out, List.drop_eq_nil_of_le (by have := HL1.out; omega), List.drop_eq_nil_of_le (by have := HL2.out; omega)]; rfl)
        clear HK
        go_wp2_with fail
        go_ret
        exact ⟨ret_bool HZ.out.symm, HQ.out⟩
  · have d0 : ((n : Int) != (n' : Int)) = true := by rw [bne_iff_ne]; omega
    have HZ : Hid (eqL strE l m = false) := Lib.hid (eqL_len _ (by have := HL1.out; have := HL2.out; omega))
    clear hne
    go_enter Tryz.func14, Tryz.ntmps14
    go_wp2_with fail
    go_ret
    exact ⟨ret_bool HZ.out.symm, 0, rfl⟩
end Go.Proofs.YtilemieknfdjnaaGreat

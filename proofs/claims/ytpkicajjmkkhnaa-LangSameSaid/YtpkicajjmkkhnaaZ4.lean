/-
  WALKS: the program: languages are the same.
  WALKS: the document: two concepts are the same.
-/
import Derived.Test.YtpkicajjmkkhnaaZ3
namespace Go.Proofs.Ytpkicajjmkkhnaa
open Go Go.RowKit Go.Sort
set_option linter.unusedVariables false
set_option maxRecDepth 100000 in
set_option maxHeartbeats 6400000 in
theorem same_lang_any (w : World) (hi : Nat) (x y : LangM) (hx : LangIn w 0 hi x) (hy : LangIn w 0 hi y) (hh : hi ≤ w.heap.size) :
    Calls Try.prog 6 #[.agg #[.string x.name, .int .i64 x.ver, .slice x.U.A x.U.n x.U.c, .slice x.C.A x.C.n x.C.c, .slice x.N.A x.N.n x.N.c, .slice x.Q.A x.Q.n x.Q.c, .slice x.E.A x.E.n x.E.c, .slice x.T.A x.T.n x.T.c], .agg #[.string y.name, .int .i64 y.ver, .slice y.U.A y.U.n y.U.c, .slice y.C.A y.C.n y.C.c, .slice y.N.A y.N.n y.N.c, .slice y.Q.A y.Q.n y.Q.c, .slice y.E.A y.E.n y.E.c, .slice y.T.A y.T.n y.T.c]] w (Ret w (.bool (langEM x y))) := by
  obtain ⟨nm1, vr1, ⟨Au1, nu1, cu1⟩, us1, ⟨Ac1, nc1, cc1⟩, cs1, ⟨An1, nn1, cn1⟩, ru1, ⟨Aq1, nq1, cq1⟩, qs1, ⟨Ae1, ne1, ce1⟩, es1, ⟨At1, nt1, ct1⟩, ts1⟩ := x
  obtain ⟨nm2, vr2, ⟨Au2, nu2, cu2⟩, us2, ⟨Ac2, nc2, cc2⟩, cs2, ⟨An2, nn2, cn2⟩, ru2, ⟨Aq2, nq2, cq2⟩, qs2, ⟨Ae2, ne2, ce2⟩, es2, ⟨At2, nt2, ct2⟩, ts2⟩ := y
  obtain ⟨iun1, iu1, ic1, inn1, in1, iq1, ie1, it1⟩ := hx
  obtain ⟨iun2, iu2, ic2, inn2, in2, iq2, ie2, it2⟩ := hy
  simp only at iun1 iun2 iu1 iu2 ic1 ic2 inn1 inn2 in1 in2 iq1 iq2 ie1 ie2 it1 it2 ⊢
  have HW0 := Lib.hid (B2.start w 29 #[.string nm1, .int .i64 vr1, .slice Au1 nu1 cu1, .slice Ac1 nc1 cc1, .slice An1 nn1 cn1, .slice Aq1 nq1 cq1, .slice Ae1 ne1 ce1, .slice At1 nt1 ct1] #[.string nm2, .int .i64 vr2, .slice Au2 nu2 cu2, .slice Ac2 nc2 cc2, .slice An2 nn2 cn2, .slice Aq2 nq2 cq2, .slice Ae2 ne2 ce2, .slice At2 nt2 ct2])
  have HN : Hid (langEM ⟨nm1, vr1, ⟨Au1, nu1, cu1⟩, us1, ⟨Ac1, nc1, cc1⟩, cs1, ⟨An1, nn1, cn1⟩, ru1, ⟨Aq1, nq1, cq1⟩, qs1, ⟨Ae1, ne1, ce1⟩, es1, ⟨At1, nt1, ct1⟩, ts1⟩ ⟨nm2, vr2, ⟨Au2, nu2, cu2⟩, us2, ⟨Ac2, nc2, cc2⟩, cs2, ⟨An2, nn2, cn2⟩, ru2, ⟨Aq2, nq2, cq2⟩, qs2, ⟨Ae2, ne2, ce2⟩, es2, ⟨At2, nt2, ct2⟩, ts2⟩ = ((nm1.toList == nm2.toList) && (vr1 == vr2) && eqL strE us1 us2 && eqL conEM cs1 cs2 && eqL ruE ru1 ru2 && eqL eqEM qs1 qs2 && eqL rowEM es1 es2 && eqL rowEM ts1 ts2)) := Lib.hid rfl
  obtain ⟨res, hres⟩ : ∃ b, langEM ⟨nm1, vr1, ⟨Au1, nu1, cu1⟩, us1, ⟨Ac1, nc1, cc1⟩, cs1, ⟨An1, nn1, cn1⟩, ru1, ⟨Aq1, nq1, cq1⟩, qs1, ⟨Ae1, ne1, ce1⟩, es1, ⟨At1, nt1, ct1⟩, ts1⟩ ⟨nm2, vr2, ⟨Au2, nu2, cu2⟩, us2, ⟨Ac2, nc2, cc2⟩, cs2, ⟨An2, nn2, cn2⟩, ru2, ⟨Aq2, nq2, cq2⟩, qs2, ⟨Ae2, ne2, ce2⟩, es2, ⟨At2, nt2, ct2⟩, ts2⟩ = b := ⟨_, rfl⟩
  rw [hres] at HN ⊢
  have hE1 : ∀ w2, Below w.heap.size w w2 → Calls Try.prog 17 #[.slice Au1 nu1 cu1, .slice Au2 nu2 cu2] w2 (Ret w2 (.bool (eqL strE us1 us2))) := fun w2 hb2 => (eqStrs_any w2 0 hi 0 hi _ _ _ _ _ _ _ _ (iu1.below (hb2.mono hh)) (iu2.below (hb2.mono hh))).mono fun _ _ => ret_of_drew
  obtain ⟨e1, he1⟩ : ∃ b, eqL strE us1 us2 = b := ⟨_, rfl⟩
  rw [he1] at hE1 HN
  have HE1 := Lib.hid hE1
  clear hE1 he1
  have hE2 : ∀ w2, Below w.heap.size w w2 → Calls Try.prog 18 #[.slice Ac1 nc1 cc1, .slice Ac2 nc2 cc2, .func (.func 19) #[] #[]] w2 (Ret w2 (.bool (eqL conEM cs1 cs2))) := fun w2 hb2 => eqf_con_any w2 hi ⟨Ac1, nc1, cc1⟩ ⟨Ac2, nc2, cc2⟩ _ _ (ic1.below conK (hb2.mono hh)) (ic2.below conK (hb2.mono hh)) (Nat.le_trans hh hb2.size)
  obtain ⟨e2, he2⟩ : ∃ b, eqL conEM cs1 cs2 = b := ⟨_, rfl⟩
  rw [he2] at hE2 HN
  have HE2 := Lib.hid hE2
  clear hE2 he2
  have hE3 : ∀ w2, Below w.heap.size w w2 → Calls Try.prog 20 #[.slice An1 nn1 cn1, .slice An2 nn2 cn2] w2 (Ret w2 (.bool (eqL ruE ru1 ru2))) := fun w2 hb2 => (eqRus_any w2 0 hi 0 hi _ _ _ _ _ _ _ _ (in1.below (hb2.mono hh)) (in2.below (hb2.mono hh))).mono fun _ _ => ret_of_drew
  obtain ⟨e3, he3⟩ : ∃ b, eqL ruE ru1 ru2 = b := ⟨_, rfl⟩
  rw [he3] at hE3 HN
  have HE3 := Lib.hid hE3
  clear hE3 he3
  have hE4 : ∀ w2, Below w.heap.size w w2 → Calls Try.prog 21 #[.slice Aq1 nq1 cq1, .slice Aq2 nq2 cq2, .func (.func 22) #[] #[]] w2 (Ret w2 (.bool (eqL eqEM qs1 qs2))) := fun w2 hb2 => eqf_eq_any w2 hi ⟨Aq1, nq1, cq1⟩ ⟨Aq2, nq2, cq2⟩ _ _ (iq1.below eqK (hb2.mono hh)) (iq2.below eqK (hb2.mono hh)) (Nat.le_trans hh hb2.size)
  obtain ⟨e4, he4⟩ : ∃ b, eqL eqEM qs1 qs2 = b := ⟨_, rfl⟩
  rw [he4] at hE4 HN
  have HE4 := Lib.hid hE4
  clear hE4 he4
  have hE5 : ∀ w2, Below w.heap.size w w2 → Calls Try.prog 23 #[.slice Ae1 ne1 ce1, .slice Ae2 ne2 ce2, .func (.func 24) #[] #[]] w2 (Ret w2 (.bool (eqL rowEM es1 es2))) := fun w2 hb2 => eqf_ed_any w2 hi ⟨Ae1, ne1, ce1⟩ ⟨Ae2, ne2, ce2⟩ _ _ (ie1.below rowK (hb2.mono hh)) (ie2.below rowK (hb2.mono hh)) (Nat.le_trans hh hb2.size)
  obtain ⟨e5, he5⟩ : ∃ b, eqL rowEM es1 es2 = b := ⟨_, rfl⟩
  rw [he5] at hE5 HN
  have HE5 := Lib.hid hE5
  clear hE5 he5
  have hE6 : ∀ w2, Below w.heap.size w w2 → Calls Try.prog 25 #[.slice At1 nt1 ct1, .slice At2 nt2 ct2, .func (.func 26) #[] #[]] w2 (Ret w2 (.bool (eqL rowEM ts1 ts2))) := fun w2 hb2 => eqf_te_any w2 hi ⟨At1, nt1, ct1⟩ ⟨At2, nt2, ct2⟩ _ _ (it1.below rowK (hb2.mono hh)) (it2.below rowK (hb2.mono hh)) (Nat.le_trans hh hb2.size)
  obtain ⟨e6, he6⟩ : ∃ b, eqL rowEM ts1 ts2 = b := ⟨_, rfl⟩
  rw [he6] at hE6 HN
  have HE6 := Lib.hid hE6
  clear hE6 he6
  clear iun1 iun2 iu1 iu2 ic1 ic2 inn1 inn2 in1 in2 iq1 iq2 ie1 ie2 it1 it2 hres
  cases d0 : (nm1.toList == nm2.toList) with
  | false =>
    have HZ : Hid (res = false) := Lib.hid (by rw [HN.out, d0]; simp)
    clear HN
    go_enter Try.func6, Try.ntmps6
    go_wp2_with fail
    go_ret
    exact ret_b (by exact HZ.out) rfl HW0.out.bel
  | true =>
    cases d1 : (vr1 == vr2) with
    | false =>
      have HZ : Hid (res = false) := Lib.hid (by rw [HN.out, d1]; simp)
      clear HN
      go_enter Try.func6, Try.ntmps6
      go_wp2_with fail
      go_ret
      exact ret_b (by exact HZ.out) rfl HW0.out.bel
    | true =>
      replace HN : Hid (res = (e1 && e2 && e3 && e4 && e5 && e6)) := Lib.hid (by rw [HN.out, d0, d1]; simp only [Bool.true_and])
      cases e1 with
      | false =>
        go_enter Try.func6, Try.ntmps6
        go_wp2_with (first | (go_at_call 17; (with_reducible refine (HE1.out _ HW0.out.bel).mono ?_); rintro e w1 ⟨rfl, hb1⟩; obtain ⟨s1, t1⟩ := bcell hb1; have HB1 := Lib.hid (HW0.out.after hb1); have hz1 := HB1.out.size; have hz1' : w.heap.size < w1.heap.size := (by omega); clear hb1))
        go_ret
        exact ret_b (by rw [HN.out]; simp) rfl HB1.out.bel
      | true =>
        cases e2 with
        | false =>
          go_enter Try.func6, Try.ntmps6
          go_wp2_with (first | (go_at_call 18; (with_reducible refine (HE2.out _ HB1.out.bel).mono ?_); rintro e w2 ⟨rfl, hb2⟩; obtain ⟨s2, t2⟩ := bcell hb2; have HB2 := Lib.hid (HB1.out.after hb2); have hz2 := HB2.out.size; have hz2' : w.heap.size < w2.heap.size := (by omega); clear hb2) | (go_at_call 17; (with_reducible refine (HE1.out _ HW0.out.bel).mono ?_); rintro e w1 ⟨rfl, hb1⟩; obtain ⟨s1, t1⟩ := bcell hb1; have HB1 := Lib.hid (HW0.out.after hb1); have hz1 := HB1.out.size; have hz1' : w.heap.size < w1.heap.size := (by omega); clear hb1))
          go_ret
          exact ret_b (by rw [HN.out]; simp) rfl HB2.out.bel
        | true =>
          cases e3 with
          | false =>
            go_enter Try.func6, Try.ntmps6
            go_wp2_with (first | (go_at_call 20; (with_reducible refine (HE3.out _ HB2.out.bel).mono ?_); rintro e w3 ⟨rfl, hb3⟩; obtain ⟨s3, t3⟩ := bcell hb3; have HB3 := Lib.hid (HB2.out.after hb3); have hz3 := HB3.out.size; have hz3' : w.heap.size < w3.heap.size := (by omega); clear hb3) | (go_at_call 18; (with_reducible refine (HE2.out _ HB1.out.bel).mono ?_); rintro e w2 ⟨rfl, hb2⟩; obtain ⟨s2, t2⟩ := bcell hb2; have HB2 := Lib.hid (HB1.out.after hb2); have hz2 := HB2.out.size; have hz2' : w.heap.size < w2.heap.size := (by omega); clear hb2) | (go_at_call 17; (with_reducible refine (HE1.out _ HW0.out.bel).mono ?_); rintro e w1 ⟨rfl, hb1⟩; obtain ⟨s1, t1⟩ := bcell hb1; have HB1 := Lib.hid (HW0.out.after hb1); have hz1 := HB1.out.size; have hz1' : w.heap.size < w1.heap.size := (by omega); clear hb1))
            go_ret
            exact ret_b (by rw [HN.out]; simp) rfl HB3.out.bel
          | true =>
            cases e4 with
            | false =>
              go_enter Try.func6, Try.ntmps6
              go_wp2_with (first | (go_at_call 21; (with_reducible refine (HE4.out _ HB3.out.bel).mono ?_); rintro e w4 ⟨rfl, hb4⟩; obtain ⟨s4, t4⟩ := bcell hb4; have HB4 := Lib.hid (HB3.out.after hb4); have hz4 := HB4.out.size; have hz4' : w.heap.size < w4.heap.size := (by omega); clear hb4) | (go_at_call 20; (with_reducible refine (HE3.out _ HB2.out.bel).mono ?_); rintro e w3 ⟨rfl, hb3⟩; obtain ⟨s3, t3⟩ := bcell hb3; have HB3 := Lib.hid (HB2.out.after hb3); have hz3 := HB3.out.size; have hz3' : w.heap.size < w3.heap.size := (by omega); clear hb3) | (go_at_call 18; (with_reducible refine (HE2.out _ HB1.out.bel).mono ?_); rintro e w2 ⟨rfl, hb2⟩; obtain ⟨s2, t2⟩ := bcell hb2; have HB2 := Lib.hid (HB1.out.after hb2); have hz2 := HB2.out.size; have hz2' : w.heap.size < w2.heap.size := (by omega); clear hb2) | (go_at_call 17; (with_reducible refine (HE1.out _ HW0.out.bel).mono ?_); rintro e w1 ⟨rfl, hb1⟩; obtain ⟨s1, t1⟩ := bcell hb1; have HB1 := Lib.hid (HW0.out.after hb1); have hz1 := HB1.out.size; have hz1' : w.heap.size < w1.heap.size := (by omega); clear hb1))
              go_ret
              exact ret_b (by rw [HN.out]; simp) rfl HB4.out.bel
            | true =>
              cases e5 with
              | false =>
                go_enter Try.func6, Try.ntmps6
                go_wp2_with (first | (go_at_call 23; (with_reducible refine (HE5.out _ HB4.out.bel).mono ?_); rintro e w5 ⟨rfl, hb5⟩; obtain ⟨s5, t5⟩ := bcell hb5; have HB5 := Lib.hid (HB4.out.after hb5); have hz5 := HB5.out.size; have hz5' : w.heap.size < w5.heap.size := (by omega); clear hb5) | (go_at_call 21; (with_reducible refine (HE4.out _ HB3.out.bel).mono ?_); rintro e w4 ⟨rfl, hb4⟩; obtain ⟨s4, t4⟩ := bcell hb4; have HB4 := Lib.hid (HB3.out.after hb4); have hz4 := HB4.out.size; have hz4' : w.heap.size < w4.heap.size := (by omega); clear hb4) | (go_at_call 20; (with_reducible refine (HE3.out _ HB2.out.bel).mono ?_); rintro e w3 ⟨rfl, hb3⟩; obtain ⟨s3, t3⟩ := bcell hb3; have HB3 := Lib.hid (HB2.out.after hb3); have hz3 := HB3.out.size; have hz3' : w.heap.size < w3.heap.size := (by omega); clear hb3) | (go_at_call 18; (with_reducible refine (HE2.out _ HB1.out.bel).mono ?_); rintro e w2 ⟨rfl, hb2⟩; obtain ⟨s2, t2⟩ := bcell hb2; have HB2 := Lib.hid (HB1.out.after hb2); have hz2 := HB2.out.size; have hz2' : w.heap.size < w2.heap.size := (by omega); clear hb2) | (go_at_call 17; (with_reducible refine (HE1.out _ HW0.out.bel).mono ?_); rintro e w1 ⟨rfl, hb1⟩; obtain ⟨s1, t1⟩ := bcell hb1; have HB1 := Lib.hid (HW0.out.after hb1); have hz1 := HB1.out.size; have hz1' : w.heap.size < w1.heap.size := (by omega); clear hb1))
                go_ret
                exact ret_b (by rw [HN.out]; simp) rfl HB5.out.bel
              | true =>
                cases e6 with
                | false =>
                  go_enter Try.func6, Try.ntmps6
                  go_wp2_with (first | (go_at_call 25; (with_reducible refine (HE6.out _ HB5.out.bel).mono ?_); rintro e w6 ⟨rfl, hb6⟩; obtain ⟨s6, t6⟩ := bcell hb6; have HB6 := Lib.hid (HB5.out.after hb6); have hz6 := HB6.out.size; have hz6' : w.heap.size < w6.heap.size := (by omega); clear hb6) | (go_at_call 23; (with_reducible refine (HE5.out _ HB4.out.bel).mono ?_); rintro e w5 ⟨rfl, hb5⟩; obtain ⟨s5, t5⟩ := bcell hb5; have HB5 := Lib.hid (HB4.out.after hb5); have hz5 := HB5.out.size; have hz5' : w.heap.size < w5.heap.size := (by omega); clear hb5) | (go_at_call 21; (with_reducible refine (HE4.out _ HB3.out.bel).mono ?_); rintro e w4 ⟨rfl, hb4⟩; obtain ⟨s4, t4⟩ := bcell hb4; have HB4 := Lib.hid (HB3.out.after hb4); have hz4 := HB4.out.size; have hz4' : w.heap.size < w4.heap.size := (by omega); clear hb4) | (go_at_call 20; (with_reducible refine (HE3.out _ HB2.out.bel).mono ?_); rintro e w3 ⟨rfl, hb3⟩; obtain ⟨s3, t3⟩ := bcell hb3; have HB3 := Lib.hid (HB2.out.after hb3); have hz3 := HB3.out.size; have hz3' : w.heap.size < w3.heap.size := (by omega); clear hb3) | (go_at_call 18; (with_reducible refine (HE2.out _ HB1.out.bel).mono ?_); rintro e w2 ⟨rfl, hb2⟩; obtain ⟨s2, t2⟩ := bcell hb2; have HB2 := Lib.hid (HB1.out.after hb2); have hz2 := HB2.out.size; have hz2' : w.heap.size < w2.heap.size := (by omega); clear hb2) | (go_at_call 17; (with_reducible refine (HE1.out _ HW0.out.bel).mono ?_); rintro e w1 ⟨rfl, hb1⟩; obtain ⟨s1, t1⟩ := bcell hb1; have HB1 := Lib.hid (HW0.out.after hb1); have hz1 := HB1.out.size; have hz1' : w.heap.size < w1.heap.size := (by omega); clear hb1))
                  go_ret
                  exact ret_b (by rw [HN.out]; rfl) rfl HB6.out.bel
                | true =>
                  go_enter Try.func6, Try.ntmps6
                  go_wp2_with (first | (go_at_call 25; (with_reducible refine (HE6.out _ HB5.out.bel).mono ?_); rintro e w6 ⟨rfl, hb6⟩; obtain ⟨s6, t6⟩ := bcell hb6; have HB6 := Lib.hid (HB5.out.after hb6); have hz6 := HB6.out.size; have hz6' : w.heap.size < w6.heap.size := (by omega); clear hb6) | (go_at_call 23; (with_reducible refine (HE5.out _ HB4.out.bel).mono ?_); rintro e w5 ⟨rfl, hb5⟩; obtain ⟨s5, t5⟩ := bcell hb5; have HB5 := Lib.hid (HB4.out.after hb5); have hz5 := HB5.out.size; have hz5' : w.heap.size < w5.heap.size := (by omega); clear hb5) | (go_at_call 21; (with_reducible refine (HE4.out _ HB3.out.bel).mono ?_); rintro e w4 ⟨rfl, hb4⟩; obtain ⟨s4, t4⟩ := bcell hb4; have HB4 := Lib.hid (HB3.out.after hb4); have hz4 := HB4.out.size; have hz4' : w.heap.size < w4.heap.size := (by omega); clear hb4) | (go_at_call 20; (with_reducible refine (HE3.out _ HB2.out.bel).mono ?_); rintro e w3 ⟨rfl, hb3⟩; obtain ⟨s3, t3⟩ := bcell hb3; have HB3 := Lib.hid (HB2.out.after hb3); have hz3 := HB3.out.size; have hz3' : w.heap.size < w3.heap.size := (by omega); clear hb3) | (go_at_call 18; (with_reducible refine (HE2.out _ HB1.out.bel).mono ?_); rintro e w2 ⟨rfl, hb2⟩; obtain ⟨s2, t2⟩ := bcell hb2; have HB2 := Lib.hid (HB1.out.after hb2); have hz2 := HB2.out.size; have hz2' : w.heap.size < w2.heap.size := (by omega); clear hb2) | (go_at_call 17; (with_reducible refine (HE1.out _ HW0.out.bel).mono ?_); rintro e w1 ⟨rfl, hb1⟩; obtain ⟨s1, t1⟩ := bcell hb1; have HB1 := Lib.hid (HW0.out.after hb1); have hz1 := HB1.out.size; have hz1' : w.heap.size < w1.heap.size := (by omega); clear hb1))
                  go_ret
                  exact ret_b (by rw [HN.out]; rfl) rfl HB6.out.bel
end Go.Proofs.Ytpkicajjmkkhnaa
namespace Go.Proofs.Ytpkicajjmkkhnaa
open Go Go.RowKit Go.Sort
set_option linter.unusedVariables false
set_option maxRecDepth 100000 in
set_option maxHeartbeats 6400000 in
theorem refSameConcept_any (w : World) (hi : Nat) (x y : ConD × Leaf) (hx : ConIn w 0 hi x) (hy : ConIn w 0 hi y) (hh : hi ≤ w.heap.size) :
    Calls Try.prog 12 #[.agg #[.string x.1.name, .string x.1.super, .bool x.1.abs, .slice x.2.p.A x.2.p.n x.2.p.c, .slice x.2.k.A x.2.k.n x.2.k.c, .slice x.2.r.A x.2.r.n x.2.r.c], .agg #[.string y.1.name, .string y.1.super, .bool y.1.abs, .slice y.2.p.A y.2.p.n y.2.p.c, .slice y.2.k.A y.2.k.n y.2.k.c, .slice y.2.r.A y.2.r.n y.2.r.c]] w (Ret w (.bool (conEM x y))) := by
  obtain ⟨x1, ⟨⟨Ap1, np1, cp1⟩, ⟨Ak1, nk1, ck1⟩, ⟨Ar1, nr1, cr1⟩⟩⟩ := x
  obtain ⟨x2, ⟨⟨Ap2, np2, cp2⟩, ⟨Ak2, nk2, ck2⟩, ⟨Ar2, nr2, cr2⟩⟩⟩ := y
  obtain ⟨ipn1, ikn1, irn1, ip1, ik1, ir1⟩ := hx
  obtain ⟨ipn2, ikn2, irn2, ip2, ik2, ir2⟩ := hy
  simp only at ipn1 ipn2 ikn1 ikn2 irn1 irn2 ip1 ip2 ik1 ik2 ir1 ir2 ⊢
  have HW := Lib.hid (B2.start w 38 #[.string x1.name, .string x1.super, .bool x1.abs, .slice Ap1 np1 cp1, .slice Ak1 nk1 ck1, .slice Ar1 nr1 cr1] #[.string x2.name, .string x2.super, .bool x2.abs, .slice Ap2 np2 cp2, .slice Ak2 nk2 ck2, .slice Ar2 nr2 cr2])
  have HN : Hid (conEM ⟨x1, ⟨⟨Ap1, np1, cp1⟩, ⟨Ak1, nk1, ck1⟩, ⟨Ar1, nr1, cr1⟩⟩⟩ ⟨x2, ⟨⟨Ap2, np2, cp2⟩, ⟨Ak2, nk2, ck2⟩, ⟨Ar2, nr2, cr2⟩⟩⟩ = ((x1.name.toList == x2.name.toList) && (x1.super.toList == x2.super.toList) && (x1.abs == x2.abs) && eqL pdE x1.props x2.props && eqL kdE x1.kids x2.kids && eqL rdE x1.refs x2.refs)) := Lib.hid rfl
  obtain ⟨res, hres⟩ : ∃ b, conEM ⟨x1, ⟨⟨Ap1, np1, cp1⟩, ⟨Ak1, nk1, ck1⟩, ⟨Ar1, nr1, cr1⟩⟩⟩ ⟨x2, ⟨⟨Ap2, np2, cp2⟩, ⟨Ak2, nk2, ck2⟩, ⟨Ar2, nr2, cr2⟩⟩⟩ = b := ⟨_, rfl⟩
  rw [hres] at HN ⊢
  clear hres
  have Hnp1 := Lib.hid ipn1
  have HRp1 := Lib.hid ip1
  have zp1 := ip1.2.2.1
  have yp1 := ip1.2.1
  have Hnp2 := Lib.hid ipn2
  have HRp2 := Lib.hid ip2
  have zp2 := ip2.2.2.1
  have yp2 := ip2.2.1
  have Hnk1 := Lib.hid ikn1
  have HRk1 := Lib.hid ik1
  have zk1 := ik1.2.2.1
  have yk1 := ik1.2.1
  have Hnk2 := Lib.hid ikn2
  have HRk2 := Lib.hid ik2
  have zk2 := ik2.2.2.1
  have yk2 := ik2.2.1
  have Hnr1 := Lib.hid irn1
  have HRr1 := Lib.hid ir1
  have zr1 := ir1.2.2.1
  have yr1 := ir1.2.1
  have Hnr2 := Lib.hid irn2
  have HRr2 := Lib.hid ir2
  have zr2 := ir2.2.2.1
  have yr2 := ir2.2.1
  unfold maxLen at zp1 zp2 zk1 zk2 zr1 zr2
  clear ipn1 ipn2 ikn1 ikn2 irn1 irn2 ip1 ip2 ik1 ik2 ir1 ir2
  cases d0 : (x1.name.toList == x2.name.toList) with
  | false =>
    have m0 : (x1.name.toList != x2.name.toList) = true := by unfold bne; rw [d0]; rfl
    have HZ : Hid (res = false) := Lib.hid (by rw [HN.out, d0]; simp)
    clear HN
    go_enter Try.func12, Try.ntmps12
    go_wp2_with fail
    go_ret
    exact ret_b HZ.out rfl HW.out.bel
  | true =>
    have m0 : (x1.name.toList != x2.name.toList) = false := by unfold bne; rw [d0]; rfl
    cases d1 : (x1.super.toList == x2.super.toList) with
    | false =>
      have m1 : (x1.super.toList != x2.super.toList) = true := by unfold bne; rw [d1]; rfl
      have HZ : Hid (res = false) := Lib.hid (by rw [HN.out, d1]; simp)
      clear HN
      go_enter Try.func12, Try.ntmps12
      go_wp2_with fail
      go_ret
      exact ret_b HZ.out rfl HW.out.bel
    | true =>
      have m1 : (x1.super.toList != x2.super.toList) = false := by unfold bne; rw [d1]; rfl
      cases d2 : (x1.abs == x2.abs) with
      | false =>
        have m2 : (x1.abs != x2.abs) = true := by unfold bne; rw [d2]; rfl
        have HZ : Hid (res = false) := Lib.hid (by rw [HN.out, d2]; simp)
        clear HN
        go_enter Try.func12, Try.ntmps12
        go_wp2_with fail
        go_ret
        exact ret_b HZ.out rfl HW.out.bel
      | true =>
        have m2 : (x1.abs != x2.abs) = false := by unfold bne; rw [d2]; rfl
        replace HN : Hid (res = (eqL pdE x1.props x2.props && eqL kdE x1.kids x2.kids && eqL rdE x1.refs x2.refs)) := Lib.hid (by rw [HN.out, d0, d1, d2]; simp only [Bool.true_and])
        by_cases lp : np1 = np2
        · have fp : ((np1 : Int) != (np2 : Int)) = false := by rw [bne_eq_false_iff_eq]; omega
          subst lp
          by_cases lk : nk1 = nk2
          · have fk : ((nk1 : Int) != (nk2 : Int)) = false := by rw [bne_eq_false_iff_eq]; omega
            subst lk
            by_cases lr : nr1 = nr2
            · have fr : ((nr1 : Int) != (nr2 : Int)) = false := by rw [bne_eq_false_iff_eq]; omega
              subst lr
              go_enter Try.func12, Try.ntmps12
              go_wp2_with fail
              go_loopw [5] (fun i wr => ∃ k : Nat, k ≤ np1 ∧ i = .int .i64 k ∧ B2 w 38 #[.string x1.name, .string x1.super, .bool x1.abs, .slice Ap1 np1 cp1, .slice Ak1 nk1 ck1, .slice Ar1 nr1 cr1] #[.string x2.name, .string x2.super, .bool x2.abs, .slice Ap2 np1 cp2, .slice Ak2 nk1 ck2, .slice Ar2 nr1 cr2] wr ∧ Hid (eqL pdE x1.props x2.props = eqL pdE (x1.props.drop k) (x2.props.drop k))) (fun i _ => np1 - (intOf i).toNat)
              case atStart => exact ⟨0, by omega, rfl, HW.out, Lib.hid rfl⟩
              case round =>
                clear HW
                obtain ⟨k, hk, rfl, BWh, HK⟩ := hrel
                have a3 : wr.cell? ⟨w.heap.size, 3, none⟩ = some (.slice Ap1 np1 cp1) := (BWh.a.cell 3).trans rfl
                have b3 : wr.cell? ⟨w.heap.size + 1, 3, none⟩ = some (.slice Ap2 np1 cp2) := (BWh.b.cell 3).trans rfl
                have a4 : wr.cell? ⟨w.heap.size, 4, none⟩ = some (.slice Ak1 nk1 ck1) := (BWh.a.cell 4).trans rfl
                have b4 : wr.cell? ⟨w.heap.size + 1, 4, none⟩ = some (.slice Ak2 nk1 ck2) := (BWh.b.cell 4).trans rfl
                have a5 : wr.cell? ⟨w.heap.size, 5, none⟩ = some (.slice Ar1 nr1 cr1) := (BWh.a.cell 5).trans rfl
                have b5 : wr.cell? ⟨w.heap.size + 1, 5, none⟩ = some (.slice Ar2 nr1 cr2) := (BWh.b.cell 5).trans rfl
                have hbel := BWh.bel
                have HW := Lib.hid BWh
                clear BWh
                by_cases hlt : k < np1
                · obtain ⟨g1, o1, rfl, _, _, hcells1⟩ := (Row.below HRp1.out (hbel.mono hh)).at_ (by omega)
                  obtain ⟨g2, o2, rfl, _, _, hcells2⟩ := (Row.below HRp2.out (hbel.mono hh)).at_ (by omega)
                  obtain ⟨u, hu⟩ : ∃ u, x1.props[k]? = some u := ⟨x1.props[k]'(by have := Hnp1.out; have := Hnp2.out; omega), List.getElem?_eq_getElem _⟩
                  obtain ⟨v, hv⟩ : ∃ v, x2.props[k]? = some v := ⟨x2.props[k]'(by have := Hnp1.out; have := Hnp2.out; omega), List.getElem?_eq_getElem _⟩
                  have q1_0 := hcells1 _ _ (pdCells_get hu).1
                  have q1_0 : wr.cell? ⟨g1, o1 + k * 2, none⟩ = some (.string u.name) := by first | exact q1_0 | (rw [Nat.add_assoc]; exact q1_0)
                  have q1_1 := hcells1 _ _ (pdCells_get hu).2
                  have q1_1 : wr.cell? ⟨g1, o1 + k * 2 + 1, none⟩ = some (.int .i64 u.typ) := by first | exact q1_1 | (rw [Nat.add_assoc]; exact q1_1)
                  have q2_0 := hcells2 _ _ (pdCells_get hv).1
                  have q2_0 : wr.cell? ⟨g2, o2 + k * 2, none⟩ = some (.string v.name) := by first | exact q2_0 | (rw [Nat.add_assoc]; exact q2_0)
                  have q2_1 := hcells2 _ _ (pdCells_get hv).2
                  have q2_1 : wr.cell? ⟨g2, o2 + k * 2 + 1, none⟩ = some (.int .i64 v.typ) := by first | exact q2_1 | (rw [Nat.add_assoc]; exact q2_1)
                  have HD : Hid (eqL pdE x1.props x2.props = (pdE u v && eqL pdE (x1.props.drop (k + 1)) (x2.props.drop (k + 1)))) := Lib.hid (by
                    obtain ⟨hl1, e1⟩ := List.getElem?_eq_some_iff.1 hu
                    obtain ⟨hl2, e2⟩ := List.getElem?_eq_some_iff.1 hv
                    rw [HK.out, List.drop_eq_getElem_cons hl1, List.drop_eq_getElem_cons hl2, e1, e2]; rfl)
                  clear HK hu hv hcells1 hcells2
                  cases e0 : (u.name.toList == v.name.toList) with
                  | false =>
                    have HZ : Hid (res = false) := Lib.hid (by rw [HN.out, HD.out]; simp only [pdE, e0]; simp)
                    clear HD
                    go_wp2_with fail
                    go_quiet (fail)
                    go_wp2_with fail
                    go_ret
                    exact ret_b HZ.out rfl (HW.out.drewN _).bel
                  | true =>
                    cases e1 : (u.typ == v.typ) with
                    | false =>
                      have HZ : Hid (res = false) := Lib.hid (by rw [HN.out, HD.out]; simp only [pdE, e0, e1]; simp)
                      clear HD
                      go_wp2_with fail
                      go_quiet (fail)
                      go_wp2_with fail
                      go_ret
                      exact ret_b HZ.out rfl (HW.out.drewN _).bel
                    | true =>
                      have HZ : Hid (eqL pdE x1.props x2.props = eqL pdE (x1.props.drop (k + 1)) (x2.props.drop (k + 1))) := Lib.hid (by rw [HD.out]; simp only [pdE, e0, e1]; rfl)
                      clear HD
                      go_wp2_with fail
                      go_quiet (fail)
                      go_wp2_with fail
                      go_roundw
                      case rel => exact ⟨k + 1, by omega, by go_num, HW.out.drewN _, HZ⟩
                      case measure => simp [intOf]; omega
                · have HZ : Hid (eqL pdE x1.props x2.props = true) := Lib.hid (by rw [HK.out, List.drop_eq_nil_of_le (by have := Hnp1.out; omega), List.drop_eq_nil_of_le (by have := Hnp2.out; omega)]; rfl)
                  replace HN : Hid (res = (eqL kdE x1.kids x2.kids && eqL rdE x1.refs x2.refs)) := Lib.hid (by rw [HN.out, HZ.out]; simp only [Bool.true_and])
                  clear HK HZ
                  go_wp2_with fail
                  go_loopw [6] (fun i wr => ∃ k : Nat, k ≤ nk1 ∧ i = .int .i64 k ∧ B2 w 38 #[.string x1.name, .string x1.super, .bool x1.abs, .slice Ap1 np1 cp1, .slice Ak1 nk1 ck1, .slice Ar1 nr1 cr1] #[.string x2.name, .string x2.super, .bool x2.abs, .slice Ap2 np1 cp2, .slice Ak2 nk1 ck2, .slice Ar2 nr1 cr2] wr ∧ Hid (eqL kdE x1.kids x2.kids = eqL kdE (x1.kids.drop k) (x2.kids.drop k))) (fun i _ => nk1 - (intOf i).toNat)
                  case atStart => exact ⟨0, by omega, rfl, HW.out, Lib.hid rfl⟩
                  case round =>
                    clear HW
                    obtain ⟨k, hk, rfl, BWh, HK⟩ := hrel
                    have a3 : wr.cell? ⟨w.heap.size, 3, none⟩ = some (.slice Ap1 np1 cp1) := (BWh.a.cell 3).trans rfl
                    have b3 : wr.cell? ⟨w.heap.size + 1, 3, none⟩ = some (.slice Ap2 np1 cp2) := (BWh.b.cell 3).trans rfl
                    have a4 : wr.cell? ⟨w.heap.size, 4, none⟩ = some (.slice Ak1 nk1 ck1) := (BWh.a.cell 4).trans rfl
                    have b4 : wr.cell? ⟨w.heap.size + 1, 4, none⟩ = some (.slice Ak2 nk1 ck2) := (BWh.b.cell 4).trans rfl
                    have a5 : wr.cell? ⟨w.heap.size, 5, none⟩ = some (.slice Ar1 nr1 cr1) := (BWh.a.cell 5).trans rfl
                    have b5 : wr.cell? ⟨w.heap.size + 1, 5, none⟩ = some (.slice Ar2 nr1 cr2) := (BWh.b.cell 5).trans rfl
                    have hbel := BWh.bel
                    have HW := Lib.hid BWh
                    clear BWh
                    by_cases hlt : k < nk1
                    · obtain ⟨g1, o1, rfl, _, _, hcells1⟩ := (Row.below HRk1.out (hbel.mono hh)).at_ (by omega)
                      obtain ⟨g2, o2, rfl, _, _, hcells2⟩ := (Row.below HRk2.out (hbel.mono hh)).at_ (by omega)
                      obtain ⟨u, hu⟩ : ∃ u, x1.kids[k]? = some u := ⟨x1.kids[k]'(by have := Hnk1.out; have := Hnk2.out; omega), List.getElem?_eq_getElem _⟩
                      obtain ⟨v, hv⟩ : ∃ v, x2.kids[k]? = some v := ⟨x2.kids[k]'(by have := Hnk1.out; have := Hnk2.out; omega), List.getElem?_eq_getElem _⟩
                      have q1_0 := hcells1 _ _ (kdCells_get hu).1
                      have q1_0 : wr.cell? ⟨g1, o1 + k * 4, none⟩ = some (.string u.role) := by first | exact q1_0 | (rw [Nat.add_assoc]; exact q1_0)
                      have q1_1 := hcells1 _ _ (kdCells_get hu).2.1
                      have q1_1 : wr.cell? ⟨g1, o1 + k * 4 + 1, none⟩ = some (.string u.con) := by first | exact q1_1 | (rw [Nat.add_assoc]; exact q1_1)
                      have q1_2 := hcells1 _ _ (kdCells_get hu).2.2.1
                      have q1_2 : wr.cell? ⟨g1, o1 + k * 4 + 2, none⟩ = some (.int .i64 u.min) := by first | exact q1_2 | (rw [Nat.add_assoc]; exact q1_2)
                      have q1_3 := hcells1 _ _ (kdCells_get hu).2.2.2
                      have q1_3 : wr.cell? ⟨g1, o1 + k * 4 + 3, none⟩ = some (.int .i64 u.max) := by first | exact q1_3 | (rw [Nat.add_assoc]; exact q1_3)
                      have q2_0 := hcells2 _ _ (kdCells_get hv).1
                      have q2_0 : wr.cell? ⟨g2, o2 + k * 4, none⟩ = some (.string v.role) := by first | exact q2_0 | (rw [Nat.add_assoc]; exact q2_0)
                      have q2_1 := hcells2 _ _ (kdCells_get hv).2.1
                      have q2_1 : wr.cell? ⟨g2, o2 + k * 4 + 1, none⟩ = some (.string v.con) := by first | exact q2_1 | (rw [Nat.add_assoc]; exact q2_1)
                      have q2_2 := hcells2 _ _ (kdCells_get hv).2.2.1
                      have q2_2 : wr.cell? ⟨g2, o2 + k * 4 + 2, none⟩ = some (.int .i64 v.min) := by first | exact q2_2 | (rw [Nat.add_assoc]; exact q2_2)
                      have q2_3 := hcells2 _ _ (kdCells_get hv).2.2.2
                      have q2_3 : wr.cell? ⟨g2, o2 + k * 4 + 3, none⟩ = some (.int .i64 v.max) := by first | exact q2_3 | (rw [Nat.add_assoc]; exact q2_3)
                      have HD : Hid (eqL kdE x1.kids x2.kids = (kdE u v && eqL kdE (x1.kids.drop (k + 1)) (x2.kids.drop (k + 1)))) := Lib.hid (by
                        obtain ⟨hl1, e1⟩ := List.getElem?_eq_some_iff.1 hu
                        obtain ⟨hl2, e2⟩ := List.getElem?_eq_some_iff.1 hv
                        rw [HK.out, List.drop_eq_getElem_cons hl1, List.drop_eq_getElem_cons hl2, e1, e2]; rfl)
                      clear HK hu hv hcells1 hcells2
                      cases e0 : (u.role.toList == v.role.toList) with
                      | false =>
                        have HZ : Hid (res = false) := Lib.hid (by rw [HN.out, HD.out]; simp only [kdE, e0]; simp)
                        clear HD
                        go_wp2_with fail
                        go_quiet (fail)
                        go_wp2_with fail
                        go_ret
                        exact ret_b HZ.out rfl (HW.out.drewN _).bel
                      | true =>
                        cases e1 : (u.con.toList == v.con.toList) with
                        | false =>
                          have HZ : Hid (res = false) := Lib.hid (by rw [HN.out, HD.out]; simp only [kdE, e0, e1]; simp)
                          clear HD
                          go_wp2_with fail
                          go_quiet (fail)
                          go_wp2_with fail
                          go_ret
                          exact ret_b HZ.out rfl (HW.out.drewN _).bel
                        | true =>
                          cases e2 : (u.min == v.min) with
                          | false =>
                            have HZ : Hid (res = false) := Lib.hid (by rw [HN.out, HD.out]; simp only [kdE, e0, e1, e2]; simp)
                            clear HD
                            go_wp2_with fail
                            go_quiet (fail)
                            go_wp2_with fail
                            go_ret
                            exact ret_b HZ.out rfl (HW.out.drewN _).bel
                          | true =>
                            cases e3 : (u.max == v.max) with
                            | false =>
                              have HZ : Hid (res = false) := Lib.hid (by rw [HN.out, HD.out]; simp only [kdE, e0, e1, e2, e3]; simp)
                              clear HD
                              go_wp2_with fail
                              go_quiet (fail)
                              go_wp2_with fail
                              go_ret
                              exact ret_b HZ.out rfl (HW.out.drewN _).bel
                            | true =>
                              have HZ : Hid (eqL kdE x1.kids x2.kids = eqL kdE (x1.kids.drop (k + 1)) (x2.kids.drop (k + 1))) := Lib.hid (by rw [HD.out]; simp only [kdE, e0, e1, e2, e3]; rfl)
                              clear HD
                              go_wp2_with fail
                              go_quiet (fail)
                              go_wp2_with fail
                              go_roundw
                              case rel => exact ⟨k + 1, by omega, by go_num, HW.out.drewN _, HZ⟩
                              case measure => simp [intOf]; omega
                    · have HZ : Hid (eqL kdE x1.kids x2.kids = true) := Lib.hid (by rw [HK.out, List.drop_eq_nil_of_le (by have := Hnk1.out; omega), List.drop_eq_nil_of_le (by have := Hnk2.out; omega)]; rfl)
                      replace HN : Hid (res = (eqL rdE x1.refs x2.refs)) := Lib.hid (by rw [HN.out, HZ.out]; simp only [Bool.true_and])
                      clear HK HZ
                      go_wp2_with fail
                      go_loopw [7] (fun i wr => ∃ k : Nat, k ≤ nr1 ∧ i = .int .i64 k ∧ B2 w 38 #[.string x1.name, .string x1.super, .bool x1.abs, .slice Ap1 np1 cp1, .slice Ak1 nk1 ck1, .slice Ar1 nr1 cr1] #[.string x2.name, .string x2.super, .bool x2.abs, .slice Ap2 np1 cp2, .slice Ak2 nk1 ck2, .slice Ar2 nr1 cr2] wr ∧ Hid (eqL rdE x1.refs x2.refs = eqL rdE (x1.refs.drop k) (x2.refs.drop k))) (fun i _ => nr1 - (intOf i).toNat)
                      case atStart => exact ⟨0, by omega, rfl, HW.out, Lib.hid rfl⟩
                      case round =>
                        clear HW
                        obtain ⟨k, hk, rfl, BWh, HK⟩ := hrel
                        have a3 : wr.cell? ⟨w.heap.size, 3, none⟩ = some (.slice Ap1 np1 cp1) := (BWh.a.cell 3).trans rfl
                        have b3 : wr.cell? ⟨w.heap.size + 1, 3, none⟩ = some (.slice Ap2 np1 cp2) := (BWh.b.cell 3).trans rfl
                        have a4 : wr.cell? ⟨w.heap.size, 4, none⟩ = some (.slice Ak1 nk1 ck1) := (BWh.a.cell 4).trans rfl
                        have b4 : wr.cell? ⟨w.heap.size + 1, 4, none⟩ = some (.slice Ak2 nk1 ck2) := (BWh.b.cell 4).trans rfl
                        have a5 : wr.cell? ⟨w.heap.size, 5, none⟩ = some (.slice Ar1 nr1 cr1) := (BWh.a.cell 5).trans rfl
                        have b5 : wr.cell? ⟨w.heap.size + 1, 5, none⟩ = some (.slice Ar2 nr1 cr2) := (BWh.b.cell 5).trans rfl
                        have hbel := BWh.bel
                        have HW := Lib.hid BWh
                        clear BWh
                        by_cases hlt : k < nr1
                        · obtain ⟨g1, o1, rfl, _, _, hcells1⟩ := (Row.below HRr1.out (hbel.mono hh)).at_ (by omega)
                          obtain ⟨g2, o2, rfl, _, _, hcells2⟩ := (Row.below HRr2.out (hbel.mono hh)).at_ (by omega)
                          obtain ⟨u, hu⟩ : ∃ u, x1.refs[k]? = some u := ⟨x1.refs[k]'(by have := Hnr1.out; have := Hnr2.out; omega), List.getElem?_eq_getElem _⟩
                          obtain ⟨v, hv⟩ : ∃ v, x2.refs[k]? = some v := ⟨x2.refs[k]'(by have := Hnr1.out; have := Hnr2.out; omega), List.getElem?_eq_getElem _⟩
                          have q1_0 := hcells1 _ _ (rdCells_get hu).1
                          have q1_0 : wr.cell? ⟨g1, o1 + k * 3, none⟩ = some (.string u.role) := by first | exact q1_0 | (rw [Nat.add_assoc]; exact q1_0)
                          have q1_1 := hcells1 _ _ (rdCells_get hu).2.1
                          have q1_1 : wr.cell? ⟨g1, o1 + k * 3 + 1, none⟩ = some (.string u.con) := by first | exact q1_1 | (rw [Nat.add_assoc]; exact q1_1)
                          have q1_2 := hcells1 _ _ (rdCells_get hu).2.2
                          have q1_2 : wr.cell? ⟨g1, o1 + k * 3 + 2, none⟩ = some (.bool u.need) := by first | exact q1_2 | (rw [Nat.add_assoc]; exact q1_2)
                          have q2_0 := hcells2 _ _ (rdCells_get hv).1
                          have q2_0 : wr.cell? ⟨g2, o2 + k * 3, none⟩ = some (.string v.role) := by first | exact q2_0 | (rw [Nat.add_assoc]; exact q2_0)
                          have q2_1 := hcells2 _ _ (rdCells_get hv).2.1
                          have q2_1 : wr.cell? ⟨g2, o2 + k * 3 + 1, none⟩ = some (.string v.con) := by first | exact q2_1 | (rw [Nat.add_assoc]; exact q2_1)
                          have q2_2 := hcells2 _ _ (rdCells_get hv).2.2
                          have q2_2 : wr.cell? ⟨g2, o2 + k * 3 + 2, none⟩ = some (.bool v.need) := by first | exact q2_2 | (rw [Nat.add_assoc]; exact q2_2)
                          have HD : Hid (eqL rdE x1.refs x2.refs = (rdE u v && eqL rdE (x1.refs.drop (k + 1)) (x2.refs.drop (k + 1)))) := Lib.hid (by
                            obtain ⟨hl1, e1⟩ := List.getElem?_eq_some_iff.1 hu
                            obtain ⟨hl2, e2⟩ := List.getElem?_eq_some_iff.1 hv
                            rw [HK.out, List.drop_eq_getElem_cons hl1, List.drop_eq_getElem_cons hl2, e1, e2]; rfl)
                          clear HK hu hv hcells1 hcells2
                          cases e0 : (u.role.toList == v.role.toList) with
                          | false =>
                            have HZ : Hid (res = false) := Lib.hid (by rw [HN.out, HD.out]; simp only [rdE, e0]; simp)
                            clear HD
                            go_wp2_with fail
                            go_quiet (fail)
                            go_wp2_with fail
                            go_ret
                            exact ret_b HZ.out rfl (HW.out.drewN _).bel
                          | true =>
                            cases e1 : (u.con.toList == v.con.toList) with
                            | false =>
                              have HZ : Hid (res = false) := Lib.hid (by rw [HN.out, HD.out]; simp only [rdE, e0, e1]; simp)
                              clear HD
                              go_wp2_with fail
                              go_quiet (fail)
                              go_wp2_with fail
                              go_ret
                              exact ret_b HZ.out rfl (HW.out.drewN _).bel
                            | true =>
                              cases e2 : (u.need == v.need) with
                              | false =>
                                have HZ : Hid (res = false) := Lib.hid (by rw [HN.out, HD.out]; simp only [rdE, e0, e1, e2]; simp)
                                clear HD
                                go_wp2_with fail
                                go_quiet (fail)
                                go_wp2_with fail
                                go_ret
                                exact ret_b HZ.out rfl (HW.out.drewN _).bel
                              | true =>
                                have HZ : Hid (eqL rdE x1.refs x2.refs = eqL rdE (x1.refs.drop (k + 1)) (x2.refs.drop (k + 1))) := Lib.hid (by rw [HD.out]; simp only [rdE, e0, e1, e2]; rfl)
                                clear HD
                                go_wp2_with fail
                                go_quiet (fail)
                                go_wp2_with fail
                                go_roundw
                                case rel => exact ⟨k + 1, by omega, by go_num, HW.out.drewN _, HZ⟩
                                case measure => simp [intOf]; omega
                        · have HZ : Hid (eqL rdE x1.refs x2.refs = true) := Lib.hid (by rw [HK.out, List.drop_eq_nil_of_le (by have := Hnr1.out; omega), List.drop_eq_nil_of_le (by have := Hnr2.out; omega)]; rfl)
                          clear HK
                          go_wp2_with fail
                          go_ret
                          exact ret_b (by rw [HN.out]; exact HZ.out) rfl HW.out.bel
            · have fr : ((nr1 : Int) != (nr2 : Int)) = true := by rw [bne_iff_ne]; omega
              have HZ : Hid (res = false) := Lib.hid (by rw [HN.out, eqL_len rdE (l := x1.refs) (m := x2.refs) (by have := Hnr1.out; have := Hnr2.out; omega)]; simp)
              clear HN lr
              go_enter Try.func12, Try.ntmps12
              go_wp2_with fail
              go_ret
              exact ret_b HZ.out rfl HW.out.bel
          · have fk : ((nk1 : Int) != (nk2 : Int)) = true := by rw [bne_iff_ne]; omega
            have HZ : Hid (res = false) := Lib.hid (by rw [HN.out, eqL_len kdE (l := x1.kids) (m := x2.kids) (by have := Hnk1.out; have := Hnk2.out; omega)]; simp)
            clear HN lk
            go_enter Try.func12, Try.ntmps12
            go_wp2_with fail
            go_ret
            exact ret_b HZ.out rfl HW.out.bel
        · have fp : ((np1 : Int) != (np2 : Int)) = true := by rw [bne_iff_ne]; omega
          have HZ : Hid (res = false) := Lib.hid (by rw [HN.out, eqL_len pdE (l := x1.props) (m := x2.props) (by have := Hnp1.out; have := Hnp2.out; omega)]; simp)
          clear HN lp
          go_enter Try.func12, Try.ntmps12
          go_wp2_with fail
          go_ret
          exact ret_b HZ.out rfl HW.out.bel
end Go.Proofs.Ytpkicajjmkkhnaa

/-
  WALKS: the program: concepts, editors and templates are the same.
  WALKS: the program: lists of concepts, equations, editors, templates are the same.
-/
import Derived.Test.YtilemieknfdjnaaGreatZ16
namespace Go.Proofs.YtilemieknfdjnaaGreat
open Go Go.RowKit Go.Sort
set_option linter.unusedVariables false
set_option maxRecDepth 100000 in
set_option maxHeartbeats 6400000 in
theorem same_con_any (w : World) (hi : Nat) (x y : ConD × Leaf) (hx : ConIn w 0 hi x) (hy : ConIn w 0 hi y) (hh : hi ≤ w.heap.size) :
    Calls Tryz.prog 31 #[.agg #[.string x.1.name, .string x.1.super, .bool x.1.abs, .slice x.2.p.A x.2.p.n x.2.p.c, .slice x.2.k.A x.2.k.n x.2.k.c, .slice x.2.r.A x.2.r.n x.2.r.c], .agg #[.string y.1.name, .string y.1.super, .bool y.1.abs, .slice y.2.p.A y.2.p.n y.2.p.c, .slice y.2.k.A y.2.k.n y.2.k.c, .slice y.2.r.A y.2.r.n y.2.r.c]] w (Ret w (.bool (conEM x y))) := by
  obtain ⟨x1, ⟨⟨Ap1, np1, cp1⟩, ⟨Ak1, nk1, ck1⟩, ⟨Ar1, nr1, cr1⟩⟩⟩ := x
  obtain ⟨x2, ⟨⟨Ap2, np2, cp2⟩, ⟨Ak2, nk2, ck2⟩, ⟨Ar2, nr2, cr2⟩⟩⟩ := y
  obtain ⟨ipn1, ikn1, irn1, ip1, ik1, ir1⟩ := hx
  obtain ⟨ipn2, ikn2, irn2, ip2, ik2, ir2⟩ := hy
  simp only at ipn1 ipn2 ikn1 ikn2 irn1 irn2 ip1 ip2 ik1 ik2 ir1 ir2 ⊢
  have HW0 := Lib.hid (B2.start w 47 #[.string x1.name, .string x1.super, .bool x1.abs, .slice Ap1 np1 cp1, .slice Ak1 nk1 ck1, .slice Ar1 nr1 cr1] #[.string x2.name, .string x2.super, .bool x2.abs, .slice Ap2 np2 cp2, .slice Ak2 nk2 ck2, .slice Ar2 nr2 cr2])
  have HN : Hid (conEM ⟨x1, ⟨⟨Ap1, np1, cp1⟩, ⟨Ak1, nk1, ck1⟩, ⟨Ar1, nr1, cr1⟩⟩⟩ ⟨x2, ⟨⟨Ap2, np2, cp2⟩, ⟨Ak2, nk2, ck2⟩, ⟨Ar2, nr2, cr2⟩⟩⟩ = ((x1.name.toList == x2.name.toList) && (x1.super.toList == x2.super.toList) && (x1.abs == x2.abs) && eqL pdE x1.props x2.props && eqL kdE x1.kids x2.kids && eqL rdE x1.refs x2.refs)) := Lib.hid rfl
  obtain ⟨res, hres⟩ : ∃ b, conEM ⟨x1, ⟨⟨Ap1, np1, cp1⟩, ⟨Ak1, nk1, ck1⟩, ⟨Ar1, nr1, cr1⟩⟩⟩ ⟨x2, ⟨⟨Ap2, np2, cp2⟩, ⟨Ak2, nk2, ck2⟩, ⟨Ar2, nr2, cr2⟩⟩⟩ = b := ⟨_, rfl⟩
  rw [hres] at HN ⊢
  have hE1 : ∀ w2, Below w.heap.size w w2 → Calls Tryz.prog 78 #[.slice Ap1 np1 cp1, .slice Ap2 np2 cp2] w2 (Ret w2 (.bool (eqL pdE x1.props x2.props))) := fun w2 hb2 => (eqPds_any w2 0 hi 0 hi _ _ _ _ _ _ _ _ (ip1.below (hb2.mono hh)) (ip2.below (hb2.mono hh))).mono fun _ _ => ret_of_drew
  obtain ⟨e1, he1⟩ : ∃ b, eqL pdE x1.props x2.props = b := ⟨_, rfl⟩
  rw [he1] at hE1 HN
  have HE1 := Lib.hid hE1
  clear hE1 he1
  have hE2 : ∀ w2, Below w.heap.size w w2 → Calls Tryz.prog 79 #[.slice Ak1 nk1 ck1, .slice Ak2 nk2 ck2] w2 (Ret w2 (.bool (eqL kdE x1.kids x2.kids))) := fun w2 hb2 => (eqKds_any w2 0 hi 0 hi _ _ _ _ _ _ _ _ (ik1.below (hb2.mono hh)) (ik2.below (hb2.mono hh))).mono fun _ _ => ret_of_drew
  obtain ⟨e2, he2⟩ : ∃ b, eqL kdE x1.kids x2.kids = b := ⟨_, rfl⟩
  rw [he2] at hE2 HN
  have HE2 := Lib.hid hE2
  clear hE2 he2
  have hE3 : ∀ w2, Below w.heap.size w w2 → Calls Tryz.prog 80 #[.slice Ar1 nr1 cr1, .slice Ar2 nr2 cr2] w2 (Ret w2 (.bool (eqL rdE x1.refs x2.refs))) := fun w2 hb2 => (eqRds_any w2 0 hi 0 hi _ _ _ _ _ _ _ _ (ir1.below (hb2.mono hh)) (ir2.below (hb2.mono hh))).mono fun _ _ => ret_of_drew
  obtain ⟨e3, he3⟩ : ∃ b, eqL rdE x1.refs x2.refs = b := ⟨_, rfl⟩
  rw [he3] at hE3 HN
  have HE3 := Lib.hid hE3
  clear hE3 he3
  clear ipn1 ipn2 ikn1 ikn2 irn1 irn2 ip1 ip2 ik1 ik2 ir1 ir2 hres
  cases d0 : (x1.name.toList == x2.name.toList) with
  | false =>
    have HZ : Hid (res = false) := Lib.hid (by rw [HN.out, d0]; simp)
    clear HN
    go_enter Tryz.func31, Tryz.ntmps31
    go_wp2_with fail
    go_ret
    exact ret_b (by exact HZ.out) rfl HW0.out.bel
  | true =>
    cases d1 : (x1.super.toList == x2.super.toList) with
    | false =>
      have HZ : Hid (res = false) := Lib.hid (by rw [HN.out, d1]; simp)
      clear HN
      go_enter Tryz.func31, Tryz.ntmps31
      go_wp2_with fail
      go_ret
      exact ret_b (by exact HZ.out) rfl HW0.out.bel
    | true =>
      cases d2 : (x1.abs == x2.abs) with
      | false =>
        have HZ : Hid (res = false) := Lib.hid (by rw [HN.out, d2]; simp)
        clear HN
        go_enter Tryz.func31, Tryz.ntmps31
        go_wp2_with fail
        go_ret
        exact ret_b (by exact HZ.out) rfl HW0.out.bel
      | true =>
        replace HN : Hid (res = (e1 && e2 && e3)) := Lib.hid (by rw [HN.out, d0, d1, d2]; simp only [Bool.true_and])
        cases e1 with
        | false =>
          go_enter Tryz.func31, Tryz.ntmps31
          go_wp2_with (first | (go_at_call 78; (with_reducible refine (HE1.out _ HW0.out.bel).mono ?_); rintro e w1 ⟨rfl, hb1⟩; obtain ⟨s1, t1⟩ := bcell hb1; have HB1 := Lib.hid (HW0.out.after hb1); have hz1 := HB1.out.size; have hz1' : w.heap.size < w1.heap.size := (by omega); clear hb1))
          go_ret
          exact ret_b (by rw [HN.out]; simp) rfl HB1.out.bel
        | true =>
          cases e2 with
          | false =>
            go_enter Tryz.func31, Tryz.ntmps31
            go_wp2_with (first | (go_at_call 79; (with_reducible refine (HE2.out _ HB1.out.bel).mono ?_); rintro e w2 ⟨rfl, hb2⟩; obtain ⟨s2, t2⟩ := bcell hb2; have HB2 := Lib.hid (HB1.out.after hb2); have hz2 := HB2.out.size; have hz2' : w.heap.size < w2.heap.size := (by omega); clear hb2) | (go_at_call 78; (with_reducible refine (HE1.out _ HW0.out.bel).mono ?_); rintro e w1 ⟨rfl, hb1⟩; obtain ⟨s1, t1⟩ := bcell hb1; have HB1 := Lib.hid (HW0.out.after hb1); have hz1 := HB1.out.size; have hz1' : w.heap.size < w1.heap.size := (by omega); clear hb1))
            go_ret
            exact ret_b (by rw [HN.out]; simp) rfl HB2.out.bel
          | true =>
            cases e3 with
            | false =>
              go_enter Tryz.func31, Tryz.ntmps31
              go_wp2_with (first | (go_at_call 80; (with_reducible refine (HE3.out _ HB2.out.bel).mono ?_); rintro e w3 ⟨rfl, hb3⟩; obtain ⟨s3, t3⟩ := bcell hb3; have HB3 := Lib.hid (HB2.out.after hb3); have hz3 := HB3.out.size; have hz3' : w.heap.size < w3.heap.size := (by omega); clear hb3) | (go_at_call 79; (with_reducible refine (HE2.out _ HB1.out.bel).mono ?_); rintro e w2 ⟨rfl, hb2⟩; obtain ⟨s2, t2⟩ := bcell hb2; have HB2 := Lib.hid (HB1.out.after hb2); have hz2 := HB2.out.size; have hz2' : w.heap.size < w2.heap.size := (by omega); clear hb2) | (go_at_call 78; (with_reducible refine (HE1.out _ HW0.out.bel).mono ?_); rintro e w1 ⟨rfl, hb1⟩; obtain ⟨s1, t1⟩ := bcell hb1; have HB1 := Lib.hid (HW0.out.after hb1); have hz1 := HB1.out.size; have hz1' : w.heap.size < w1.heap.size := (by omega); clear hb1))
              go_ret
              exact ret_b (by rw [HN.out]; rfl) rfl HB3.out.bel
            | true =>
              go_enter Tryz.func31, Tryz.ntmps31
              go_wp2_with (first | (go_at_call 80; (with_reducible refine (HE3.out _ HB2.out.bel).mono ?_); rintro e w3 ⟨rfl, hb3⟩; obtain ⟨s3, t3⟩ := bcell hb3; have HB3 := Lib.hid (HB2.out.after hb3); have hz3 := HB3.out.size; have hz3' : w.heap.size < w3.heap.size := (by omega); clear hb3) | (go_at_call 79; (with_reducible refine (HE2.out _ HB1.out.bel).mono ?_); rintro e w2 ⟨rfl, hb2⟩; obtain ⟨s2, t2⟩ := bcell hb2; have HB2 := Lib.hid (HB1.out.after hb2); have hz2 := HB2.out.size; have hz2' : w.heap.size < w2.heap.size := (by omega); clear hb2) | (go_at_call 78; (with_reducible refine (HE1.out _ HW0.out.bel).mono ?_); rintro e w1 ⟨rfl, hb1⟩; obtain ⟨s1, t1⟩ := bcell hb1; have HB1 := Lib.hid (HW0.out.after hb1); have hz1 := HB1.out.size; have hz1' : w.heap.size < w1.heap.size := (by omega); clear hb1))
              go_ret
              exact ret_b (by rw [HN.out]; rfl) rfl HB3.out.bel
set_option maxRecDepth 100000 in
set_option maxHeartbeats 6400000 in
theorem same_ed_any (w : World) (hi : Nat) (x y : RowD × Sl) (hx : RowIn w 0 hi x) (hy : RowIn w 0 hi y) (hh : hi ≤ w.heap.size) :
    Calls Tryz.prog 36 #[.agg #[.string x.1.con, .slice x.2.A x.2.n x.2.c], .agg #[.string y.1.con, .slice y.2.A y.2.n y.2.c]] w (Ret w (.bool (rowEM x y))) := by
  obtain ⟨x1, ⟨Aq1, nq1, cq1⟩⟩ := x
  obtain ⟨x2, ⟨Aq2, nq2, cq2⟩⟩ := y
  obtain ⟨iqn1, iq1⟩ := hx
  obtain ⟨iqn2, iq2⟩ := hy
  simp only at iqn1 iqn2 iq1 iq2 ⊢
  have HW0 := Lib.hid (B2.start w 55 #[.string x1.con, .slice Aq1 nq1 cq1] #[.string x2.con, .slice Aq2 nq2 cq2])
  have HN : Hid (rowEM ⟨x1, ⟨Aq1, nq1, cq1⟩⟩ ⟨x2, ⟨Aq2, nq2, cq2⟩⟩ = ((x1.con.toList == x2.con.toList) && eqL ceE x1.cells x2.cells)) := Lib.hid rfl
  obtain ⟨res, hres⟩ : ∃ b, rowEM ⟨x1, ⟨Aq1, nq1, cq1⟩⟩ ⟨x2, ⟨Aq2, nq2, cq2⟩⟩ = b := ⟨_, rfl⟩
  rw [hres] at HN ⊢
  have hE1 : ∀ w2, Below w.heap.size w w2 → Calls Tryz.prog 83 #[.slice Aq1 nq1 cq1, .slice Aq2 nq2 cq2] w2 (Ret w2 (.bool (eqL ceE x1.cells x2.cells))) := fun w2 hb2 => (eqCells_any w2 0 hi 0 hi _ _ _ _ _ _ _ _ (iq1.below (hb2.mono hh)) (iq2.below (hb2.mono hh))).mono fun _ _ => ret_of_drew
  obtain ⟨e1, he1⟩ : ∃ b, eqL ceE x1.cells x2.cells = b := ⟨_, rfl⟩
  rw [he1] at hE1 HN
  have HE1 := Lib.hid hE1
  clear hE1 he1
  clear iqn1 iqn2 iq1 iq2 hres
  cases d0 : (x1.con.toList == x2.con.toList) with
  | false =>
    have HZ : Hid (res = false) := Lib.hid (by rw [HN.out, d0]; simp)
    clear HN
    go_enter Tryz.func36, Tryz.ntmps36
    go_wp2_with fail
    go_ret
    exact ret_b (by exact HZ.out) rfl HW0.out.bel
  | true =>
    replace HN : Hid (res = (e1)) := Lib.hid (by rw [HN.out, d0]; simp only [Bool.true_and])
    cases e1 with
    | false =>
      go_enter Tryz.func36, Tryz.ntmps36
      go_wp2_with (first | (go_at_call 83; (with_reducible refine (HE1.out _ HW0.out.bel).mono ?_); rintro e w1 ⟨rfl, hb1⟩; obtain ⟨s1, t1⟩ := bcell hb1; have HB1 := Lib.hid (HW0.out.after hb1); have hz1 := HB1.out.size; have hz1' : w.heap.size < w1.heap.size := (by omega); clear hb1))
      go_ret
      exact ret_b (by exact HN.out) rfl HB1.out.bel
    | true =>
      go_enter Tryz.func36, Tryz.ntmps36
      go_wp2_with (first | (go_at_call 83; (with_reducible refine (HE1.out _ HW0.out.bel).mono ?_); rintro e w1 ⟨rfl, hb1⟩; obtain ⟨s1, t1⟩ := bcell hb1; have HB1 := Lib.hid (HW0.out.after hb1); have hz1 := HB1.out.size; have hz1' : w.heap.size < w1.heap.size := (by omega); clear hb1))
      go_ret
      exact ret_b (by exact HN.out) rfl HB1.out.bel
set_option maxRecDepth 100000 in
set_option maxHeartbeats 6400000 in
theorem same_te_any (w : World) (hi : Nat) (x y : RowD × Sl) (hx : RowIn w 0 hi x) (hy : RowIn w 0 hi y) (hh : hi ≤ w.heap.size) :
    Calls Tryz.prog 38 #[.agg #[.string x.1.con, .slice x.2.A x.2.n x.2.c], .agg #[.string y.1.con, .slice y.2.A y.2.n y.2.c]] w (Ret w (.bool (rowEM x y))) := by
  obtain ⟨x1, ⟨Aq1, nq1, cq1⟩⟩ := x
  obtain ⟨x2, ⟨Aq2, nq2, cq2⟩⟩ := y
  obtain ⟨iqn1, iq1⟩ := hx
  obtain ⟨iqn2, iq2⟩ := hy
  simp only at iqn1 iqn2 iq1 iq2 ⊢
  have HW0 := Lib.hid (B2.start w 58 #[.string x1.con, .slice Aq1 nq1 cq1] #[.string x2.con, .slice Aq2 nq2 cq2])
  have HN : Hid (rowEM ⟨x1, ⟨Aq1, nq1, cq1⟩⟩ ⟨x2, ⟨Aq2, nq2, cq2⟩⟩ = ((x1.con.toList == x2.con.toList) && eqL ceE x1.cells x2.cells)) := Lib.hid rfl
  obtain ⟨res, hres⟩ : ∃ b, rowEM ⟨x1, ⟨Aq1, nq1, cq1⟩⟩ ⟨x2, ⟨Aq2, nq2, cq2⟩⟩ = b := ⟨_, rfl⟩
  rw [hres] at HN ⊢
  have hE1 : ∀ w2, Below w.heap.size w w2 → Calls Tryz.prog 84 #[.slice Aq1 nq1 cq1, .slice Aq2 nq2 cq2] w2 (Ret w2 (.bool (eqL ceE x1.cells x2.cells))) := fun w2 hb2 => (eqPieces_any w2 0 hi 0 hi _ _ _ _ _ _ _ _ (iq1.below (hb2.mono hh)) (iq2.below (hb2.mono hh))).mono fun _ _ => ret_of_drew
  obtain ⟨e1, he1⟩ : ∃ b, eqL ceE x1.cells x2.cells = b := ⟨_, rfl⟩
  rw [he1] at hE1 HN
  have HE1 := Lib.hid hE1
  clear hE1 he1
  clear iqn1 iqn2 iq1 iq2 hres
  cases d0 : (x1.con.toList == x2.con.toList) with
  | false =>
    have HZ : Hid (res = false) := Lib.hid (by rw [HN.out, d0]; simp)
    clear HN
    go_enter Tryz.func38, Tryz.ntmps38
    go_wp2_with fail
    go_ret
    exact ret_b (by exact HZ.out) rfl HW0.out.bel
  | true =>
    replace HN : Hid (res = (e1)) := Lib.hid (by rw [HN.out, d0]; simp only [Bool.true_and])
    cases e1 with
    | false =>
      go_enter Tryz.func38, Tryz.ntmps38
      go_wp2_with (first | (go_at_call 84; (with_reducible refine (HE1.out _ HW0.out.bel).mono ?_); rintro e w1 ⟨rfl, hb1⟩; obtain ⟨s1, t1⟩ := bcell hb1; have HB1 := Lib.hid (HW0.out.after hb1); have hz1 := HB1.out.size; have hz1' : w.heap.size < w1.heap.size := (by omega); clear hb1))
      go_ret
      exact ret_b (by exact HN.out) rfl HB1.out.bel
    | true =>
      go_enter Tryz.func38, Tryz.ntmps38
      go_wp2_with (first | (go_at_call 84; (with_reducible refine (HE1.out _ HW0.out.bel).mono ?_); rintro e w1 ⟨rfl, hb1⟩; obtain ⟨s1, t1⟩ := bcell hb1; have HB1 := Lib.hid (HW0.out.after hb1); have hz1 := HB1.out.size; have hz1' : w.heap.size < w1.heap.size := (by omega); clear hb1))
      go_ret
      exact ret_b (by exact HN.out) rfl HB1.out.bel
end Go.Proofs.YtilemieknfdjnaaGreat
namespace Go.Proofs.YtilemieknfdjnaaGreat
open Go Go.RowKit Go.Sort
set_option linter.unusedVariables false
set_option maxRecDepth 100000 in
set_option maxHeartbeats 3200000 in
theorem eqf_con_any (w : World) (hi : Nat) (S S' : Sl) (l m : List (ConD × Leaf)) (h : GRow conC ConIn 6 w 0 hi S l) (h' : GRow conC ConIn 6 w 0 hi S' m) (hh : hi ≤ w.heap.size) :
    Calls Tryz.prog 30 #[.slice S.A S.n S.c, .slice S'.A S'.n S'.c, .func (.func 31) #[] #[]] w (Ret w (.bool (eqL conEM l m))) := by
  obtain ⟨A, n, c⟩ := S
  obtain ⟨A', n', c'⟩ := S'
  have hc := h.row.2.2.1
  have hnc := h.row.2.1
  have HL1 := Lib.hid h.n
  have hc' := h'.row.2.2.1
  have hnc' := h'.row.2.1
  have HL2 := Lib.hid h'.n
  simp only at hc hnc hc' hnc' HL1 HL2 ⊢
  unfold maxLen at hc hc'
  have HH1 := Lib.hid h
  have HH2 := Lib.hid h'
  clear h h'
  by_cases e2 : n = n'
  · have d2 : ((n : Int) != (n' : Int)) = false := by rw [bne_eq_false_iff_eq]; omega
    subst e2
    go_enter Tryz.func30, Tryz.ntmps30
    go_wp2_with fail
    go_loopw [17] (fun i wr => ∃ k : Nat, k ≤ n ∧ i = .int .i64 k ∧ Below w.heap.size w wr ∧ Hid (eqL conEM l m = eqL conEM (l.drop k) (m.drop k))) (fun i _ => n - (intOf i).toNat)
    case atStart => exact ⟨0, by omega, rfl, Below.refl _ _, Lib.hid rfl⟩
    case round =>
      obtain ⟨k, hk, rfl, hbel, HK⟩ := hrel
      have HB := Lib.hid hbel
      have hwz := hbel.size
      by_cases hlt : k < n
      · obtain ⟨b1, o1, hA1, _, hb1, V1⟩ := HH1.out.at_ (fun _ => rfl) (show 0 < n by omega)
        obtain ⟨b2, o2, hA2, _, hb2', V2⟩ := HH2.out.at_ (fun _ => rfl) (show 0 < n by omega)
        simp only at hA1 hA2
        subst hA1 hA2
        obtain ⟨x, hx⟩ : ∃ x, l[k]? = some x := ⟨l[k]'(by have := HL1.out; omega), List.getElem?_eq_getElem _⟩
        obtain ⟨y, hy⟩ : ∃ y, m[k]? = some y := ⟨m[k]'(by have := HL2.out; omega), List.getElem?_eq_getElem _⟩
        obtain ⟨hlf1, hat1⟩ := V1 k x hx
        obtain ⟨hlf2, hat2⟩ := V2 k y hy
        have a1_0 : wr.cell? ⟨b1, o1 + k * 6, none⟩ = some (.string x.1.name) := (hbel.cell (p := ⟨_, _, none⟩) (show b1 < w.heap.size by omega)).trans (hat1 0 _ (by omega) rfl)
        have a1_1 : wr.cell? ⟨b1, o1 + k * 6 + 1, none⟩ = some (.string x.1.super) := (hbel.cell (p := ⟨_, _, none⟩) (show b1 < w.heap.size by omega)).trans (hat1 1 _ (by omega) rfl)
        have a1_2 : wr.cell? ⟨b1, o1 + k * 6 + 2, none⟩ = some (.bool x.1.abs) := (hbel.cell (p := ⟨_, _, none⟩) (show b1 < w.heap.size by omega)).trans (hat1 2 _ (by omega) rfl)
        have a1_3 : wr.cell? ⟨b1, o1 + k * 6 + 3, none⟩ = some (.slice x.2.p.A x.2.p.n x.2.p.c) := (hbel.cell (p := ⟨_, _, none⟩) (show b1 < w.heap.size by omega)).trans (hat1 3 _ (by omega) rfl)
        have a1_4 : wr.cell? ⟨b1, o1 + k * 6 + 4, none⟩ = some (.slice x.2.k.A x.2.k.n x.2.k.c) := (hbel.cell (p := ⟨_, _, none⟩) (show b1 < w.heap.size by omega)).trans (hat1 4 _ (by omega) rfl)
        have a1_5 : wr.cell? ⟨b1, o1 + k * 6 + 5, none⟩ = some (.slice x.2.r.A x.2.r.n x.2.r.c) := (hbel.cell (p := ⟨_, _, none⟩) (show b1 < w.heap.size by omega)).trans (hat1 5 _ (by omega) rfl)
        have a2_0 : wr.cell? ⟨b2, o2 + k * 6, none⟩ = some (.string y.1.name) := (hbel.cell (p := ⟨_, _, none⟩) (show b2 < w.heap.size by omega)).trans (hat2 0 _ (by omega) rfl)
        have a2_1 : wr.cell? ⟨b2, o2 + k * 6 + 1, none⟩ = some (.string y.1.super) := (hbel.cell (p := ⟨_, _, none⟩) (show b2 < w.heap.size by omega)).trans (hat2 1 _ (by omega) rfl)
        have a2_2 : wr.cell? ⟨b2, o2 + k * 6 + 2, none⟩ = some (.bool y.1.abs) := (hbel.cell (p := ⟨_, _, none⟩) (show b2 < w.heap.size by omega)).trans (hat2 2 _ (by omega) rfl)
        have a2_3 : wr.cell? ⟨b2, o2 + k * 6 + 3, none⟩ = some (.slice y.2.p.A y.2.p.n y.2.p.c) := (hbel.cell (p := ⟨_, _, none⟩) (show b2 < w.heap.size by omega)).trans (hat2 3 _ (by omega) rfl)
        have a2_4 : wr.cell? ⟨b2, o2 + k * 6 + 4, none⟩ = some (.slice y.2.k.A y.2.k.n y.2.k.c) := (hbel.cell (p := ⟨_, _, none⟩) (show b2 < w.heap.size by omega)).trans (hat2 4 _ (by omega) rfl)
        have a2_5 : wr.cell? ⟨b2, o2 + k * 6 + 5, none⟩ = some (.slice y.2.r.A y.2.r.n y.2.r.c) := (hbel.cell (p := ⟨_, _, none⟩) (show b2 < w.heap.size by omega)).trans (hat2 5 _ (by omega) rfl)
        have HD : Hid (eqL conEM l m = (conEM x y && eqL conEM (l.drop (k + 1)) (m.drop (k + 1)))) := Lib.hid (by
          obtain ⟨hl1, e1⟩ := List.getElem?_eq_some_iff.1 hx
          obtain ⟨hl2, e2⟩ := List.getElem?_eq_some_iff.1 hy
          rw [HK.out, List.drop_eq_getElem_cons hl1, List.drop_eq_getElem_cons hl2, e1, e2]; rfl)
        have hS : ∀ w2, Below wr.heap.size wr w2 → Calls Tryz.prog 31 #[.agg #[.string x.1.name, .string x.1.super, .bool x.1.abs, .slice x.2.p.A x.2.p.n x.2.p.c, .slice x.2.k.A x.2.k.n x.2.k.c, .slice x.2.r.A x.2.r.n x.2.r.c], .agg #[.string y.1.name, .string y.1.super, .bool y.1.abs, .slice y.2.p.A y.2.p.n y.2.p.c, .slice y.2.k.A y.2.k.n y.2.k.c, .slice y.2.r.A y.2.r.n y.2.r.c]] w2 (Ret w2 (.bool (conEM x y))) := fun w2 hb2 =>
          same_con_any _ hi x y (conK.below (conK.below hlf1 (hbel.mono hh)) (hb2.mono (by omega))) (conK.below (conK.below hlf2 (hbel.mono hh)) (hb2.mono (by omega))) (by have := hb2.size; omega)
        obtain ⟨r, hr⟩ : ∃ b, conEM x y = b := ⟨_, rfl⟩
        rw [hr] at HD hS
        clear hr hx hy V1 V2 hlf1 hlf2 hat1 hat2 HK
        obtain ⟨x1, ⟨⟨Ap1, np1, cp1⟩, ⟨Ak1, nk1, ck1⟩, ⟨Ar1, nr1, cr1⟩⟩⟩ := x
        obtain ⟨x2, ⟨⟨Ap2, np2, cp2⟩, ⟨Ak2, nk2, ck2⟩, ⟨Ar2, nr2, cr2⟩⟩⟩ := y
        simp only at hS a1_0 a1_1 a1_2 a1_3 a1_4 a1_5 a2_0 a2_1 a2_2 a2_3 a2_4 a2_5
        have HS := Lib.hid hS
        have hbl1 : b1 < wr.heap.size := by omega
        have hbl2 : b2 < wr.heap.size := by omega
        clear hS hbel
        have hbb := ((below_box wr (.cells #[.string x1.name, .string x1.super, .bool x1.abs, .slice Ap1 np1 cp1, .slice Ak1 nk1 ck1, .slice Ar1 nr1 cr1] 47)).alloc (by simp) (.cells #[.string x2.name, .string x2.super, .bool x2.abs, .slice Ap2 np2 cp2, .slice Ak2 nk2 ck2, .slice Ar2 nr2 cr2] 47))
        have HBB := Lib.hid hbb
        clear hbb
        cases r with
        | false =>
          have HZ : Hid (eqL conEM l m = false) := Lib.hid (by rw [HD.out]; rfl)
          clear HD
          go_wp2_with (go_at_call 31; go_must (refine (HS.out _ HBB.out).mono ?_; rintro e w2 ⟨rfl, hb2⟩; have HB2 := Lib.hid (HBB.out.trans (hb2.mono (by simp; omega))); clear hb2))
          go_ret
          exact ret_b HZ.out rfl (HB.out.trans (HB2.out.mono hwz))
        | true =>
          have HZ : Hid (eqL conEM l m = eqL conEM (l.drop (k + 1)) (m.drop (k + 1))) := Lib.hid (by rw [HD.out]; rfl)
          clear HD
          go_wp2_with (go_at_call 31; go_must (refine (HS.out _ HBB.out).mono ?_; rintro e w2 ⟨rfl, hb2⟩; have HB2 := Lib.hid (HBB.out.trans (hb2.mono (by simp; omega))); clear hb2))
          go_roundw
          case rel => exact ⟨k + 1, by omega, by go_num, HB.out.trans (HB2.out.mono hwz), HZ⟩
          case measure => simp [intOf]; omega
      · have HZ : Hid (eqL conEM l m = true) := Lib.hid (by rw [HK.out, List.drop_eq_nil_of_le (by have := HL1.out; omega), List.drop_eq_nil_of_le (by have := HL2.out; omega)]; rfl)
        clear HK hbel
        go_wp2_with fail
        go_ret
        exact ret_b HZ.out rfl HB.out
  · have d2 : ((n : Int) != (n' : Int)) = true := by rw [bne_iff_ne]; omega
    have HZ : Hid (eqL conEM l m = false) := Lib.hid (eqL_len conEM (by have := HL1.out; have := HL2.out; omega))
    clear e2
    go_enter Tryz.func30, Tryz.ntmps30
    go_wp2_with fail
    go_ret
    exact ret_b HZ.out rfl (Below.refl _ _)
set_option maxRecDepth 100000 in
set_option maxHeartbeats 3200000 in
theorem eqf_eq_any (w : World) (hi : Nat) (S S' : Sl) (l m : List (EqM)) (h : GRow eqC EqIn 3 w 0 hi S l) (h' : GRow eqC EqIn 3 w 0 hi S' m) (hh : hi ≤ w.heap.size) :
    Calls Tryz.prog 33 #[.slice S.A S.n S.c, .slice S'.A S'.n S'.c, .func (.func 34) #[] #[]] w (Ret w (.bool (eqL eqEM l m))) := by
  obtain ⟨A, n, c⟩ := S
  obtain ⟨A', n', c'⟩ := S'
  have hc := h.row.2.2.1
  have hnc := h.row.2.1
  have HL1 := Lib.hid h.n
  have hc' := h'.row.2.2.1
  have hnc' := h'.row.2.1
  have HL2 := Lib.hid h'.n
  simp only at hc hnc hc' hnc' HL1 HL2 ⊢
  unfold maxLen at hc hc'
  have HH1 := Lib.hid h
  have HH2 := Lib.hid h'
  clear h h'
  by_cases e2 : n = n'
  · have d2 : ((n : Int) != (n' : Int)) = false := by rw [bne_eq_false_iff_eq]; omega
    subst e2
    go_enter Tryz.func33, Tryz.ntmps33
    go_wp2_with fail
    go_loopw [17] (fun i wr => ∃ k : Nat, k ≤ n ∧ i = .int .i64 k ∧ Below w.heap.size w wr ∧ Hid (eqL eqEM l m = eqL eqEM (l.drop k) (m.drop k))) (fun i _ => n - (intOf i).toNat)
    case atStart => exact ⟨0, by omega, rfl, Below.refl _ _, Lib.hid rfl⟩
    case round =>
      obtain ⟨k, hk, rfl, hbel, HK⟩ := hrel
      have HB := Lib.hid hbel
      have hwz := hbel.size
      by_cases hlt : k < n
      · obtain ⟨b1, o1, hA1, _, hb1, V1⟩ := HH1.out.at_ (fun _ => rfl) (show 0 < n by omega)
        obtain ⟨b2, o2, hA2, _, hb2', V2⟩ := HH2.out.at_ (fun _ => rfl) (show 0 < n by omega)
        simp only at hA1 hA2
        subst hA1 hA2
        obtain ⟨x, hx⟩ : ∃ x, l[k]? = some x := ⟨l[k]'(by have := HL1.out; omega), List.getElem?_eq_getElem _⟩
        obtain ⟨y, hy⟩ : ∃ y, m[k]? = some y := ⟨m[k]'(by have := HL2.out; omega), List.getElem?_eq_getElem _⟩
        obtain ⟨hlf1, hat1⟩ := V1 k x hx
        obtain ⟨hlf2, hat2⟩ := V2 k y hy
        have a1_0 : wr.cell? ⟨b1, o1 + k * 3, none⟩ = some (.string x.con) := (hbel.cell (p := ⟨_, _, none⟩) (show b1 < w.heap.size by omega)).trans (hat1 0 _ (by omega) rfl)
        have a1_1 : wr.cell? ⟨b1, o1 + k * 3 + 1, none⟩ = some (.slice x.L.A x.L.n x.L.c) := (hbel.cell (p := ⟨_, _, none⟩) (show b1 < w.heap.size by omega)).trans (hat1 1 _ (by omega) rfl)
        have a1_2 : wr.cell? ⟨b1, o1 + k * 3 + 2, none⟩ = some (.slice x.R.A x.R.n x.R.c) := (hbel.cell (p := ⟨_, _, none⟩) (show b1 < w.heap.size by omega)).trans (hat1 2 _ (by omega) rfl)
        have a2_0 : wr.cell? ⟨b2, o2 + k * 3, none⟩ = some (.string y.con) := (hbel.cell (p := ⟨_, _, none⟩) (show b2 < w.heap.size by omega)).trans (hat2 0 _ (by omega) rfl)
        have a2_1 : wr.cell? ⟨b2, o2 + k * 3 + 1, none⟩ = some (.slice y.L.A y.L.n y.L.c) := (hbel.cell (p := ⟨_, _, none⟩) (show b2 < w.heap.size by omega)).trans (hat2 1 _ (by omega) rfl)
        have a2_2 : wr.cell? ⟨b2, o2 + k * 3 + 2, none⟩ = some (.slice y.R.A y.R.n y.R.c) := (hbel.cell (p := ⟨_, _, none⟩) (show b2 < w.heap.size by omega)).trans (hat2 2 _ (by omega) rfl)
        have HD : Hid (eqL eqEM l m = (eqEM x y && eqL eqEM (l.drop (k + 1)) (m.drop (k + 1)))) := Lib.hid (by
          obtain ⟨hl1, e1⟩ := List.getElem?_eq_some_iff.1 hx
          obtain ⟨hl2, e2⟩ := List.getElem?_eq_some_iff.1 hy
          rw [HK.out, List.drop_eq_getElem_cons hl1, List.drop_eq_getElem_cons hl2, e1, e2]; rfl)
        have hS : ∀ w2, Below wr.heap.size wr w2 → Calls Tryz.prog 34 #[.agg #[.string x.con, .slice x.L.A x.L.n x.L.c, .slice x.R.A x.R.n x.R.c], .agg #[.string y.con, .slice y.L.A y.L.n y.L.c, .slice y.R.A y.R.n y.R.c]] w2 (Ret w2 (.bool (eqEM x y))) := fun w2 hb2 =>
          same_eq_any _ hi x y (eqK.below (eqK.below hlf1 (hbel.mono hh)) (hb2.mono (by omega))) (eqK.below (eqK.below hlf2 (hbel.mono hh)) (hb2.mono (by omega))) (by have := hb2.size; omega)
        obtain ⟨r, hr⟩ : ∃ b, eqEM x y = b := ⟨_, rfl⟩
        rw [hr] at HD hS
        clear hr hx hy V1 V2 hlf1 hlf2 hat1 hat2 HK
        obtain ⟨con1, ⟨Al1, nl1, cl1⟩, ls1, ⟨Ar1, nr1, cr1⟩, rs1⟩ := x
        obtain ⟨con2, ⟨Al2, nl2, cl2⟩, ls2, ⟨Ar2, nr2, cr2⟩, rs2⟩ := y
        simp only at hS a1_0 a1_1 a1_2 a2_0 a2_1 a2_2
        have HS := Lib.hid hS
        have hbl1 : b1 < wr.heap.size := by omega
        have hbl2 : b2 < wr.heap.size := by omega
        clear hS hbel
        have hbb := ((below_box wr (.cells #[.string con1, .slice Al1 nl1 cl1, .slice Ar1 nr1 cr1] 52)).alloc (by simp) (.cells #[.string con2, .slice Al2 nl2 cl2, .slice Ar2 nr2 cr2] 52))
        have HBB := Lib.hid hbb
        clear hbb
        cases r with
        | false =>
          have HZ : Hid (eqL eqEM l m = false) := Lib.hid (by rw [HD.out]; rfl)
          clear HD
          go_wp2_with (go_at_call 34; go_must (refine (HS.out _ HBB.out).mono ?_; rintro e w2 ⟨rfl, hb2⟩; have HB2 := Lib.hid (HBB.out.trans (hb2.mono (by simp; omega))); clear hb2))
          go_ret
          exact ret_b HZ.out rfl (HB.out.trans (HB2.out.mono hwz))
        | true =>
          have HZ : Hid (eqL eqEM l m = eqL eqEM (l.drop (k + 1)) (m.drop (k + 1))) := Lib.hid (by rw [HD.out]; rfl)
          clear HD
          go_wp2_with (go_at_call 34; go_must (refine (HS.out _ HBB.out).mono ?_; rintro e w2 ⟨rfl, hb2⟩; have HB2 := Lib.hid (HBB.out.trans (hb2.mono (by simp; omega))); clear hb2))
          go_roundw
          case rel => exact ⟨k + 1, by omega, by go_num, HB.out.trans (HB2.out.mono hwz), HZ⟩
          case measure => simp [intOf]; omega
      · have HZ : Hid (eqL eqEM l m = true) := Lib.hid (by rw [HK.out, List.drop_eq_nil_of_le (by have := HL1.out; omega), List.drop_eq_nil_of_le (by have := HL2.out; omega)]; rfl)
        clear HK hbel
        go_wp2_with fail
        go_ret
        exact ret_b HZ.out rfl HB.out
  · have d2 : ((n : Int) != (n' : Int)) = true := by rw [bne_iff_ne]; omega
    have HZ : Hid (eqL eqEM l m = false) := Lib.hid (eqL_len eqEM (by have := HL1.out; have := HL2.out; omega))
    clear e2
    go_enter Tryz.func33, Tryz.ntmps33
    go_wp2_with fail
    go_ret
    exact ret_b HZ.out rfl (Below.refl _ _)
set_option maxRecDepth 100000 in
set_option maxHeartbeats 3200000 in
theorem eqf_ed_any (w : World) (hi : Nat) (S S' : Sl) (l m : List (RowD × Sl)) (h : GRow rowC RowIn 2 w 0 hi S l) (h' : GRow rowC RowIn 2 w 0 hi S' m) (hh : hi ≤ w.heap.size) :
    Calls Tryz.prog 35 #[.slice S.A S.n S.c, .slice S'.A S'.n S'.c, .func (.func 36) #[] #[]] w (Ret w (.bool (eqL rowEM l m))) := by
  obtain ⟨A, n, c⟩ := S
  obtain ⟨A', n', c'⟩ := S'
  have hc := h.row.2.2.1
  have hnc := h.row.2.1
  have HL1 := Lib.hid h.n
  have hc' := h'.row.2.2.1
  have hnc' := h'.row.2.1
  have HL2 := Lib.hid h'.n
  simp only at hc hnc hc' hnc' HL1 HL2 ⊢
  unfold maxLen at hc hc'
  have HH1 := Lib.hid h
  have HH2 := Lib.hid h'
  clear h h'
  by_cases e2 : n = n'
  · have d2 : ((n : Int) != (n' : Int)) = false := by rw [bne_eq_false_iff_eq]; omega
    subst e2
    go_enter Tryz.func35, Tryz.ntmps35
    go_wp2_with fail
    go_loopw [17] (fun i wr => ∃ k : Nat, k ≤ n ∧ i = .int .i64 k ∧ Below w.heap.size w wr ∧ Hid (eqL rowEM l m = eqL rowEM (l.drop k) (m.drop k))) (fun i _ => n - (intOf i).toNat)
    case atStart => exact ⟨0, by omega, rfl, Below.refl _ _, Lib.hid rfl⟩
    case round =>
      obtain ⟨k, hk, rfl, hbel, HK⟩ := hrel
      have HB := Lib.hid hbel
      have hwz := hbel.size
      by_cases hlt : k < n
      · obtain ⟨b1, o1, hA1, _, hb1, V1⟩ := HH1.out.at_ (fun _ => rfl) (show 0 < n by omega)
        obtain ⟨b2, o2, hA2, _, hb2', V2⟩ := HH2.out.at_ (fun _ => rfl) (show 0 < n by omega)
        simp only at hA1 hA2
        subst hA1 hA2
        obtain ⟨x, hx⟩ : ∃ x, l[k]? = some x := ⟨l[k]'(by have := HL1.out; omega), List.getElem?_eq_getElem _⟩
        obtain ⟨y, hy⟩ : ∃ y, m[k]? = some y := ⟨m[k]'(by have := HL2.out; omega), List.getElem?_eq_getElem _⟩
        obtain ⟨hlf1, hat1⟩ := V1 k x hx
        obtain ⟨hlf2, hat2⟩ := V2 k y hy
        have a1_0 : wr.cell? ⟨b1, o1 + k * 2, none⟩ = some (.string x.1.con) := (hbel.cell (p := ⟨_, _, none⟩) (show b1 < w.heap.size by omega)).trans (hat1 0 _ (by omega) rfl)
        have a1_1 : wr.cell? ⟨b1, o1 + k * 2 + 1, none⟩ = some (.slice x.2.A x.2.n x.2.c) := (hbel.cell (p := ⟨_, _, none⟩) (show b1 < w.heap.size by omega)).trans (hat1 1 _ (by omega) rfl)
        have a2_0 : wr.cell? ⟨b2, o2 + k * 2, none⟩ = some (.string y.1.con) := (hbel.cell (p := ⟨_, _, none⟩) (show b2 < w.heap.size by omega)).trans (hat2 0 _ (by omega) rfl)
        have a2_1 : wr.cell? ⟨b2, o2 + k * 2 + 1, none⟩ = some (.slice y.2.A y.2.n y.2.c) := (hbel.cell (p := ⟨_, _, none⟩) (show b2 < w.heap.size by omega)).trans (hat2 1 _ (by omega) rfl)
        have HD : Hid (eqL rowEM l m = (rowEM x y && eqL rowEM (l.drop (k + 1)) (m.drop (k + 1)))) := Lib.hid (by
          obtain ⟨hl1, e1⟩ := List.getElem?_eq_some_iff.1 hx
          obtain ⟨hl2, e2⟩ := List.getElem?_eq_some_iff.1 hy
          rw [HK.out, List.drop_eq_getElem_cons hl1, List.drop_eq_getElem_cons hl2, e1, e2]; rfl)
        have hS : ∀ w2, Below wr.heap.size wr w2 → Calls Tryz.prog 36 #[.agg #[.string x.1.con, .slice x.2.A x.2.n x.2.c], .agg #[.string y.1.con, .slice y.2.A y.2.n y.2.c]] w2 (Ret w2 (.bool (rowEM x y))) := fun w2 hb2 =>
          same_ed_any _ hi x y (rowK.below (rowK.below hlf1 (hbel.mono hh)) (hb2.mono (by omega))) (rowK.below (rowK.below hlf2 (hbel.mono hh)) (hb2.mono (by omega))) (by have := hb2.size; omega)
        obtain ⟨r, hr⟩ : ∃ b, rowEM x y = b := ⟨_, rfl⟩
        rw [hr] at HD hS
        clear hr hx hy V1 V2 hlf1 hlf2 hat1 hat2 HK
        obtain ⟨x1, ⟨Aq1, nq1, cq1⟩⟩ := x
        obtain ⟨x2, ⟨Aq2, nq2, cq2⟩⟩ := y
        simp only at hS a1_0 a1_1 a2_0 a2_1
        have HS := Lib.hid hS
        have hbl1 : b1 < wr.heap.size := by omega
        have hbl2 : b2 < wr.heap.size := by omega
        clear hS hbel
        have hbb := ((below_box wr (.cells #[.string x1.con, .slice Aq1 nq1 cq1] 55)).alloc (by simp) (.cells #[.string x2.con, .slice Aq2 nq2 cq2] 55))
        have HBB := Lib.hid hbb
        clear hbb
        cases r with
        | false =>
          have HZ : Hid (eqL rowEM l m = false) := Lib.hid (by rw [HD.out]; rfl)
          clear HD
          go_wp2_with (go_at_call 36; go_must (refine (HS.out _ HBB.out).mono ?_; rintro e w2 ⟨rfl, hb2⟩; have HB2 := Lib.hid (HBB.out.trans (hb2.mono (by simp; omega))); clear hb2))
          go_ret
          exact ret_b HZ.out rfl (HB.out.trans (HB2.out.mono hwz))
        | true =>
          have HZ : Hid (eqL rowEM l m = eqL rowEM (l.drop (k + 1)) (m.drop (k + 1))) := Lib.hid (by rw [HD.out]; rfl)
          clear HD
          go_wp2_with (go_at_call 36; go_must (refine (HS.out _ HBB.out).mono ?_; rintro e w2 ⟨rfl, hb2⟩; have HB2 := Lib.hid (HBB.out.trans (hb2.mono (by simp; omega))); clear hb2))
          go_roundw
          case rel => exact ⟨k + 1, by omega, by go_num, HB.out.trans (HB2.out.mono hwz), HZ⟩
          case measure => simp [intOf]; omega
      · have HZ : Hid (eqL rowEM l m = true) := Lib.hid (by rw [HK.out, List.drop_eq_nil_of_le (by have := HL1.out; omega), List.drop_eq_nil_of_le (by have := HL2.out; omega)]; rfl)
        clear HK hbel
        go_wp2_with fail
        go_ret
        exact ret_b HZ.out rfl HB.out
  · have d2 : ((n : Int) != (n' : Int)) = true := by rw [bne_iff_ne]; omega
    have HZ : Hid (eqL rowEM l m = false) := Lib.hid (eqL_len rowEM (by have := HL1.out; have := HL2.out; omega))
    clear e2
    go_enter Tryz.func35, Tryz.ntmps35
    go_wp2_with fail
    go_ret
    exact ret_b HZ.out rfl (Below.refl _ _)
set_option maxRecDepth 100000 in
set_option maxHeartbeats 3200000 in
theorem eqf_te_any (w : World) (hi : Nat) (S S' : Sl) (l m : List (RowD × Sl)) (h : GRow rowC RowIn 2 w 0 hi S l) (h' : GRow rowC RowIn 2 w 0 hi S' m) (hh : hi ≤ w.heap.size) :
    Calls Tryz.prog 37 #[.slice S.A S.n S.c, .slice S'.A S'.n S'.c, .func (.func 38) #[] #[]] w (Ret w (.bool (eqL rowEM l m))) := by
  obtain ⟨A, n, c⟩ := S
  obtain ⟨A', n', c'⟩ := S'
  have hc := h.row.2.2.1
  have hnc := h.row.2.1
  have HL1 := Lib.hid h.n
  have hc' := h'.row.2.2.1
  have hnc' := h'.row.2.1
  have HL2 := Lib.hid h'.n
  simp only at hc hnc hc' hnc' HL1 HL2 ⊢
  unfold maxLen at hc hc'
  have HH1 := Lib.hid h
  have HH2 := Lib.hid h'
  clear h h'
  by_cases e2 : n = n'
  · have d2 : ((n : Int) != (n' : Int)) = false := by rw [bne_eq_false_iff_eq]; omega
    subst e2
    go_enter Tryz.func37, Tryz.ntmps37
    go_wp2_with fail
    go_loopw [17] (fun i wr => ∃ k : Nat, k ≤ n ∧ i = .int .i64 k ∧ Below w.heap.size w wr ∧ Hid (eqL rowEM l m = eqL rowEM (l.drop k) (m.drop k))) (fun i _ => n - (intOf i).toNat)
    case atStart => exact ⟨0, by omega, rfl, Below.refl _ _, Lib.hid rfl⟩
    case round =>
      obtain ⟨k, hk, rfl, hbel, HK⟩ := hrel
      have HB := Lib.hid hbel
      have hwz := hbel.size
      by_cases hlt : k < n
      · obtain ⟨b1, o1, hA1, _, hb1, V1⟩ := HH1.out.at_ (fun _ => rfl) (show 0 < n by omega)
        obtain ⟨b2, o2, hA2, _, hb2', V2⟩ := HH2.out.at_ (fun _ => rfl) (show 0 < n by omega)
        simp only at hA1 hA2
        subst hA1 hA2
        obtain ⟨x, hx⟩ : ∃ x, l[k]? = some x := ⟨l[k]'(by have := HL1.out; omega), List.getElem?_eq_getElem _⟩
        obtain ⟨y, hy⟩ : ∃ y, m[k]? = some y := ⟨m[k]'(by have := HL2.out; omega), List.getElem?_eq_getElem _⟩
        obtain ⟨hlf1, hat1⟩ := V1 k x hx
        obtain ⟨hlf2, hat2⟩ := V2 k y hy
        have a1_0 : wr.cell? ⟨b1, o1 + k * 2, none⟩ = some (.string x.1.con) := (hbel.cell (p := ⟨_, _, none⟩) (show b1 < w.heap.size by omega)).trans (hat1 0 _ (by omega) rfl)
        have a1_1 : wr.cell? ⟨b1, o1 + k * 2 + 1, none⟩ = some (.slice x.2.A x.2.n x.2.c) := (hbel.cell (p := ⟨_, _, none⟩) (show b1 < w.heap.size by omega)).trans (hat1 1 _ (by omega) rfl)
        have a2_0 : wr.cell? ⟨b2, o2 + k * 2, none⟩ = some (.string y.1.con) := (hbel.cell (p := ⟨_, _, none⟩) (show b2 < w.heap.size by omega)).trans (hat2 0 _ (by omega) rfl)
        have a2_1 : wr.cell? ⟨b2, o2 + k * 2 + 1, none⟩ = some (.slice y.2.A y.2.n y.2.c) := (hbel.cell (p := ⟨_, _, none⟩) (show b2 < w.heap.size by omega)).trans (hat2 1 _ (by omega) rfl)
        have HD : Hid (eqL rowEM l m = (rowEM x y && eqL rowEM (l.drop (k + 1)) (m.drop (k + 1)))) := Lib.hid (by
          obtain ⟨hl1, e1⟩ := List.getElem?_eq_some_iff.1 hx
          obtain ⟨hl2, e2⟩ := List.getElem?_eq_some_iff.1 hy
          rw [HK.out, List.drop_eq_getElem_cons hl1, List.drop_eq_getElem_cons hl2, e1, e2]; rfl)
        have hS : ∀ w2, Below wr.heap.size wr w2 → Calls Tryz.prog 38 #[.agg #[.string x.1.con, .slice x.2.A x.2.n x.2.c], .agg #[.string y.1.con, .slice y.2.A y.2.n y.2.c]] w2 (Ret w2 (.bool (rowEM x y))) := fun w2 hb2 =>
          same_te_any _ hi x y (rowK.below (rowK.below hlf1 (hbel.mono hh)) (hb2.mono (by omega))) (rowK.below (rowK.below hlf2 (hbel.mono hh)) (hb2.mono (by omega))) (by have := hb2.size; omega)
        obtain ⟨r, hr⟩ : ∃ b, rowEM x y = b := ⟨_, rfl⟩
        rw [hr] at HD hS
        clear hr hx hy V1 V2 hlf1 hlf2 hat1 hat2 HK
        obtain ⟨x1, ⟨Aq1, nq1, cq1⟩⟩ := x
        obtain ⟨x2, ⟨Aq2, nq2, cq2⟩⟩ := y
        simp only at hS a1_0 a1_1 a2_0 a2_1
        have HS := Lib.hid hS
        have hbl1 : b1 < wr.heap.size := by omega
        have hbl2 : b2 < wr.heap.size := by omega
        clear hS hbel
        have hbb := ((below_box wr (.cells #[.string x1.con, .slice Aq1 nq1 cq1] 58)).alloc (by simp) (.cells #[.string x2.con, .slice Aq2 nq2 cq2] 58))
        have HBB := Lib.hid hbb
        clear hbb
        cases r with
        | false =>
          have HZ : Hid (eqL rowEM l m = false) := Lib.hid (by rw [HD.out]; rfl)
          clear HD
          go_wp2_with (go_at_call 38; go_must (refine (HS.out _ HBB.out).mono ?_; rintro e w2 ⟨rfl, hb2⟩; have HB2 := Lib.hid (HBB.out.trans (hb2.mono (by simp; omega))); clear hb2))
          go_ret
          exact ret_b HZ.out rfl (HB.out.trans (HB2.out.mono hwz))
        | true =>
          have HZ : Hid (eqL rowEM l m = eqL rowEM (l.drop (k + 1)) (m.drop (k + 1))) := Lib.hid (by rw [HD.out]; rfl)
          clear HD
          go_wp2_with (go_at_call 38; go_must (refine (HS.out _ HBB.out).mono ?_; rintro e w2 ⟨rfl, hb2⟩; have HB2 := Lib.hid (HBB.out.trans (hb2.mono (by simp; omega))); clear hb2))
          go_roundw
          case rel => exact ⟨k + 1, by omega, by go_num, HB.out.trans (HB2.out.mono hwz), HZ⟩
          case measure => simp [intOf]; omega
      · have HZ : Hid (eqL rowEM l m = true) := Lib.hid (by rw [HK.out, List.drop_eq_nil_of_le (by have := HL1.out; omega), List.drop_eq_nil_of_le (by have := HL2.out; omega)]; rfl)
        clear HK hbel
        go_wp2_with fail
        go_ret
        exact ret_b HZ.out rfl HB.out
  · have d2 : ((n : Int) != (n' : Int)) = true := by rw [bne_iff_ne]; omega
    have HZ : Hid (eqL rowEM l m = false) := Lib.hid (eqL_len rowEM (by have := HL1.out; have := HL2.out; omega))
    clear e2
    go_enter Tryz.func37, Tryz.ntmps37
    go_wp2_with fail
    go_ret
    exact ret_b HZ.out rfl (Below.refl _ _)
end Go.Proofs.YtilemieknfdjnaaGreat

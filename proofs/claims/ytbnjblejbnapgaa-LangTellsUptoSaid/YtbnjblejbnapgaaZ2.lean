/-
  WALKS: the document: two concepts are the same.
  WALKS: two lists of flat elements are the same.
  WALKS: the document: two sides are the same.
  WALKS: boxes that are laid (plain).
-/
import Derived.Test.YtbnjblejbnapgaaZ1
namespace Go.Proofs.Ytbnjblejbnapgaa
open Go Go.RowKit Go.Sort
set_option linter.unusedVariables false
set_option maxRecDepth 100000 in
set_option maxHeartbeats 6400000 in
theorem refSameConcept_any (w : World) (hi : Nat) (x y : ConD × Leaf) (hx : ConIn w 0 hi x) (hy : ConIn w 0 hi y) (hh : hi ≤ w.heap.size) :
    Calls Try.prog 12 #[.agg #[.string x.1.name, .string x.1.super, .bool x.1.abs, .slice x.2.p.A x.2.p.n x.2.p.c, .slice x.2.k.A x.2.k.n x.2.k.c, .slice x.2.r.A x.2.r.n x.2.r.c], .agg #[.string y.1.name, .string y.1.super, .bool y.1.abs, .slice y.2.p.A y.2.p.n y.2.p.c, .slice y.2.k.A y.2.k.n y.2.k.c, .slice y.2.r.A y.2.r.n y.2.r.c]] w (Ret w (.bool (conEM x y))) := by
  obtain ⟨x1, ⟨⟨Ap1, np1, cp1⟩, ⟨Ak1, nk1, ck1⟩, ⟨Ar1, nr1, cr1⟩⟩⟩ := x
  obtain ⟨x2, ⟨⟨Ap2, np2, cp2⟩, ⟨Ak2, nk2, ck2⟩, ⟨Ar2, nr2, cr2⟩⟩⟩ := y
  obtain ⟨ipn1, ikn1, irn1, ip1, ik1, ir1⟩ := hx
  obtain ⟨ipn2, ikn2, irn2, ip2, ik2, ir2⟩ := hy
  simp only at ipn1 ipn2 ikn1 ikn2 irn1 irn2 ip1 ip2 ik1 ik2 ir1 ir2 ⊢
  have HW := Lib.hid (B2.start w 38 #[.string x1.name, .string x1.super, .bool x1.abs, .slice Ap1 np1 cp1, .slice Ak1 nk1 ck1, .slice Ar1 nr1 cr1] #[.string x2.name, .string x2.super, .bool x2.abs, .slice Ap2 np2 cp2, .slice Ak2 nk2 ck2, .slice Ar2 nr2 cr2])
  have HN : Hid (conEM ⟨x1, ⟨⟨Ap1, np1, cp1⟩, ⟨Ak1, nk1, ck1⟩, ⟨Ar1, nr1, cr1⟩⟩⟩ ⟨x2, ⟨⟨Ap2, np2, cp2⟩, ⟨Ak2, nk2, ck2⟩, ⟨Ar2, nr2, cr2⟩⟩⟩ = ((x1.name.toList == x2.name.toList) && (x1.super.toList == x2.super.toList) && (x1.abs == x2.abs) && eqL pdE x1.props x2.props && eqL kdE x1.kids x2.kids && eqL rdE x1.refs x2.refs)) := Lib.hid rfl
  obtain ⟨res, hres⟩ : ∃ b, conEM ⟨x1, ⟨⟨Ap1, np1, cp1⟩, ⟨Ak1, nk1, ck1⟩, ⟨Ar1, nr1, cr1⟩⟩⟩ ⟨x2, ⟨⟨Ap2, np2, cp2⟩, ⟨Ak2, nk2, ck2⟩, ⟨Ar2, nr2, cr2⟩⟩⟩ = b := ⟨_, rfl⟩
  rw [hres] at HN ⊢
  clear hres
  have Hnp1 := Lib.hid ipn1
  have HRp1 := Lib.hid ip1
  have zp1 := ip1.2.2.1
  have yp1 := ip1.2.1
  have Hnp2 := Lib.hid ipn2
  have HRp2 := Lib.hid ip2
  have zp2 := ip2.2.2.1
  have yp2 := ip2.2.1
  have Hnk1 := Lib.hid ikn1
  have HRk1 := Lib.hid ik1
  have zk1 := ik1.2.2.1
  have yk1 := ik1.2.1
  have Hnk2 := Lib.hid ikn2
  have HRk2 := Lib.hid ik2
  have zk2 := ik2.2.2.1
  have yk2 := ik2.2.1
  have Hnr1 := Lib.hid irn1
  have HRr1 := Lib.hid ir1
  have zr1 := ir1.2.2.1
  have yr1 := ir1.2.1
  have Hnr2 := Lib.hid irn2
  have HRr2 := Lib.hid ir2
  have zr2 := ir2.2.2.1
  have yr2 := ir2.2.1
  unfold maxLen at zp1 zp2 zk1 zk2 zr1 zr2
  clear ipn1 ipn2 ikn1 ikn2 irn1 irn2 ip1 ip2 ik1 ik2 ir1 ir2
  cases d0 : (x1.name.toList == x2.name.toList) with
  | false =>
    have m0 : (x1.name.toList != x2.name.toList) = true := by unfold bne; rw [d0]; rfl
    have HZ : Hid (res = false) := Lib.hid (by rw [HN.out, d0]; simp)
    clear HN
    go_enter Try.func12, Try.ntmps12
    go_wp2_with fail
    go_ret
    exact ret_b HZ.out rfl HW.out.bel
  | true =>
    have m0 : (x1.name.toList != x2.name.toList) = false := by unfold bne; rw [d0]; rfl
    cases d1 : (x1.super.toList == x2.super.toList) with
    | false =>
      have m1 : (x1.super.toList != x2.super.toList) = true := by unfold bne; rw [d1]; rfl
      have HZ : Hid (res = false) := Lib.hid (by rw [HN.out, d1]; simp)
      clear HN
      go_enter Try.func12, Try.ntmps12
      go_wp2_with fail
      go_ret
      exact ret_b HZ.out rfl HW.out.bel
    | true =>
      have m1 : (x1.super.toList != x2.super.toList) = false := by unfold bne; rw [d1]; rfl
      cases d2 : (x1.abs == x2.abs) with
      | false =>
        have m2 : (x1.abs != x2.abs) = true := by unfold bne; rw [d2]; rfl
        have HZ : Hid (res = false) := Lib.hid (by rw [HN.out, d2]; simp)
        clear HN
        go_enter Try.func12, Try.ntmps12
        go_wp2_with fail
        go_ret
        exact ret_b HZ.out rfl HW.out.bel
      | true =>
        have m2 : (x1.abs != x2.abs) = false := by unfold bne; rw [d2]; rfl
        replace HN : Hid (res = (eqL pdE x1.props x2.props && eqL kdE x1.kids x2.kids && eqL rdE x1.refs x2.refs)) := Lib.hid (by rw [HN.out, d0, d1, d2]; simp only [Bool.true_and])
        by_cases lp : np1 = np2
        · have fp : ((np1 : Int) != (np2 : Int)) = false := by rw [bne_eq_false_iff_eq]; omega
          subst lp
          by_cases lk : nk1 = nk2
          · have fk : ((nk1 : Int) != (nk2 : Int)) = false := by rw [bne_eq_false_iff_eq]; omega
            subst lk
            by_cases lr : nr1 = nr2
            · have fr : ((nr1 : Int) != (nr2 : Int)) = false := by rw [bne_eq_false_iff_eq]; omega
              subst lr
              go_enter Try.func12, Try.ntmps12
              go_wp2_with fail
              go_loopw [5] (fun i wr => ∃ k : Nat, k ≤ np1 ∧ i = .int .i64 k ∧ B2 w 38 #[.string x1.name, .string x1.super, .bool x1.abs, .slice Ap1 np1 cp1, .slice Ak1 nk1 ck1, .slice Ar1 nr1 cr1] #[.string x2.name, .string x2.super, .bool x2.abs, .slice Ap2 np1 cp2, .slice Ak2 nk1 ck2, .slice Ar2 nr1 cr2] wr ∧ Hid (eqL pdE x1.props x2.props = eqL pdE (x1.props.drop k) (x2.props.drop k))) (fun i _ => np1 - (intOf i).toNat)
              case atStart => exact ⟨0, by omega, rfl, HW.out, Lib.hid rfl⟩
              case round =>
                clear HW
                obtain ⟨k, hk, rfl, BWh, HK⟩ := hrel
                have a3 : wr.cell? ⟨w.heap.size, 3, none⟩ = some (.slice Ap1 np1 cp1) := (BWh.a.cell 3).trans rfl
                have b3 : wr.cell? ⟨w.heap.size + 1, 3, none⟩ = some (.slice Ap2 np1 cp2) := (BWh.b.cell 3).trans rfl
                have a4 : wr.cell? ⟨w.heap.size, 4, none⟩ = some (.slice Ak1 nk1 ck1) := (BWh.a.cell 4).trans rfl
                have b4 : wr.cell? ⟨w.heap.size + 1, 4, none⟩ = some (.slice Ak2 nk1 ck2) := (BWh.b.cell 4).trans rfl
                have a5 : wr.cell? ⟨w.heap.size, 5, none⟩ = some (.slice Ar1 nr1 cr1) := (BWh.a.cell 5).trans rfl
                have b5 : wr.cell? ⟨w.heap.size + 1, 5, none⟩ = some (.slice Ar2 nr1 cr2) := (BWh.b.cell 5).trans rfl
                have hbel := BWh.bel
                have HW := Lib.hid BWh
                clear BWh
                by_cases hlt : k < np1
                · obtain ⟨g1, o1, rfl, _, _, hcells1⟩ := (Row.below HRp1.out (hbel.mono hh)).at_ (by omega)
                  obtain ⟨g2, o2, rfl, _, _, hcells2⟩ := (Row.below HRp2.out (hbel.mono hh)).at_ (by omega)
                  obtain ⟨u, hu⟩ : ∃ u, x1.props[k]? = some u := ⟨x1.props[k]'(by have := Hnp1.out; have := Hnp2.out; omega), List.getElem?_eq_getElem _⟩
                  obtain ⟨v, hv⟩ : ∃ v, x2.props[k]? = some v := ⟨x2.props[k]'(by have := Hnp1.out; have := Hnp2.out; omega), List.getElem?_eq_getElem _⟩
                  have q1_0 := hcells1 _ _ (pdCells_get hu).1
                  have q1_0 : wr.cell? ⟨g1, o1 + k * 2, none⟩ = some (.string u.name) := by first | exact q1_0 | (rw [Nat.add_assoc]; exact q1_0)
                  have q1_1 := hcells1 _ _ (pdCells_get hu).2
                  have q1_1 : wr.cell? ⟨g1, o1 + k * 2 + 1, none⟩ = some (.int .i64 u.typ) := by first | exact q1_1 | (rw [Nat.add_assoc]; exact q1_1)
                  have q2_0 := hcells2 _ _ (pdCells_get hv).1
                  have q2_0 : wr.cell? ⟨g2, o2 + k * 2, none⟩ = some (.string v.name) := by first | exact q2_0 | (rw [Nat.add_assoc]; exact q2_0)
                  have q2_1 := hcells2 _ _ (pdCells_get hv).2
                  have q2_1 : wr.cell? ⟨g2, o2 + k * 2 + 1, none⟩ = some (.int .i64 v.typ) := by first | exact q2_1 | (rw [Nat.add_assoc]; exact q2_1)
                  have HD : Hid (eqL pdE x1.props x2.props = (pdE u v && eqL pdE (x1.props.drop (k + 1)) (x2.props.drop (k + 1)))) := Lib.hid (by
                    obtain ⟨hl1, e1⟩ := List.getElem?_eq_some_iff.1 hu
                    obtain ⟨hl2, e2⟩ := List.getElem?_eq_some_iff.1 hv
                    rw [HK.out, List.drop_eq_getElem_cons hl1, List.drop_eq_getElem_cons hl2, e1, e2]; rfl)
                  clear HK hu hv hcells1 hcells2
                  cases e0 : (u.name.toList == v.name.toList) with
                  | false =>
                    have HZ : Hid (res = false) := Lib.hid (by rw [HN.out, HD.out]; simp only [pdE, e0]; simp)
                    clear HD
                    go_wp2_with fail
                    go_quiet (fail)
                    go_wp2_with fail
                    go_ret
                    exact ret_b HZ.out rfl (HW.out.drewN _).bel
                  | true =>
                    cases e1 : (u.typ == v.typ) with
                    | false =>
                      have HZ : Hid (res = false) := Lib.hid (by rw [HN.out, HD.out]; simp only [pdE, e0, e1]; simp)
                      clear HD
                      go_wp2_with fail
                      go_quiet (fail)
                      go_wp2_with fail
                      go_ret
                      exact ret_b HZ.out rfl (HW.out.drewN _).bel
                    | true =>
                      have HZ : Hid (eqL pdE x1.props x2.props = eqL pdE (x1.props.drop (k + 1)) (x2.props.drop (k + 1))) := Lib.hid (by rw [HD.out]; simp only [pdE, e0, e1]; rfl)
                      clear HD
                      go_wp2_with fail
                      go_quiet (fail)
                      go_wp2_with fail
                      go_roundw
                      case rel => exact ⟨k + 1, by omega, by go_num, HW.out.drewN _, HZ⟩
                      case measure => simp [intOf]; omega
                · have HZ : Hid (eqL pdE x1.props x2.props = true) := Lib.hid (by rw [HK.out, List.drop_eq_nil_of_le (by have := Hnp1.out; omega), List.drop_eq_nil_of_le (by have := Hnp2.out; omega)]; rfl)
                  replace HN : Hid (res = (eqL kdE x1.kids x2.kids && eqL rdE x1.refs x2.refs)) := Lib.hid (by rw [HN.out, HZ.out]; simp only [Bool.true_and])
                  clear HK HZ
                  go_wp2_with fail
                  go_loopw [6] (fun i wr => ∃ k : Nat, k ≤ nk1 ∧ i = .int .i64 k ∧ B2 w 38 #[.string x1.name, .string x1.super, .bool x1.abs, .slice Ap1 np1 cp1, .slice Ak1 nk1 ck1, .slice Ar1 nr1 cr1] #[.string x2.name, .string x2.super, .bool x2.abs, .slice Ap2 np1 cp2, .slice Ak2 nk1 ck2, .slice Ar2 nr1 cr2] wr ∧ Hid (eqL kdE x1.kids x2.kids = eqL kdE (x1.kids.drop k) (x2.kids.drop k))) (fun i _ => nk1 - (intOf i).toNat)
                  case atStart => exact ⟨0, by omega, rfl, HW.out, Lib.hid rfl⟩
                  case round =>
                    clear HW
                    obtain ⟨k, hk, rfl, BWh, HK⟩ := hrel
                    have a3 : wr.cell? ⟨w.heap.size, 3, none⟩ = some (.slice Ap1 np1 cp1) := (BWh.a.cell 3).trans rfl
                    have b3 : wr.cell? ⟨w.heap.size + 1, 3, none⟩ = some (.slice Ap2 np1 cp2) := (BWh.b.cell 3).trans rfl
                    have a4 : wr.cell? ⟨w.heap.size, 4, none⟩ = some (.slice Ak1 nk1 ck1) := (BWh.a.cell 4).trans rfl
                    have b4 : wr.cell? ⟨w.heap.size + 1, 4, none⟩ = some (.slice Ak2 nk1 ck2) := (BWh.b.cell 4).trans rfl
                    have a5 : wr.cell? ⟨w.heap.size, 5, none⟩ = some (.slice Ar1 nr1 cr1) := (BWh.a.cell 5).trans rfl
                    have b5 : wr.cell? ⟨w.heap.size + 1, 5, none⟩ = some (.slice Ar2 nr1 cr2) := (BWh.b.cell 5).trans rfl
                    have hbel := BWh.bel
                    have HW := Lib.hid BWh
                    clear BWh
                    by_cases hlt : k < nk1
                    · obtain ⟨g1, o1, rfl, _, _, hcells1⟩ := (Row.below HRk1.out (hbel.mono hh)).at_ (by omega)
                      obtain ⟨g2, o2, rfl, _, _, hcells2⟩ := (Row.below HRk2.out (hbel.mono hh)).at_ (by omega)
                      obtain ⟨u, hu⟩ : ∃ u, x1.kids[k]? = some u := ⟨x1.kids[k]'(by have := Hnk1.out; have := Hnk2.out; omega), List.getElem?_eq_getElem _⟩
                      obtain ⟨v, hv⟩ : ∃ v, x2.kids[k]? = some v := ⟨x2.kids[k]'(by have := Hnk1.out; have := Hnk2.out; omega), List.getElem?_eq_getElem _⟩
                      have q1_0 := hcells1 _ _ (kdCells_get hu).1
                      have q1_0 : wr.cell? ⟨g1, o1 + k * 4, none⟩ = some (.string u.role) := by first | exact q1_0 | (rw [Nat.add_assoc]; exact q1_0)
                      have q1_1 := hcells1 _ _ (kdCells_get hu).2.1
                      have q1_1 : wr.cell? ⟨g1, o1 + k * 4 + 1, none⟩ = some (.string u.con) := by first | exact q1_1 | (rw [Nat.add_assoc]; exact q1_1)
                      have q1_2 := hcells1 _ _ (kdCells_get hu).2.2.1
                      have q1_2 : wr.cell? ⟨g1, o1 + k * 4 + 2, none⟩ = some (.int .i64 u.min) := by first | exact q1_2 | (rw [Nat.add_assoc]; exact q1_2)
                      have q1_3 := hcells1 _ _ (kdCells_get hu).2.2.2
                      have q1_3 : wr.cell? ⟨g1, o1 + k * 4 + 3, none⟩ = some (.int .i64 u.max) := by first | exact q1_3 | (rw [Nat.add_assoc]; exact q1_3)
                      have q2_0 := hcells2 _ _ (kdCells_get hv).1
                      have q2_0 : wr.cell? ⟨g2, o2 + k * 4, none⟩ = some (.string v.role) := by first | exact q2_0 | (rw [Nat.add_assoc]; exact q2_0)
                      have q2_1 := hcells2 _ _ (kdCells_get hv).2.1
                      have q2_1 : wr.cell? ⟨g2, o2 + k * 4 + 1, none⟩ = some (.string v.con) := by first | exact q2_1 | (rw [Nat.add_assoc]; exact q2_1)
                      have q2_2 := hcells2 _ _ (kdCells_get hv).2.2.1
                      have q2_2 : wr.cell? ⟨g2, o2 + k * 4 + 2, none⟩ = some (.int .i64 v.min) := by first | exact q2_2 | (rw [Nat.add_assoc]; exact q2_2)
                      have q2_3 := hcells2 _ _ (kdCells_get hv).2.2.2
                      have q2_3 : wr.cell? ⟨g2, o2 + k * 4 + 3, none⟩ = some (.int .i64 v.max) := by first | exact q2_3 | (rw [Nat.add_assoc]; exact q2_3)
                      have HD : Hid (eqL kdE x1.kids x2.kids = (kdE u v && eqL kdE (x1.kids.drop (k + 1)) (x2.kids.drop (k + 1)))) := Lib.hid (by
                        obtain ⟨hl1, e1⟩ := List.getElem?_eq_some_iff.1 hu
                        obtain ⟨hl2, e2⟩ := List.getElem?_eq_some_iff.1 hv
                        rw [HK.out, List.drop_eq_getElem_cons hl1, List.drop_eq_getElem_cons hl2, e1, e2]; rfl)
                      clear HK hu hv hcells1 hcells2
                      cases e0 : (u.role.toList == v.role.toList) with
                      | false =>
                        have HZ : Hid (res = false) := Lib.hid (by rw [HN.out, HD.out]; simp only [kdE, e0]; simp)
                        clear HD
                        go_wp2_with fail
                        go_quiet (fail)
                        go_wp2_with fail
                        go_ret
                        exact ret_b HZ.out rfl (HW.out.drewN _).bel
                      | true =>
                        cases e1 : (u.con.toList == v.con.toList) with
                        | false =>
                          have HZ : Hid (res = false) := Lib.hid (by rw [HN.out, HD.out]; simp only [kdE, e0, e1]; simp)
                          clear HD
                          go_wp2_with fail
                          go_quiet (fail)
                          go_wp2_with fail
                          go_ret
                          exact ret_b HZ.out rfl (HW.out.drewN _).bel
                        | true =>
                          cases e2 : (u.min == v.min) with
                          | false =>
                            have HZ : Hid (res = false) := Lib.hid (by rw [HN.out, HD.out]; simp only [kdE, e0, e1, e2]; simp)
                            clear HD
                            go_wp2_with fail
                            go_quiet (fail)
                            go_wp2_with fail
                            go_ret
                            exact ret_b HZ.out rfl (HW.out.drewN _).bel
                          | true =>
                            cases e3 : (u.max == v.max) with
                            | false =>
                              have HZ : Hid (res = false) := Lib.hid (by rw [HN.out, HD.out]; simp only [kdE, e0, e1, e2, e3]; simp)
                              clear HD
                              go_wp2_with fail
                              go_quiet (fail)
                              go_wp2_with fail
                              go_ret
                              exact ret_b HZ.out rfl (HW.out.drewN _).bel
                            | true =>
                              have HZ : Hid (eqL kdE x1.kids x2.kids = eqL kdE (x1.kids.drop (k + 1)) (x2.kids.drop (k + 1))) := Lib.hid (by rw [HD.out]; simp only [kdE, e0, e1, e2, e3]; rfl)
                              clear HD
                              go_wp2_with fail
                              go_quiet (fail)
                              go_wp2_with fail
                              go_roundw
                              case rel => exact ⟨k + 1, by omega, by go_num, HW.out.drewN _, HZ⟩
                              case measure => simp [intOf]; omega
                    · have HZ : Hid (eqL kdE x1.kids x2.kids = true) := Lib.hid (by rw [HK.out, List.drop_eq_nil_of_le (by have := Hnk1.out; omega), List.drop_eq_nil_of_le (by have := Hnk2.out; omega)]; rfl)
                      replace HN : Hid (res = (eqL rdE x1.refs x2.refs)) := Lib.hid (by rw [HN.out, HZ.out]; simp only [Bool.true_and])
                      clear HK HZ
                      go_wp2_with fail
                      go_loopw [7] (fun i wr => ∃ k : Nat, k ≤ nr1 ∧ i = .int .i64 k ∧ B2 w 38 #[.string x1.name, .string x1.super, .bool x1.abs, .slice Ap1 np1 cp1, .slice Ak1 nk1 ck1, .slice Ar1 nr1 cr1] #[.string x2.name, .string x2.super, .bool x2.abs, .slice Ap2 np1 cp2, .slice Ak2 nk1 ck2, .slice Ar2 nr1 cr2] wr ∧ Hid (eqL rdE x1.refs x2.refs = eqL rdE (x1.refs.drop k) (x2.refs.drop k))) (fun i _ => nr1 - (intOf i).toNat)
                      case atStart => exact ⟨0, by omega, rfl, HW.out, Lib.hid rfl⟩
                      case round =>
                        clear HW
                        obtain ⟨k, hk, rfl, BWh, HK⟩ := hrel
                        have a3 : wr.cell? ⟨w.heap.size, 3, none⟩ = some (.slice Ap1 np1 cp1) := (BWh.a.cell 3).trans rfl
                        have b3 : wr.cell? ⟨w.heap.size + 1, 3, none⟩ = some (.slice Ap2 np1 cp2) := (BWh.b.cell 3).trans rfl
                        have a4 : wr.cell? ⟨w.heap.size, 4, none⟩ = some (.slice Ak1 nk1 ck1) := (BWh.a.cell 4).trans rfl
                        have b4 : wr.cell? ⟨w.heap.size + 1, 4, none⟩ = some (.slice Ak2 nk1 ck2) := (BWh.b.cell 4).trans rfl
                        have a5 : wr.cell? ⟨w.heap.size, 5, none⟩ = some (.slice Ar1 nr1 cr1) := (BWh.a.cell 5).trans rfl
                        have b5 : wr.cell? ⟨w.heap.size + 1, 5, none⟩ = some (.slice Ar2 nr1 cr2) := (BWh.b.cell 5).trans rfl
                        have hbel := BWh.bel
                        have HW := Lib.hid BWh
                        clear BWh
                        by_cases hlt : k < nr1
                        · obtain ⟨g1, o1, rfl, _, _, hcells1⟩ := (Row.below HRr1.out (hbel.mono hh)).at_ (by omega)
                          obtain ⟨g2, o2, rfl, _, _, hcells2⟩ := (Row.below HRr2.out (hbel.mono hh)).at_ (by omega)
                          obtain ⟨u, hu⟩ : ∃ u, x1.refs[k]? = some u := ⟨x1.refs[k]'(by have := Hnr1.out; have := Hnr2.out; omega), List.getElem?_eq_getElem _⟩
                          obtain ⟨v, hv⟩ : ∃ v, x2.refs[k]? = some v := ⟨x2.refs[k]'(by have := Hnr1.out; have := Hnr2.out; omega), List.getElem?_eq_getElem _⟩
                          have q1_0 := hcells1 _ _ (rdCells_get hu).1
                          have q1_0 : wr.cell? ⟨g1, o1 + k * 3, none⟩ = some (.string u.role) := by first | exact q1_0 | (rw [Nat.add_assoc]; exact q1_0)
                          have q1_1 := hcells1 _ _ (rdCells_get hu).2.1
                          have q1_1 : wr.cell? ⟨g1, o1 + k * 3 + 1, none⟩ = some (.string u.con) := by first | exact q1_1 | (rw [Nat.add_assoc]; exact q1_1)
                          have q1_2 := hcells1 _ _ (rdCells_get hu).2.2
                          have q1_2 : wr.cell? ⟨g1, o1 + k * 3 + 2, none⟩ = some (.bool u.need) := by first | exact q1_2 | (rw [Nat.add_assoc]; exact q1_2)
                          have q2_0 := hcells2 _ _ (rdCells_get hv).1
                          have q2_0 : wr.cell? ⟨g2, o2 + k * 3, none⟩ = some (.string v.role) := by first | exact q2_0 | (rw [Nat.add_assoc]; exact q2_0)
                          have q2_1 := hcells2 _ _ (rdCells_get hv).2.1
                          have q2_1 : wr.cell? ⟨g2, o2 + k * 3 + 1, none⟩ = some (.string v.con) := by first | exact q2_1 | (rw [Nat.add_assoc]; exact q2_1)
                          have q2_2 := hcells2 _ _ (rdCells_get hv).2.2
                          have q2_2 : wr.cell? ⟨g2, o2 + k * 3 + 2, none⟩ = some (.bool v.need) := by first | exact q2_2 | (rw [Nat.add_assoc]; exact q2_2)
                          have HD : Hid (eqL rdE x1.refs x2.refs = (rdE u v && eqL rdE (x1.refs.drop (k + 1)) (x2.refs.drop (k + 1)))) := Lib.hid (by
                            obtain ⟨hl1, e1⟩ := List.getElem?_eq_some_iff.1 hu
                            obtain ⟨hl2, e2⟩ := List.getElem?_eq_some_iff.1 hv
                            rw [HK.out, List.drop_eq_getElem_cons hl1, List.drop_eq_getElem_cons hl2, e1, e2]; rfl)
                          clear HK hu hv hcells1 hcells2
                          cases e0 : (u.role.toList == v.role.toList) with
                          | false =>
                            have HZ : Hid (res = false) := Lib.hid (by rw [HN.out, HD.out]; simp only [rdE, e0]; simp)
                            clear HD
                            go_wp2_with fail
                            go_quiet (fail)
                            go_wp2_with fail
                            go_ret
                            exact ret_b HZ.out rfl (HW.out.drewN _).bel
                          | true =>
                            cases e1 : (u.con.toList == v.con.toList) with
                            | false =>
                              have HZ : Hid (res = false) := Lib.hid (by rw [HN.out, HD.out]; simp only [rdE, e0, e1]; simp)
                              clear HD
                              go_wp2_with fail
                              go_quiet (fail)
                              go_wp2_with fail
                              go_ret
                              exact ret_b HZ.out rfl (HW.out.drewN _).bel
                            | true =>
                              cases e2 : (u.need == v.need) with
                              | false =>
                                have HZ : Hid (res = false) := Lib.hid (by rw [HN.out, HD.out]; simp only [rdE, e0, e1, e2]; simp)
                                clear HD
                                go_wp2_with fail
                                go_quiet (fail)
                                go_wp2_with fail
                                go_ret
                                exact ret_b HZ.out rfl (HW.out.drewN _).bel
                              | true =>
                                have HZ : Hid (eqL rdE x1.refs x2.refs = eqL rdE (x1.refs.drop (k + 1)) (x2.refs.drop (k + 1))) := Lib.hid (by rw [HD.out]; simp only [rdE, e0, e1, e2]; rfl)
                                clear HD
                                go_wp2_with fail
                                go_quiet (fail)
                                go_wp2_with fail
                                go_roundw
                                case rel => exact ⟨k + 1, by omega, by go_num, HW.out.drewN _, HZ⟩
                                case measure => simp [intOf]; omega
                        · have HZ : Hid (eqL rdE x1.refs x2.refs = true) := Lib.hid (by rw [HK.out, List.drop_eq_nil_of_le (by have := Hnr1.out; omega), List.drop_eq_nil_of_le (by have := Hnr2.out; omega)]; rfl)
                          clear HK
                          go_wp2_with fail
                          go_ret
                          exact ret_b (by rw [HN.out]; exact HZ.out) rfl HW.out.bel
            · have fr : ((nr1 : Int) != (nr2 : Int)) = true := by rw [bne_iff_ne]; omega
              have HZ : Hid (res = false) := Lib.hid (by rw [HN.out, eqL_len rdE (l := x1.refs) (m := x2.refs) (by have := Hnr1.out; have := Hnr2.out; omega)]; simp)
              clear HN lr
              go_enter Try.func12, Try.ntmps12
              go_wp2_with fail
              go_ret
              exact ret_b HZ.out rfl HW.out.bel
          · have fk : ((nk1 : Int) != (nk2 : Int)) = true := by rw [bne_iff_ne]; omega
            have HZ : Hid (res = false) := Lib.hid (by rw [HN.out, eqL_len kdE (l := x1.kids) (m := x2.kids) (by have := Hnk1.out; have := Hnk2.out; omega)]; simp)
            clear HN lk
            go_enter Try.func12, Try.ntmps12
            go_wp2_with fail
            go_ret
            exact ret_b HZ.out rfl HW.out.bel
        · have fp : ((np1 : Int) != (np2 : Int)) = true := by rw [bne_iff_ne]; omega
          have HZ : Hid (res = false) := Lib.hid (by rw [HN.out, eqL_len pdE (l := x1.props) (m := x2.props) (by have := Hnp1.out; have := Hnp2.out; omega)]; simp)
          clear HN lp
          go_enter Try.func12, Try.ntmps12
          go_wp2_with fail
          go_ret
          exact ret_b HZ.out rfl HW.out.bel
end Go.Proofs.Ytbnjblejbnapgaa
namespace Go.Proofs.Ytbnjblejbnapgaa
open Go Go.RowKit Go.Sort
set_option linter.unusedVariables false
set_option maxHeartbeats 1600000 in
theorem refCells_any (w : World) (lo hi lo' hi' : Nat) (A A' : Option Addr) (n c n' c' : Nat) (l m : List CellD) (h1 : Row w lo hi 3 A n c (ceCells l)) (h2 : Row w lo' hi' 3 A' n' c' (ceCells m)) :
    Calls Try.prog 28 #[.slice A n c, .slice A' n' c'] w (DrewV w (.bool (eqL ceE l m))) := by
  have hl1 : l.length = n := by have := h1.1; rw [ceCells_length] at this; omega
  have hl2 : m.length = n' := by have := h2.1; rw [ceCells_length] at this; omega
  have HL1 := Lib.hid hl1
  have HL2 := Lib.hid hl2
  have hc := h1.2.2.1
  have hnc := h1.2.1
  have hc' := h2.2.2.1
  have hnc' := h2.2.1
  unfold maxLen at hc hc'
  clear hl1 hl2
  by_cases hne : n = n'
  · have d0 : ((n : Int) != (n' : Int)) = false := by rw [bne_eq_false_iff_eq]; omega
    subst hne
    go_enter Try.func28, Try.ntmps28
    go_wp2_with fail
    go_loopw [5] (fun i wr => ∃ k : Nat, k ≤ n ∧ i = .int .i64 k ∧ Hid (∃ q, wr = w.drewN q) ∧ Hid (eqL ceE l m = eqL ceE (l.drop k) (m.drop k))) (fun i _ => n - (intOf i).toNat)
    case atStart => exact ⟨0, by omega, rfl, Lib.hid ⟨0, rfl⟩, Lib.hid rfl⟩
    case round =>
      obtain ⟨k, hk, rfl, HQ, HK⟩ := hrel
      by_cases hlt : k < n
      · obtain ⟨b1, o1, rfl, _, _, hcells1⟩ := (h1.below (drew_below HQ.out)).at_ (by omega)
        obtain ⟨b2, o2, rfl, _, _, hcells2⟩ := (h2.below (drew_below HQ.out)).at_ (by omega)
        obtain ⟨x, hx⟩ : ∃ x, l[k]? = some x := ⟨l[k]'(by have := HL1.out; omega), List.getElem?_eq_getElem _⟩
        obtain ⟨y, hy⟩ : ∃ y, m[k]? = some y := ⟨m[k]'(by have := HL2.out; omega), List.getElem?_eq_getElem _⟩
        have q1_0 := hcells1 _ _ (ceCells_get hx).1
        have q1_0 : wr.cell? ⟨b1, o1 + k * 3, none⟩ = some (.int .i64 x.kind) := by first | exact q1_0 | (rw [Nat.add_assoc]; exact q1_0)
        have q1_1 := hcells1 _ _ (ceCells_get hx).2.1
        have q1_1 : wr.cell? ⟨b1, o1 + k * 3 + 1, none⟩ = some (.string x.text) := by first | exact q1_1 | (rw [Nat.add_assoc]; exact q1_1)
        have q1_2 := hcells1 _ _ (ceCells_get hx).2.2
        have q1_2 : wr.cell? ⟨b1, o1 + k * 3 + 2, none⟩ = some (.string x.mark) := by first | exact q1_2 | (rw [Nat.add_assoc]; exact q1_2)
        have q2_0 := hcells2 _ _ (ceCells_get hy).1
        have q2_0 : wr.cell? ⟨b2, o2 + k * 3, none⟩ = some (.int .i64 y.kind) := by first | exact q2_0 | (rw [Nat.add_assoc]; exact q2_0)
        have q2_1 := hcells2 _ _ (ceCells_get hy).2.1
        have q2_1 : wr.cell? ⟨b2, o2 + k * 3 + 1, none⟩ = some (.string y.text) := by first | exact q2_1 | (rw [Nat.add_assoc]; exact q2_1)
        have q2_2 := hcells2 _ _ (ceCells_get hy).2.2
        have q2_2 : wr.cell? ⟨b2, o2 + k * 3 + 2, none⟩ = some (.string y.mark) := by first | exact q2_2 | (rw [Nat.add_assoc]; exact q2_2)
        have HD : Hid (eqL ceE l m = (ceE x y && eqL ceE (l.drop (k + 1)) (m.drop (k + 1)))) := Lib.hid (by
          obtain ⟨hl1, e1⟩ := List.getElem?_eq_some_iff.1 hx
          obtain ⟨hl2, e2⟩ := List.getElem?_eq_some_iff.1 hy
          rw [HK.out, List.drop_eq_getElem_cons hl1, List.drop_eq_getElem_cons hl2, e1, e2]; rfl)
        clear HK hx hy hcells1 hcells2
        cases e0 : (x.kind == y.kind) with
        | false =>
          have HZ : Hid (eqL ceE l m = false) := Lib.hid (by rw [HD.out]; simp only [ceE, e0]; rfl)
          clear HD
          go_wp2_with fail
          go_quiet (fail)
          go_wp2_with fail
          go_ret
          exact ⟨ret_bool HZ.out.symm, drew_more HQ.out nq⟩
        | true =>
          cases e1 : (x.text.toList == y.text.toList) with
          | false =>
            have HZ : Hid (eqL ceE l m = false) := Lib.hid (by rw [HD.out]; simp only [ceE, e0, e1]; rfl)
            clear HD
            go_wp2_with fail
            go_quiet (fail)
            go_wp2_with fail
            go_ret
            exact ⟨ret_bool HZ.out.symm, drew_more HQ.out nq⟩
          | true =>
            cases e2 : (x.mark.toList == y.mark.toList) with
            | false =>
              have HZ : Hid (eqL ceE l m = false) := Lib.hid (by rw [HD.out]; simp only [ceE, e0, e1, e2]; rfl)
              clear HD
              go_wp2_with fail
              go_quiet (fail)
              go_wp2_with fail
              go_ret
              exact ⟨ret_bool HZ.out.symm, drew_more HQ.out nq⟩
            | true =>
              have HZ : Hid (eqL ceE l m = eqL ceE (l.drop (k + 1)) (m.drop (k + 1))) := Lib.hid (by rw [HD.out]; simp only [ceE, e0, e1, e2]; rfl)
              clear HD
              go_wp2_with fail
              go_quiet (fail)
              go_wp2_with fail
              go_roundw
              case rel => exact ⟨k + 1, by omega, by go_num, Lib.hid (drew_more HQ.out nq), HZ⟩
              case measure => simp [intOf]; omega
      · have HZ : Hid (eqL ceE l m = true) := Lib.hid (by rw [HK.out, List.drop_eq_nil_of_le (by have := HL1.out; omega), List.drop_eq_nil_of_le (by have := HL2.out; omega)]; rfl)
        clear HK
        go_wp2_with fail
        go_ret
        exact ⟨ret_bool HZ.out.symm, HQ.out⟩
  · have d0 : ((n : Int) != (n' : Int)) = true := by rw [bne_iff_ne]; omega
    have HZ : Hid (eqL ceE l m = false) := Lib.hid (eqL_len _ (by have := HL1.out; have := HL2.out; omega))
    clear hne
    go_enter Try.func28, Try.ntmps28
    go_wp2_with fail
    go_ret
    exact ⟨ret_bool HZ.out.symm, 0, rfl⟩
set_option maxHeartbeats 1600000 in
theorem refPieces_any (w : World) (lo hi lo' hi' : Nat) (A A' : Option Addr) (n c n' c' : Nat) (l m : List CellD) (h1 : Row w lo hi 3 A n c (ceCells l)) (h2 : Row w lo' hi' 3 A' n' c' (ceCells m)) :
    Calls Try.prog 29 #[.slice A n c, .slice A' n' c'] w (DrewV w (.bool (eqL ceE l m))) := by
  have hl1 : l.length = n := by have := h1.1; rw [ceCells_length] at this; omega
  have hl2 : m.length = n' := by have := h2.1; rw [ceCells_length] at this; omega
  have HL1 := Lib.hid hl1
  have HL2 := Lib.hid hl2
  have hc := h1.2.2.1
  have hnc := h1.2.1
  have hc' := h2.2.2.1
  have hnc' := h2.2.1
  unfold maxLen at hc hc'
  clear hl1 hl2
  by_cases hne : n = n'
  · have d0 : ((n : Int) != (n' : Int)) = false := by rw [bne_eq_false_iff_eq]; omega
    subst hne
    go_enter Try.func29, Try.ntmps29
    go_wp2_with fail
    go_loopw [5] (fun i wr => ∃ k : Nat, k ≤ n ∧ i = .int .i64 k ∧ Hid (∃ q, wr = w.drewN q) ∧ Hid (eqL ceE l m = eqL ceE (l.drop k) (m.drop k))) (fun i _ => n - (intOf i).toNat)
    case atStart => exact ⟨0, by omega, rfl, Lib.hid ⟨0, rfl⟩, Lib.hid rfl⟩
    case round =>
      obtain ⟨k, hk, rfl, HQ, HK⟩ := hrel
      by_cases hlt : k < n
      · obtain ⟨b1, o1, rfl, _, _, hcells1⟩ := (h1.below (drew_below HQ.out)).at_ (by omega)
        obtain ⟨b2, o2, rfl, _, _, hcells2⟩ := (h2.below (drew_below HQ.out)).at_ (by omega)
        obtain ⟨x, hx⟩ : ∃ x, l[k]? = some x := ⟨l[k]'(by have := HL1.out; omega), List.getElem?_eq_getElem _⟩
        obtain ⟨y, hy⟩ : ∃ y, m[k]? = some y := ⟨m[k]'(by have := HL2.out; omega), List.getElem?_eq_getElem _⟩
        have q1_0 := hcells1 _ _ (ceCells_get hx).1
        have q1_0 : wr.cell? ⟨b1, o1 + k * 3, none⟩ = some (.int .i64 x.kind) := by first | exact q1_0 | (rw [Nat.add_assoc]; exact q1_0)
        have q1_1 := hcells1 _ _ (ceCells_get hx).2.1
        have q1_1 : wr.cell? ⟨b1, o1 + k * 3 + 1, none⟩ = some (.string x.text) := by first | exact q1_1 | (rw [Nat.add_assoc]; exact q1_1)
        have q1_2 := hcells1 _ _ (ceCells_get hx).2.2
        have q1_2 : wr.cell? ⟨b1, o1 + k * 3 + 2, none⟩ = some (.string x.mark) := by first | exact q1_2 | (rw [Nat.add_assoc]; exact q1_2)
        have q2_0 := hcells2 _ _ (ceCells_get hy).1
        have q2_0 : wr.cell? ⟨b2, o2 + k * 3, none⟩ = some (.int .i64 y.kind) := by first | exact q2_0 | (rw [Nat.add_assoc]; exact q2_0)
        have q2_1 := hcells2 _ _ (ceCells_get hy).2.1
        have q2_1 : wr.cell? ⟨b2, o2 + k * 3 + 1, none⟩ = some (.string y.text) := by first | exact q2_1 | (rw [Nat.add_assoc]; exact q2_1)
        have q2_2 := hcells2 _ _ (ceCells_get hy).2.2
        have q2_2 : wr.cell? ⟨b2, o2 + k * 3 + 2, none⟩ = some (.string y.mark) := by first | exact q2_2 | (rw [Nat.add_assoc]; exact q2_2)
        have HD : Hid (eqL ceE l m = (ceE x y && eqL ceE (l.drop (k + 1)) (m.drop (k + 1)))) := Lib.hid (by
          obtain ⟨hl1, e1⟩ := List.getElem?_eq_some_iff.1 hx
          obtain ⟨hl2, e2⟩ := List.getElem?_eq_some_iff.1 hy
          rw [HK.out, List.drop_eq_getElem_cons hl1, List.drop_eq_getElem_cons hl2, e1, e2]; rfl)
        clear HK hx hy hcells1 hcells2
        cases e0 : (x.kind == y.kind) with
        | false =>
          have HZ : Hid (eqL ceE l m = false) := Lib.hid (by rw [HD.out]; simp only [ceE, e0]; rfl)
          clear HD
          go_wp2_with fail
          go_quiet (fail)
          go_wp2_with fail
          go_ret
          exact ⟨ret_bool HZ.out.symm, drew_more HQ.out nq⟩
        | true =>
          cases e1 : (x.text.toList == y.text.toList) with
          | false =>
            have HZ : Hid (eqL ceE l m = false) := Lib.hid (by rw [HD.out]; simp only [ceE, e0, e1]; rfl)
            clear HD
            go_wp2_with fail
            go_quiet (fail)
            go_wp2_with fail
            go_ret
            exact ⟨ret_bool HZ.out.symm, drew_more HQ.out nq⟩
          | true =>
            cases e2 : (x.mark.toList == y.mark.toList) with
            | false =>
              have HZ : Hid (eqL ceE l m = false) := Lib.hid (by rw [HD.out]; simp only [ceE, e0, e1, e2]; rfl)
              clear HD
              go_wp2_with fail
              go_quiet (fail)
              go_wp2_with fail
              go_ret
              exact ⟨ret_bool HZ.out.symm, drew_more HQ.out nq⟩
            | true =>
              have HZ : Hid (eqL ceE l m = eqL ceE (l.drop (k + 1)) (m.drop (k + 1))) := Lib.hid (by rw [HD.out]; simp only [ceE, e0, e1, e2]; rfl)
              clear HD
              go_wp2_with fail
              go_quiet (fail)
              go_wp2_with fail
              go_roundw
              case rel => exact ⟨k + 1, by omega, by go_num, Lib.hid (drew_more HQ.out nq), HZ⟩
              case measure => simp [intOf]; omega
      · have HZ : Hid (eqL ceE l m = true) := Lib.hid (by rw [HK.out, List.drop_eq_nil_of_le (by have := HL1.out; omega), List.drop_eq_nil_of_le (by have := HL2.out; omega)]; rfl)
        clear HK
        go_wp2_with fail
        go_ret
        exact ⟨ret_bool HZ.out.symm, HQ.out⟩
  · have d0 : ((n : Int) != (n' : Int)) = true := by rw [bne_iff_ne]; omega
    have HZ : Hid (eqL ceE l m = false) := Lib.hid (eqL_len _ (by have := HL1.out; have := HL2.out; omega))
    clear hne
    go_enter Try.func29, Try.ntmps29
    go_wp2_with fail
    go_ret
    exact ⟨ret_bool HZ.out.symm, 0, rfl⟩
set_option maxHeartbeats 1600000 in
theorem refTexts_any (w : World) (lo hi lo' hi' : Nat) (A A' : Option Addr) (n c n' c' : Nat) (l m : List ByteArray) (h1 : Row w lo hi 1 A n c (strCells l)) (h2 : Row w lo' hi' 1 A' n' c' (strCells m)) :
    Calls Try.prog 13 #[.slice A n c, .slice A' n' c'] w (DrewV w (.bool (eqL strE l m))) := by
  have hl1 : l.length = n := by have := h1.1; rw [strCells_length] at this; omega
  have hl2 : m.length = n' := by have := h2.1; rw [strCells_length] at this; omega
  have HL1 := Lib.hid hl1
  have HL2 := Lib.hid hl2
  have hc := h1.2.2.1
  have hnc := h1.2.1
  have hc' := h2.2.2.1
  have hnc' := h2.2.1
  unfold maxLen at hc hc'
  clear hl1 hl2
  by_cases hne : n = n'
  · have d0 : ((n : Int) != (n' : Int)) = false := by rw [bne_eq_false_iff_eq]; omega
    subst hne
    go_enter Try.func13, Try.ntmps13
    go_wp2_with fail
    go_loopw [5] (fun i wr => ∃ k : Nat, k ≤ n ∧ i = .int .i64 k ∧ Hid (∃ q, wr = w.drewN q) ∧ Hid (eqL strE l m = eqL strE (l.drop k) (m.drop k))) (fun i _ => n - (intOf i).toNat)
    case atStart => exact ⟨0, by omega, rfl, Lib.hid ⟨0, rfl⟩, Lib.hid rfl⟩
    case round =>
      obtain ⟨k, hk, rfl, HQ, HK⟩ := hrel
      by_cases hlt : k < n
      · obtain ⟨b1, o1, rfl, _, _, hcells1⟩ := (h1.below (drew_below HQ.out)).at_ (by omega)
        obtain ⟨b2, o2, rfl, _, _, hcells2⟩ := (h2.below (drew_below HQ.out)).at_ (by omega)
        obtain ⟨x, hx⟩ : ∃ x, l[k]? = some x := ⟨l[k]'(by have := HL1.out; omega), List.getElem?_eq_getElem _⟩
        obtain ⟨y, hy⟩ : ∃ y, m[k]? = some y := ⟨m[k]'(by have := HL2.out; omega), List.getElem?_eq_getElem _⟩
        have q1 := hcells1 k _ (strCells_get hx)
        have q2 := hcells2 k _ (strCells_get hy)
        have HD : Hid (eqL strE l m = (strE x y && eqL strE (l.drop (k + 1)) (m.drop (k + 1)))) := Lib.hid (by
          obtain ⟨hl1, e1⟩ := List.getElem?_eq_some_iff.1 hx
          obtain ⟨hl2, e2⟩ := List.getElem?_eq_some_iff.1 hy
          rw [HK.out, List.drop_eq_getElem_cons hl1, List.drop_eq_getElem_cons hl2, e1, e2]; rfl)
        clear HK hx hy hcells1 hcells2
        cases e0 : (x.toList == y.toList) with
        | false =>
          have HZ : Hid (eqL strE l m = false) := Lib.hid (by rw [HD.out]; simp only [strE, e0]; rfl)
          clear HD
          have d1 : (x.toList != y.toList) = true := by unfold bne; rw [e0]; rfl
          go_wp2_with fail
          go_quiet (fail)
          go_wp2_with fail
          go_ret
          exact ⟨ret_bool HZ.out.symm, drew_more HQ.out nq⟩
        | true =>
          have HZ : Hid (eqL strE l m = eqL strE (l.drop (k + 1)) (m.drop (k + 1))) := Lib.hid (by rw [HD.out]; simp only [strE, e0]; rfl)
          clear HD
          have d1 : (x.toList != y.toList) = false := by unfold bne; rw [e0]; rfl
          go_wp2_with fail
          go_quiet (fail)
          go_wp2_with fail
          go_roundw
          case rel => exact ⟨k + 1, by omega, by go_num, Lib.hid (drew_more HQ.out nq), HZ⟩
          case measure => simp [intOf]; omega
      · have HZ : Hid (eqL strE l m = true) := Lib.hid (by rw [HK.out, List.drop_eq_nil_of_le (by have := HL1.out; omega), List.drop_eq_nil_of_le (by have := HL2.out; omega)]; rfl)
        clear HK
        go_wp2_with fail
        go_ret
        exact ⟨ret_bool HZ.out.symm, HQ.out⟩
  · have d0 : ((n : Int) != (n' : Int)) = true := by rw [bne_iff_ne]; omega
    have HZ : Hid (eqL strE l m = false) := Lib.hid (eqL_len _ (by have := HL1.out; have := HL2.out; omega))
    clear hne
    go_enter Try.func13, Try.ntmps13
    go_wp2_with fail
    go_ret
    exact ⟨ret_bool HZ.out.symm, 0, rfl⟩
set_option maxHeartbeats 1600000 in
theorem refInts4_any (w : World) (lo hi lo' hi' : Nat) (A A' : Option Addr) (n c n' c' : Nat) (l m : List Int) (h1 : Row w lo hi 1 A n c (intCells l)) (h2 : Row w lo' hi' 1 A' n' c' (intCells m)) :
    Calls Try.prog 45 #[.slice A n c, .slice A' n' c'] w (DrewV w (.bool (eqL intE l m))) := by
  have hl1 : l.length = n := by have := h1.1; rw [intCells_length] at this; omega
  have hl2 : m.length = n' := by have := h2.1; rw [intCells_length] at this; omega
  have HL1 := Lib.hid hl1
  have HL2 := Lib.hid hl2
  have hc := h1.2.2.1
  have hnc := h1.2.1
  have hc' := h2.2.2.1
  have hnc' := h2.2.1
  unfold maxLen at hc hc'
  clear hl1 hl2
  by_cases hne : n = n'
  · have d0 : ((n : Int) != (n' : Int)) = false := by rw [bne_eq_false_iff_eq]; omega
    subst hne
    go_enter Try.func45, Try.ntmps45
    go_wp2_with fail
    go_loopw [5] (fun i wr => ∃ k : Nat, k ≤ n ∧ i = .int .i64 k ∧ Hid (∃ q, wr = w.drewN q) ∧ Hid (eqL intE l m = eqL intE (l.drop k) (m.drop k))) (fun i _ => n - (intOf i).toNat)
    case atStart => exact ⟨0, by omega, rfl, Lib.hid ⟨0, rfl⟩, Lib.hid rfl⟩
    case round =>
      obtain ⟨k, hk, rfl, HQ, HK⟩ := hrel
      by_cases hlt : k < n
      · obtain ⟨b1, o1, rfl, _, _, hcells1⟩ := (h1.below (drew_below HQ.out)).at_ (by omega)
        obtain ⟨b2, o2, rfl, _, _, hcells2⟩ := (h2.below (drew_below HQ.out)).at_ (by omega)
        obtain ⟨x, hx⟩ : ∃ x, l[k]? = some x := ⟨l[k]'(by have := HL1.out; omega), List.getElem?_eq_getElem _⟩
        obtain ⟨y, hy⟩ : ∃ y, m[k]? = some y := ⟨m[k]'(by have := HL2.out; omega), List.getElem?_eq_getElem _⟩
        have q1 := hcells1 k _ (intCells_get hx)
        have q2 := hcells2 k _ (intCells_get hy)
        have HD : Hid (eqL intE l m = (intE x y && eqL intE (l.drop (k + 1)) (m.drop (k + 1)))) := Lib.hid (by
          obtain ⟨hl1, e1⟩ := List.getElem?_eq_some_iff.1 hx
          obtain ⟨hl2, e2⟩ := List.getElem?_eq_some_iff.1 hy
          rw [HK.out, List.drop_eq_getElem_cons hl1, List.drop_eq_getElem_cons hl2, e1, e2]; rfl)
        clear HK hx hy hcells1 hcells2
        cases e0 : (x == y) with
        | false =>
          have HZ : Hid (eqL intE l m = false) := Lib.hid (by rw [HD.out]; simp only [intE, e0]; rfl)
          clear HD
          have d1 : (x != y) = true := by unfold bne; rw [e0]; rfl
          go_wp2_with fail
          go_quiet (fail)
          go_wp2_with fail
          go_ret
          exact ⟨ret_bool HZ.out.symm, drew_more HQ.out nq⟩
        | true =>
          have HZ : Hid (eqL intE l m = eqL intE (l.drop (k + 1)) (m.drop (k + 1))) := Lib.hid (by rw [HD.out]; simp only [intE, e0]; rfl)
          clear HD
          have d1 : (x != y) = false := by unfold bne; rw [e0]; rfl
          go_wp2_with fail
          go_quiet (fail)
          go_wp2_with fail
          go_roundw
          case rel => exact ⟨k + 1, by omega, by go_num, Lib.hid (drew_more HQ.out nq), HZ⟩
          case measure => simp [intOf]; omega
      · have HZ : Hid (eqL intE l m = true) := Lib.hid (by rw [HK.out, List.drop_eq_nil_of_le (by have := HL1.out; omega), List.drop_eq_nil_of_le (by have := HL2.out; omega)]; rfl)
        clear HK
        go_wp2_with fail
        go_ret
        exact ⟨ret_bool HZ.out.symm, HQ.out⟩
  · have d0 : ((n : Int) != (n' : Int)) = true := by rw [bne_iff_ne]; omega
    have HZ : Hid (eqL intE l m = false) := Lib.hid (eqL_len _ (by have := HL1.out; have := HL2.out; omega))
    clear hne
    go_enter Try.func45, Try.ntmps45
    go_wp2_with fail
    go_ret
    exact ⟨ret_bool HZ.out.symm, 0, rfl⟩
end Go.Proofs.Ytbnjblejbnapgaa
namespace Go.Proofs.Ytbnjblejbnapgaa
open Go Go.RowKit Go.Sort
set_option linter.unusedVariables false
set_option maxRecDepth 100000 in
set_option maxHeartbeats 6400000 in
theorem refSides_any (w : World) (hi : Nat) (S S' : Sl) (l m : List (SideD × Sl)) (h : GRow sideC SideIn 4 w 0 hi S l) (h' : GRow sideC SideIn 4 w 0 hi S' m) (hh : hi ≤ w.heap.size) :
    Calls Try.prog 27 #[.slice S.A S.n S.c, .slice S'.A S'.n S'.c] w (Ret w (.bool (eqL sideEM l m))) := by
  obtain ⟨A, n, c⟩ := S
  obtain ⟨A', n', c'⟩ := S'
  have hc := h.row.2.2.1
  have hnc := h.row.2.1
  have HL1 := Lib.hid h.n
  have hc' := h'.row.2.2.1
  have hnc' := h'.row.2.1
  have HL2 := Lib.hid h'.n
  simp only at hc hnc hc' hnc' HL1 HL2 ⊢
  unfold maxLen at hc hc'
  have HH1 := Lib.hid h
  have HH2 := Lib.hid h'
  clear h h'
  by_cases e2 : n = n'
  · have d2 : ((n : Int) != (n' : Int)) = false := by rw [bne_eq_false_iff_eq]; omega
    subst e2
    go_enter Try.func27, Try.ntmps27
    go_wp2_with fail
    go_loopw [5] (fun i wr => ∃ k : Nat, k ≤ n ∧ i = .int .i64 k ∧ Below w.heap.size w wr ∧ Hid (eqL sideEM l m = eqL sideEM (l.drop k) (m.drop k))) (fun i _ => n - (intOf i).toNat)
    case atStart => exact ⟨0, by omega, rfl, Below.refl _ _, Lib.hid rfl⟩
    case round =>
      obtain ⟨k, hk, rfl, hbel, HK⟩ := hrel
      have HB := Lib.hid hbel
      have hwz := hbel.size
      by_cases hlt : k < n
      · obtain ⟨b1, o1, hA1, _, hb1, V1⟩ := HH1.out.at_ (fun _ => rfl) (show 0 < n by omega)
        obtain ⟨b2, o2, hA2, _, hb2', V2⟩ := HH2.out.at_ (fun _ => rfl) (show 0 < n by omega)
        simp only at hA1 hA2
        subst hA1 hA2
        obtain ⟨x, hx⟩ : ∃ x, l[k]? = some x := ⟨l[k]'(by have := HL1.out; omega), List.getElem?_eq_getElem _⟩
        obtain ⟨y, hy⟩ : ∃ y, m[k]? = some y := ⟨m[k]'(by have := HL2.out; omega), List.getElem?_eq_getElem _⟩
        obtain ⟨hlf1, hat1⟩ := V1 k x hx
        obtain ⟨hlf2, hat2⟩ := V2 k y hy
        have a1_0 : wr.cell? ⟨b1, o1 + k * 4, none⟩ = some (.int .i64 x.1.kind) := (hbel.cell (p := ⟨_, _, none⟩) (show b1 < w.heap.size by omega)).trans (hat1 0 _ (by omega) rfl)
        have a1_1 : wr.cell? ⟨b1, o1 + k * 4 + 1, none⟩ = some (.string x.1.name) := (hbel.cell (p := ⟨_, _, none⟩) (show b1 < w.heap.size by omega)).trans (hat1 1 _ (by omega) rfl)
        have a1_2 : wr.cell? ⟨b1, o1 + k * 4 + 2, none⟩ = some (.int .i64 x.1.num) := (hbel.cell (p := ⟨_, _, none⟩) (show b1 < w.heap.size by omega)).trans (hat1 2 _ (by omega) rfl)
        have a1_3 : wr.cell? ⟨b1, o1 + k * 4 + 3, none⟩ = some (.slice x.2.A x.2.n x.2.c) := (hbel.cell (p := ⟨_, _, none⟩) (show b1 < w.heap.size by omega)).trans (hat1 3 _ (by omega) rfl)
        have a2_0 : wr.cell? ⟨b2, o2 + k * 4, none⟩ = some (.int .i64 y.1.kind) := (hbel.cell (p := ⟨_, _, none⟩) (show b2 < w.heap.size by omega)).trans (hat2 0 _ (by omega) rfl)
        have a2_1 : wr.cell? ⟨b2, o2 + k * 4 + 1, none⟩ = some (.string y.1.name) := (hbel.cell (p := ⟨_, _, none⟩) (show b2 < w.heap.size by omega)).trans (hat2 1 _ (by omega) rfl)
        have a2_2 : wr.cell? ⟨b2, o2 + k * 4 + 2, none⟩ = some (.int .i64 y.1.num) := (hbel.cell (p := ⟨_, _, none⟩) (show b2 < w.heap.size by omega)).trans (hat2 2 _ (by omega) rfl)
        have a2_3 : wr.cell? ⟨b2, o2 + k * 4 + 3, none⟩ = some (.slice y.2.A y.2.n y.2.c) := (hbel.cell (p := ⟨_, _, none⟩) (show b2 < w.heap.size by omega)).trans (hat2 3 _ (by omega) rfl)
        have HD : Hid (eqL sideEM l m = (sideEM x y && eqL sideEM (l.drop (k + 1)) (m.drop (k + 1)))) := Lib.hid (by
          obtain ⟨hl1, e1⟩ := List.getElem?_eq_some_iff.1 hx
          obtain ⟨hl2, e2⟩ := List.getElem?_eq_some_iff.1 hy
          rw [HK.out, List.drop_eq_getElem_cons hl1, List.drop_eq_getElem_cons hl2, e1, e2]; rfl)
        have hS : ∀ d os, Calls Try.prog 45 #[.slice x.2.A x.2.n x.2.c, .slice y.2.A y.2.n y.2.c] (grow (redrawn wr d) os) (Ret (grow (redrawn wr d) os) (.bool (eqL intE x.1.args y.1.args))) := fun d os =>
          (refInts4_any _ 0 hi 0 hi _ _ _ _ _ _ _ _ (Row.below (Row.below hlf1.a (hbel.mono hh)) ((below_regrown wr d os).mono (by omega))) (Row.below (Row.below hlf2.a (hbel.mono hh)) ((below_regrown wr d os).mono (by omega)))).mono fun _ _ => ret_of_drew
        have HE : Hid (sideEM x y = ((x.1.kind == y.1.kind) && (x.1.name.toList == y.1.name.toList) && (x.1.num == y.1.num) && eqL intE x.1.args y.1.args)) := Lib.hid rfl
        obtain ⟨r, hr⟩ : ∃ b, eqL intE x.1.args y.1.args = b := ⟨_, rfl⟩
        obtain ⟨rr, hrr⟩ : ∃ b, sideEM x y = b := ⟨_, rfl⟩
        rw [hr] at hS HE
        rw [hrr] at HD HE
        clear hr hrr hx hy V1 V2 hlf1 hlf2 hat1 hat2 HK
        obtain ⟨x, ⟨Aa1, na1, ca1⟩⟩ := x
        obtain ⟨y, ⟨Aa2, na2, ca2⟩⟩ := y
        simp only at hS HE a1_0 a1_1 a1_2 a1_3 a2_0 a2_1 a2_2 a2_3
        have HS := Lib.hid hS
        have u1_0 := cell_regrown a1_0
        have u1_1 := cell_regrown a1_1
        have u1_2 := cell_regrown a1_2
        have u1_3 := cell_regrown a1_3
        have u2_0 := cell_regrown a2_0
        have u2_1 := cell_regrown a2_1
        have u2_2 := cell_regrown a2_2
        have u2_3 := cell_regrown a2_3
        clear hS hbel a1_0 a1_1 a1_2 a1_3 a2_0 a2_1 a2_2 a2_3
        cases e0 : (x.kind == y.kind) with
        | false =>
          have m0 : (x.kind != y.kind) = true := by unfold bne; rw [e0]; rfl
          have HZ : Hid (eqL sideEM l m = false) := Lib.hid (by rw [HD.out, HE.out, e0]; simp)
          clear HD HE
          go_wp2_with fail
          refine wp_region_quiet_below (by kernel_rfl) (by kernel_rfl) ?_
          repeat (go_big_quiet_step ((go_at_call 45; exact regrown_ret (HS.out _ _))))
          refine wpQuiet_nil ?_
          intro _ hw'
          obtain ⟨⟨dq, osq⟩, hw''⟩ := hw'
          subst hw''
          have hb2 := below_regrown wr dq osq
          generalize grow (redrawn wr dq) osq = w2 at hb2 ⊢
          have HB2 := Lib.hid (HB.out.trans (hb2.mono hwz))
          clear hb2 u1_0 u1_1 u1_2 u1_3 u2_0 u2_1 u2_2 u2_3
          go_wp2_with fail
          go_ret
          exact ret_b HZ.out rfl HB2.out
        | true =>
          have m0 : (x.kind != y.kind) = false := by unfold bne; rw [e0]; rfl
          cases e1 : (x.name.toList == y.name.toList) with
          | false =>
            have m1 : (x.name.toList != y.name.toList) = true := by unfold bne; rw [e1]; rfl
            have HZ : Hid (eqL sideEM l m = false) := Lib.hid (by rw [HD.out, HE.out, e1]; simp)
            clear HD HE
            go_wp2_with fail
            refine wp_region_quiet_below (by kernel_rfl) (by kernel_rfl) ?_
            repeat (go_big_quiet_step ((go_at_call 45; exact regrown_ret (HS.out _ _))))
            refine wpQuiet_nil ?_
            intro _ hw'
            obtain ⟨⟨dq, osq⟩, hw''⟩ := hw'
            subst hw''
            have hb2 := below_regrown wr dq osq
            generalize grow (redrawn wr dq) osq = w2 at hb2 ⊢
            have HB2 := Lib.hid (HB.out.trans (hb2.mono hwz))
            clear hb2 u1_0 u1_1 u1_2 u1_3 u2_0 u2_1 u2_2 u2_3
            go_wp2_with fail
            go_ret
            exact ret_b HZ.out rfl HB2.out
          | true =>
            have m1 : (x.name.toList != y.name.toList) = false := by unfold bne; rw [e1]; rfl
            cases e2 : (x.num == y.num) with
            | false =>
              have m2 : (x.num != y.num) = true := by unfold bne; rw [e2]; rfl
              have HZ : Hid (eqL sideEM l m = false) := Lib.hid (by rw [HD.out, HE.out, e2]; simp)
              clear HD HE
              go_wp2_with fail
              refine wp_region_quiet_below (by kernel_rfl) (by kernel_rfl) ?_
              repeat (go_big_quiet_step ((go_at_call 45; exact regrown_ret (HS.out _ _))))
              refine wpQuiet_nil ?_
              intro _ hw'
              obtain ⟨⟨dq, osq⟩, hw''⟩ := hw'
              subst hw''
              have hb2 := below_regrown wr dq osq
              generalize grow (redrawn wr dq) osq = w2 at hb2 ⊢
              have HB2 := Lib.hid (HB.out.trans (hb2.mono hwz))
              clear hb2 u1_0 u1_1 u1_2 u1_3 u2_0 u2_1 u2_2 u2_3
              go_wp2_with fail
              go_ret
              exact ret_b HZ.out rfl HB2.out
            | true =>
              have m2 : (x.num != y.num) = false := by unfold bne; rw [e2]; rfl
              cases r with
              | false =>
                have HZ : Hid (eqL sideEM l m = false) := Lib.hid (by rw [HD.out, HE.out]; simp)
                clear HD HE
                go_wp2_with fail
                refine wp_region_quiet_below (by kernel_rfl) (by kernel_rfl) ?_
                repeat (go_big_quiet_step ((go_at_call 45; exact regrown_ret (HS.out _ _))))
                refine wpQuiet_nil ?_
                intro _ hw'
                obtain ⟨⟨dq, osq⟩, hw''⟩ := hw'
                subst hw''
                have hb2 := below_regrown wr dq osq
                generalize grow (redrawn wr dq) osq = w2 at hb2 ⊢
                have HB2 := Lib.hid (HB.out.trans (hb2.mono hwz))
                clear hb2 u1_0 u1_1 u1_2 u1_3 u2_0 u2_1 u2_2 u2_3
                go_wp2_with fail
                go_ret
                exact ret_b HZ.out rfl HB2.out
              | true =>
                have HZ : Hid (eqL sideEM l m = eqL sideEM (l.drop (k + 1)) (m.drop (k + 1))) := Lib.hid (by rw [HD.out, HE.out, e0, e1, e2]; rfl)
                clear HD HE
                go_wp2_with fail
                refine wp_region_quiet_below (by kernel_rfl) (by kernel_rfl) ?_
                repeat (go_big_quiet_step ((go_at_call 45; exact regrown_ret (HS.out _ _))))
                refine wpQuiet_nil ?_
                intro _ hw'
                obtain ⟨⟨dq, osq⟩, hw''⟩ := hw'
                subst hw''
                have hb2 := below_regrown wr dq osq
                generalize grow (redrawn wr dq) osq = w2 at hb2 ⊢
                have HB2 := Lib.hid (HB.out.trans (hb2.mono hwz))
                clear hb2 u1_0 u1_1 u1_2 u1_3 u2_0 u2_1 u2_2 u2_3
                go_wp2_with fail
                go_roundw
                case rel => exact ⟨k + 1, by omega, by go_num, HB2.out, HZ⟩
                case measure => simp [intOf]; omega
      · have HZ : Hid (eqL sideEM l m = true) := Lib.hid (by rw [HK.out, List.drop_eq_nil_of_le (by have := HL1.out; omega), List.drop_eq_nil_of_le (by have := HL2.out; omega)]; rfl)
        clear HK hbel
        go_wp2_with fail
        go_ret
        exact ret_b HZ.out rfl HB.out
  · have d2 : ((n : Int) != (n' : Int)) = true := by rw [bne_iff_ne]; omega
    have HZ : Hid (eqL sideEM l m = false) := Lib.hid (eqL_len sideEM (by have := HL1.out; have := HL2.out; omega))
    clear e2
    go_enter Try.func27, Try.ntmps27
    go_wp2_with fail
    go_ret
    exact ret_b HZ.out rfl (Below.refl _ _)
end Go.Proofs.Ytbnjblejbnapgaa
namespace Go.Proofs.Ytbnjblejbnapgaa
open Go Go.RowKit Go.Sort
set_option linter.unusedVariables false
theorem drew1_below (w : World) : Below w.heap.size w w.drew := ⟨rfl, rfl, rfl, Nat.le_refl _, fun _ _ => rfl⟩
theorem lay2 {Y0 X : World} {g : Nat} {t : TypeId} {v0 v1 : Value} (hb : Below Y0.heap.size Y0 X) (hg : Blk X g t #[v0, v1]) (hle : Y0.heap.size ≤ g) (u0 u1 : Value) :
    Below Y0.heap.size Y0 ((X.setCell ⟨g, 0, none⟩ u0).setCell ⟨g, 1, none⟩ u1) ∧ Blk ((X.setCell ⟨g, 0, none⟩ u0).setCell ⟨g, 1, none⟩ u1) g t #[u0, u1] ∧ ∀ g' t' cs', g' ≠ g → Blk X g' t' cs' → Blk ((X.setCell ⟨g, 0, none⟩ u0).setCell ⟨g, 1, none⟩ u1) g' t' cs' := by
  have g0 := hg.set_ 0 u0
  have g1 := g0.set_ 1 u1
  exact ⟨((hb.setCell (p := ⟨g, 0, none⟩) hle u0).setCell (p := ⟨g, 1, none⟩) hle u1), by simpa using g1, fun g' t' cs' hne h => ((h.far (p := ⟨g, 0, none⟩) hne u0).far (p := ⟨g, 1, none⟩) hne u1)⟩
theorem lay3 {Y0 X : World} {g : Nat} {t : TypeId} {v0 v1 v2 : Value} (hb : Below Y0.heap.size Y0 X) (hg : Blk X g t #[v0, v1, v2]) (hle : Y0.heap.size ≤ g) (u0 u1 u2 : Value) :
    Below Y0.heap.size Y0 (((X.setCell ⟨g, 0, none⟩ u0).setCell ⟨g, 1, none⟩ u1).setCell ⟨g, 2, none⟩ u2) ∧ Blk (((X.setCell ⟨g, 0, none⟩ u0).setCell ⟨g, 1, none⟩ u1).setCell ⟨g, 2, none⟩ u2) g t #[u0, u1, u2] ∧ ∀ g' t' cs', g' ≠ g → Blk X g' t' cs' → Blk (((X.setCell ⟨g, 0, none⟩ u0).setCell ⟨g, 1, none⟩ u1).setCell ⟨g, 2, none⟩ u2) g' t' cs' := by
  have g0 := hg.set_ 0 u0
  have g1 := g0.set_ 1 u1
  have g2 := g1.set_ 2 u2
  exact ⟨(((hb.setCell (p := ⟨g, 0, none⟩) hle u0).setCell (p := ⟨g, 1, none⟩) hle u1).setCell (p := ⟨g, 2, none⟩) hle u2), by simpa using g2, fun g' t' cs' hne h => (((h.far (p := ⟨g, 0, none⟩) hne u0).far (p := ⟨g, 1, none⟩) hne u1).far (p := ⟨g, 2, none⟩) hne u2)⟩
end Go.Proofs.Ytbnjblejbnapgaa

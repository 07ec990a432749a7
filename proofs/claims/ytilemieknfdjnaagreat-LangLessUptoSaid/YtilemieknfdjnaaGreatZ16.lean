/-
  WALKS: the program: sides and equations are the same.
  WALKS: two lists of flat elements are the same.
  WALKS: two lists of flat elements are the same.
  WALKS: two lists of flat elements are the same.
-/
import Derived.Test.YtilemieknfdjnaaGreatZ15
namespace Go.Proofs.YtilemieknfdjnaaGreat
open Go Go.RowKit Go.Sort
set_option linter.unusedVariables false
set_option maxHeartbeats 1600000 in
theorem eqInts_any (w : World) (lo hi lo' hi' : Nat) (A A' : Option Addr) (n c n' c' : Nat) (l m : List Int) (h1 : Row w lo hi 1 A n c (intCells l)) (h2 : Row w lo' hi' 1 A' n' c' (intCells m)) :
    Calls Tryz.prog 113 #[.slice A n c, .slice A' n' c'] w (DrewV w (.bool (eqL intE l m))) := by
  have hl1 : l.length = n := by have := h1.1; rw [intCells_length] at this; omega
  have hl2 : m.length = n' := by have := h2.1; rw [intCells_length] at this; omega
  have HL1 := Lib.hid hl1
  have HL2 := Lib.hid hl2
  have hc := h1.2.2.1
  have hnc := h1.2.1
  have hc' := h2.2.2.1
  have hnc' := h2.2.1
  unfold maxLen at hc hc'
  clear hl1 hl2
  by_cases hne : n = n'
  · have d0 : ((n : Int) != (n' : Int)) = false := by rw [bne_eq_false_iff_eq]; omega
    subst hne
    go_enter Tryz.func113, Tryz.ntmps113
    go_wp2_with fail
    go_loopw [13] (fun i wr => ∃ k : Nat, k ≤ n ∧ i = .int .i64 k ∧ Hid (∃ q, wr = w.drewN q) ∧ Hid (eqL intE l m = eqL intE (l.drop k) (m.drop k))) (fun i _ => n - (intOf i).toNat)
    case atStart => exact ⟨0, by omega, rfl, Lib.hid ⟨0, rfl⟩, Lib.hid rfl⟩
    case round =>
      obtain ⟨k, hk, rfl, HQ, HK⟩ := hrel
      by_cases hlt : k < n
      · obtain ⟨b1, o1, rfl, _, _, hcells1⟩ := (h1.below (drew_below HQ.out)).at_ (by omega)
        obtain ⟨b2, o2, rfl, _, _, hcells2⟩ := (h2.below (drew_below HQ.out)).at_ (by omega)
        obtain ⟨x, hx⟩ : ∃ x, l[k]? = some x := ⟨l[k]'(by have := HL1.out; omega), List.getElem?_eq_getElem _⟩
        obtain ⟨y, hy⟩ : ∃ y, m[k]? = some y := ⟨m[k]'(by have := HL2.out; omega), List.getElem?_eq_getElem _⟩
        have q1 := hcells1 k _ (intCells_get hx)
        have q2 := hcells2 k _ (intCells_get hy)
        have HD : Hid (eqL intE l m = (intE x y && eqL intE (l.drop (k + 1)) (m.drop (k + 1)))) := Lib.hid (by
          obtain ⟨hl1, e1⟩ := List.getElem?_eq_some_iff.1 hx
          obtain ⟨hl2, e2⟩ := List.getElem?_eq_some_iff.1 hy
          rw [HK.out, List.drop_eq_getElem_cons hl1, List.drop_eq_getElem_cons hl2, e1, e2]; rfl)
        clear HK hx hy hcells1 hcells2
        cases e0 : (x == y) with
        | false =>
          have HZ : Hid (eqL intE l m = false) := Lib.hid (by rw [HD.out]; simp only [intE, e0]; rfl)
          clear HD
          have d1 : (x != y) = true := by unfold bne; rw [e0]; rfl
          go_wp2_with fail
          go_quiet (fail)
          go_wp2_with fail
          go_ret
          exact ⟨ret_bool HZ.out.symm, drew_more HQ.out nq⟩
        | true =>
          have HZ : Hid (eqL intE l m = eqL intE (l.drop (k + 1)) (m.drop (k + 1))) := Lib.hid (by rw [HD.out]; simp only [intE, e0]; rfl)
          clear HD
          have d1 : (x != y) = false := by unfold bne; rw [e0]; rfl
          go_wp2_with fail
          go_quiet (fail)
          go_wp2_with fail
          go_roundw
          case rel => exact ⟨k + 1, by omega, by go_num, Lib.hid (drew_more HQ.out nq), HZ⟩
          case measure => simp [intOf]; omega
      · have HZ : Hid (eqL intE l m = true) := Lib.hid (by rw [HK.out, List.drop_eq_nil_of_le (by have := HL1.out; omega), List.drop_eq_nil_of_le (by have := HL2.out; omega)]; rfl)
        clear HK
        go_wp2_with fail
        go_ret
        exact ⟨ret_bool HZ.out.symm, HQ.out⟩
  · have d0 : ((n : Int) != (n' : Int)) = true := by rw [bne_iff_ne]; omega
    have HZ : Hid (eqL intE l m = false) := Lib.hid (eqL_len _ (by have := HL1.out; have := HL2.out; omega))
    clear hne
    go_enter Tryz.func113, Tryz.ntmps113
    go_wp2_with fail
    go_ret
    exact ⟨ret_bool HZ.out.symm, 0, rfl⟩
set_option maxRecDepth 100000 in
set_option maxHeartbeats 6400000 in
theorem same_side_any (w : World) (hi : Nat) (x y : SideD × Sl) (hx : SideIn w 0 hi x) (hy : SideIn w 0 hi y) (hh : hi ≤ w.heap.size) :
    Calls Tryz.prog 82 #[.agg #[.int .i64 x.1.kind, .string x.1.name, .int .i64 x.1.num, .slice x.2.A x.2.n x.2.c], .agg #[.int .i64 y.1.kind, .string y.1.name, .int .i64 y.1.num, .slice y.2.A y.2.n y.2.c]] w (Ret w (.bool (sideEM x y))) := by
  obtain ⟨x1, ⟨Aa1, na1, ca1⟩⟩ := x
  obtain ⟨x2, ⟨Aa2, na2, ca2⟩⟩ := y
  obtain ⟨ian1, ia1⟩ := hx
  obtain ⟨ian2, ia2⟩ := hy
  simp only at ian1 ian2 ia1 ia2 ⊢
  have HW0 := Lib.hid (B2.start w 141 #[.int .i64 x1.kind, .string x1.name, .int .i64 x1.num, .slice Aa1 na1 ca1] #[.int .i64 x2.kind, .string x2.name, .int .i64 x2.num, .slice Aa2 na2 ca2])
  have HN : Hid (sideEM ⟨x1, ⟨Aa1, na1, ca1⟩⟩ ⟨x2, ⟨Aa2, na2, ca2⟩⟩ = ((x1.kind == x2.kind) && (x1.name.toList == x2.name.toList) && (x1.num == x2.num) && eqL intE x1.args x2.args)) := Lib.hid rfl
  obtain ⟨res, hres⟩ : ∃ b, sideEM ⟨x1, ⟨Aa1, na1, ca1⟩⟩ ⟨x2, ⟨Aa2, na2, ca2⟩⟩ = b := ⟨_, rfl⟩
  rw [hres] at HN ⊢
  have hE1 : ∀ w2, Below w.heap.size w w2 → Calls Tryz.prog 113 #[.slice Aa1 na1 ca1, .slice Aa2 na2 ca2] w2 (Ret w2 (.bool (eqL intE x1.args x2.args))) := fun w2 hb2 => (eqInts_any w2 0 hi 0 hi _ _ _ _ _ _ _ _ (ia1.below (hb2.mono hh)) (ia2.below (hb2.mono hh))).mono fun _ _ => ret_of_drew
  obtain ⟨e1, he1⟩ : ∃ b, eqL intE x1.args x2.args = b := ⟨_, rfl⟩
  rw [he1] at hE1 HN
  have HE1 := Lib.hid hE1
  clear hE1 he1
  clear ian1 ian2 ia1 ia2 hres
  cases d0 : (x1.kind == x2.kind) with
  | false =>
    have HZ : Hid (res = false) := Lib.hid (by rw [HN.out, d0]; simp)
    clear HN
    go_enter Tryz.func82, Tryz.ntmps82
    go_wp2_with fail
    go_ret
    exact ret_b (by exact HZ.out) rfl HW0.out.bel
  | true =>
    cases d1 : (x1.name.toList == x2.name.toList) with
    | false =>
      have HZ : Hid (res = false) := Lib.hid (by rw [HN.out, d1]; simp)
      clear HN
      go_enter Tryz.func82, Tryz.ntmps82
      go_wp2_with fail
      go_ret
      exact ret_b (by exact HZ.out) rfl HW0.out.bel
    | true =>
      cases d2 : (x1.num == x2.num) with
      | false =>
        have HZ : Hid (res = false) := Lib.hid (by rw [HN.out, d2]; simp)
        clear HN
        go_enter Tryz.func82, Tryz.ntmps82
        go_wp2_with fail
        go_ret
        exact ret_b (by exact HZ.out) rfl HW0.out.bel
      | true =>
        replace HN : Hid (res = (e1)) := Lib.hid (by rw [HN.out, d0, d1, d2]; simp only [Bool.true_and])
        cases e1 with
        | false =>
          go_enter Tryz.func82, Tryz.ntmps82
          go_wp2_with (first | (go_at_call 113; (with_reducible refine (HE1.out _ HW0.out.bel).mono ?_); rintro e w1 ⟨rfl, hb1⟩; obtain ⟨s1, t1⟩ := bcell hb1; have HB1 := Lib.hid (HW0.out.after hb1); have hz1 := HB1.out.size; have hz1' : w.heap.size < w1.heap.size := (by omega); clear hb1))
          go_ret
          exact ret_b (by exact HN.out) rfl HB1.out.bel
        | true =>
          go_enter Tryz.func82, Tryz.ntmps82
          go_wp2_with (first | (go_at_call 113; (with_reducible refine (HE1.out _ HW0.out.bel).mono ?_); rintro e w1 ⟨rfl, hb1⟩; obtain ⟨s1, t1⟩ := bcell hb1; have HB1 := Lib.hid (HW0.out.after hb1); have hz1 := HB1.out.size; have hz1' : w.heap.size < w1.heap.size := (by omega); clear hb1))
          go_ret
          exact ret_b (by exact HN.out) rfl HB1.out.bel
set_option maxRecDepth 100000 in
set_option maxHeartbeats 3200000 in
theorem eqf_side_any (w : World) (hi : Nat) (S S' : Sl) (l m : List (SideD × Sl)) (h : GRow sideC SideIn 4 w 0 hi S l) (h' : GRow sideC SideIn 4 w 0 hi S' m) (hh : hi ≤ w.heap.size) :
    Calls Tryz.prog 81 #[.slice S.A S.n S.c, .slice S'.A S'.n S'.c, .func (.func 82) #[] #[]] w (Ret w (.bool (eqL sideEM l m))) := by
  obtain ⟨A, n, c⟩ := S
  obtain ⟨A', n', c'⟩ := S'
  have hc := h.row.2.2.1
  have hnc := h.row.2.1
  have HL1 := Lib.hid h.n
  have hc' := h'.row.2.2.1
  have hnc' := h'.row.2.1
  have HL2 := Lib.hid h'.n
  simp only at hc hnc hc' hnc' HL1 HL2 ⊢
  unfold maxLen at hc hc'
  have HH1 := Lib.hid h
  have HH2 := Lib.hid h'
  clear h h'
  by_cases e2 : n = n'
  · have d2 : ((n : Int) != (n' : Int)) = false := by rw [bne_eq_false_iff_eq]; omega
    subst e2
    go_enter Tryz.func81, Tryz.ntmps81
    go_wp2_with fail
    go_loopw [17] (fun i wr => ∃ k : Nat, k ≤ n ∧ i = .int .i64 k ∧ Below w.heap.size w wr ∧ Hid (eqL sideEM l m = eqL sideEM (l.drop k) (m.drop k))) (fun i _ => n - (intOf i).toNat)
    case atStart => exact ⟨0, by omega, rfl, Below.refl _ _, Lib.hid rfl⟩
    case round =>
      obtain ⟨k, hk, rfl, hbel, HK⟩ := hrel
      have HB := Lib.hid hbel
      have hwz := hbel.size
      by_cases hlt : k < n
      · obtain ⟨b1, o1, hA1, _, hb1, V1⟩ := HH1.out.at_ (fun _ => rfl) (show 0 < n by omega)
        obtain ⟨b2, o2, hA2, _, hb2', V2⟩ := HH2.out.at_ (fun _ => rfl) (show 0 < n by omega)
        simp only at hA1 hA2
        subst hA1 hA2
        obtain ⟨x, hx⟩ : ∃ x, l[k]? = some x := ⟨l[k]'(by have := HL1.out; omega), List.getElem?_eq_getElem _⟩
        obtain ⟨y, hy⟩ : ∃ y, m[k]? = some y := ⟨m[k]'(by have := HL2.out; omega), List.getElem?_eq_getElem _⟩
        obtain ⟨hlf1, hat1⟩ := V1 k x hx
        obtain ⟨hlf2, hat2⟩ := V2 k y hy
        have a1_0 : wr.cell? ⟨b1, o1 + k * 4, none⟩ = some (.int .i64 x.1.kind) := (hbel.cell (p := ⟨_, _, none⟩) (show b1 < w.heap.size by omega)).trans (hat1 0 _ (by omega) rfl)
        have a1_1 : wr.cell? ⟨b1, o1 + k * 4 + 1, none⟩ = some (.string x.1.name) := (hbel.cell (p := ⟨_, _, none⟩) (show b1 < w.heap.size by omega)).trans (hat1 1 _ (by omega) rfl)
        have a1_2 : wr.cell? ⟨b1, o1 + k * 4 + 2, none⟩ = some (.int .i64 x.1.num) := (hbel.cell (p := ⟨_, _, none⟩) (show b1 < w.heap.size by omega)).trans (hat1 2 _ (by omega) rfl)
        have a1_3 : wr.cell? ⟨b1, o1 + k * 4 + 3, none⟩ = some (.slice x.2.A x.2.n x.2.c) := (hbel.cell (p := ⟨_, _, none⟩) (show b1 < w.heap.size by omega)).trans (hat1 3 _ (by omega) rfl)
        have a2_0 : wr.cell? ⟨b2, o2 + k * 4, none⟩ = some (.int .i64 y.1.kind) := (hbel.cell (p := ⟨_, _, none⟩) (show b2 < w.heap.size by omega)).trans (hat2 0 _ (by omega) rfl)
        have a2_1 : wr.cell? ⟨b2, o2 + k * 4 + 1, none⟩ = some (.string y.1.name) := (hbel.cell (p := ⟨_, _, none⟩) (show b2 < w.heap.size by omega)).trans (hat2 1 _ (by omega) rfl)
        have a2_2 : wr.cell? ⟨b2, o2 + k * 4 + 2, none⟩ = some (.int .i64 y.1.num) := (hbel.cell (p := ⟨_, _, none⟩) (show b2 < w.heap.size by omega)).trans (hat2 2 _ (by omega) rfl)
        have a2_3 : wr.cell? ⟨b2, o2 + k * 4 + 3, none⟩ = some (.slice y.2.A y.2.n y.2.c) := (hbel.cell (p := ⟨_, _, none⟩) (show b2 < w.heap.size by omega)).trans (hat2 3 _ (by omega) rfl)
        have HD : Hid (eqL sideEM l m = (sideEM x y && eqL sideEM (l.drop (k + 1)) (m.drop (k + 1)))) := Lib.hid (by
          obtain ⟨hl1, e1⟩ := List.getElem?_eq_some_iff.1 hx
          obtain ⟨hl2, e2⟩ := List.getElem?_eq_some_iff.1 hy
          rw [HK.out, List.drop_eq_getElem_cons hl1, List.drop_eq_getElem_cons hl2, e1, e2]; rfl)
        have hS : ∀ w2, Below wr.heap.size wr w2 → Calls Tryz.prog 82 #[.agg #[.int .i64 x.1.kind, .string x.1.name, .int .i64 x.1.num, .slice x.2.A x.2.n x.2.c], .agg #[.int .i64 y.1.kind, .string y.1.name, .int .i64 y.1.num, .slice y.2.A y.2.n y.2.c]] w2 (Ret w2 (.bool (sideEM x y))) := fun w2 hb2 =>
          same_side_any _ hi x y (sideK.below (sideK.below hlf1 (hbel.mono hh)) (hb2.mono (by omega))) (sideK.below (sideK.below hlf2 (hbel.mono hh)) (hb2.mono (by omega))) (by have := hb2.size; omega)
        obtain ⟨r, hr⟩ : ∃ b, sideEM x y = b := ⟨_, rfl⟩
        rw [hr] at HD hS
        clear hr hx hy V1 V2 hlf1 hlf2 hat1 hat2 HK
        obtain ⟨x1, ⟨Aa1, na1, ca1⟩⟩ := x
        obtain ⟨x2, ⟨Aa2, na2, ca2⟩⟩ := y
        simp only at hS a1_0 a1_1 a1_2 a1_3 a2_0 a2_1 a2_2 a2_3
        have HS := Lib.hid hS
        have hbl1 : b1 < wr.heap.size := by omega
        have hbl2 : b2 < wr.heap.size := by omega
        clear hS hbel
        have hbb := ((below_box wr (.cells #[.int .i64 x1.kind, .string x1.name, .int .i64 x1.num, .slice Aa1 na1 ca1] 141)).alloc (by simp) (.cells #[.int .i64 x2.kind, .string x2.name, .int .i64 x2.num, .slice Aa2 na2 ca2] 141))
        have HBB := Lib.hid hbb
        clear hbb
        cases r with
        | false =>
          have HZ : Hid (eqL sideEM l m = false) := Lib.hid (by rw [HD.out]; rfl)
          clear HD
          go_wp2_with (go_at_call 82; go_must (refine (HS.out _ HBB.out).mono ?_; rintro e w2 ⟨rfl, hb2⟩; have HB2 := Lib.hid (HBB.out.trans (hb2.mono (by simp; omega))); clear hb2))
          go_ret
          exact ret_b HZ.out rfl (HB.out.trans (HB2.out.mono hwz))
        | true =>
          have HZ : Hid (eqL sideEM l m = eqL sideEM (l.drop (k + 1)) (m.drop (k + 1))) := Lib.hid (by rw [HD.out]; rfl)
          clear HD
          go_wp2_with (go_at_call 82; go_must (refine (HS.out _ HBB.out).mono ?_; rintro e w2 ⟨rfl, hb2⟩; have HB2 := Lib.hid (HBB.out.trans (hb2.mono (by simp; omega))); clear hb2))
          go_roundw
          case rel => exact ⟨k + 1, by omega, by go_num, HB.out.trans (HB2.out.mono hwz), HZ⟩
          case measure => simp [intOf]; omega
      · have HZ : Hid (eqL sideEM l m = true) := Lib.hid (by rw [HK.out, List.drop_eq_nil_of_le (by have := HL1.out; omega), List.drop_eq_nil_of_le (by have := HL2.out; omega)]; rfl)
        clear HK hbel
        go_wp2_with fail
        go_ret
        exact ret_b HZ.out rfl HB.out
  · have d2 : ((n : Int) != (n' : Int)) = true := by rw [bne_iff_ne]; omega
    have HZ : Hid (eqL sideEM l m = false) := Lib.hid (eqL_len sideEM (by have := HL1.out; have := HL2.out; omega))
    clear e2
    go_enter Tryz.func81, Tryz.ntmps81
    go_wp2_with fail
    go_ret
    exact ret_b HZ.out rfl (Below.refl _ _)
set_option maxRecDepth 100000 in
set_option maxHeartbeats 6400000 in
theorem same_eq_any (w : World) (hi : Nat) (x y : EqM) (hx : EqIn w 0 hi x) (hy : EqIn w 0 hi y) (hh : hi ≤ w.heap.size) :
    Calls Tryz.prog 34 #[.agg #[.string x.con, .slice x.L.A x.L.n x.L.c, .slice x.R.A x.R.n x.R.c], .agg #[.string y.con, .slice y.L.A y.L.n y.L.c, .slice y.R.A y.R.n y.R.c]] w (Ret w (.bool (eqEM x y))) := by
  obtain ⟨con1, ⟨Al1, nl1, cl1⟩, ls1, ⟨Ar1, nr1, cr1⟩, rs1⟩ := x
  obtain ⟨con2, ⟨Al2, nl2, cl2⟩, ls2, ⟨Ar2, nr2, cr2⟩, rs2⟩ := y
  obtain ⟨il1, ir1⟩ := hx
  obtain ⟨il2, ir2⟩ := hy
  simp only at il1 il2 ir1 ir2 ⊢
  have HW0 := Lib.hid (B2.start w 52 #[.string con1, .slice Al1 nl1 cl1, .slice Ar1 nr1 cr1] #[.string con2, .slice Al2 nl2 cl2, .slice Ar2 nr2 cr2])
  have HN : Hid (eqEM ⟨con1, ⟨Al1, nl1, cl1⟩, ls1, ⟨Ar1, nr1, cr1⟩, rs1⟩ ⟨con2, ⟨Al2, nl2, cl2⟩, ls2, ⟨Ar2, nr2, cr2⟩, rs2⟩ = ((con1.toList == con2.toList) && eqL sideEM ls1 ls2 && eqL sideEM rs1 rs2)) := Lib.hid rfl
  obtain ⟨res, hres⟩ : ∃ b, eqEM ⟨con1, ⟨Al1, nl1, cl1⟩, ls1, ⟨Ar1, nr1, cr1⟩, rs1⟩ ⟨con2, ⟨Al2, nl2, cl2⟩, ls2, ⟨Ar2, nr2, cr2⟩, rs2⟩ = b := ⟨_, rfl⟩
  rw [hres] at HN ⊢
  have hE1 : ∀ w2, Below w.heap.size w w2 → Calls Tryz.prog 81 #[.slice Al1 nl1 cl1, .slice Al2 nl2 cl2, .func (.func 82) #[] #[]] w2 (Ret w2 (.bool (eqL sideEM ls1 ls2))) := fun w2 hb2 => eqf_side_any w2 hi ⟨Al1, nl1, cl1⟩ ⟨Al2, nl2, cl2⟩ _ _ (il1.below sideK (hb2.mono hh)) (il2.below sideK (hb2.mono hh)) (Nat.le_trans hh hb2.size)
  obtain ⟨e1, he1⟩ : ∃ b, eqL sideEM ls1 ls2 = b := ⟨_, rfl⟩
  rw [he1] at hE1 HN
  have HE1 := Lib.hid hE1
  clear hE1 he1
  have hE2 : ∀ w2, Below w.heap.size w w2 → Calls Tryz.prog 81 #[.slice Ar1 nr1 cr1, .slice Ar2 nr2 cr2, .func (.func 82) #[] #[]] w2 (Ret w2 (.bool (eqL sideEM rs1 rs2))) := fun w2 hb2 => eqf_side_any w2 hi ⟨Ar1, nr1, cr1⟩ ⟨Ar2, nr2, cr2⟩ _ _ (ir1.below sideK (hb2.mono hh)) (ir2.below sideK (hb2.mono hh)) (Nat.le_trans hh hb2.size)
  obtain ⟨e2, he2⟩ : ∃ b, eqL sideEM rs1 rs2 = b := ⟨_, rfl⟩
  rw [he2] at hE2 HN
  have HE2 := Lib.hid hE2
  clear hE2 he2
  clear il1 il2 ir1 ir2 hres
  cases d0 : (con1.toList == con2.toList) with
  | false =>
    have HZ : Hid (res = false) := Lib.hid (by rw [HN.out, d0]; simp)
    clear HN
    go_enter Tryz.func34, Tryz.ntmps34
    go_wp2_with fail
    go_ret
    exact ret_b (by exact HZ.out) rfl HW0.out.bel
  | true =>
    replace HN : Hid (res = (e1 && e2)) := Lib.hid (by rw [HN.out, d0]; simp only [Bool.true_and])
    cases e1 with
    | false =>
      go_enter Tryz.func34, Tryz.ntmps34
      go_wp2_with (first | (go_at_call 81; (with_reducible refine (HE1.out _ HW0.out.bel).mono ?_); rintro e w1 ⟨rfl, hb1⟩; obtain ⟨s1, t1⟩ := bcell hb1; have HB1 := Lib.hid (HW0.out.after hb1); have hz1 := HB1.out.size; have hz1' : w.heap.size < w1.heap.size := (by omega); clear hb1))
      go_ret
      exact ret_b (by rw [HN.out]; simp) rfl HB1.out.bel
    | true =>
      cases e2 with
      | false =>
        go_enter Tryz.func34, Tryz.ntmps34
        go_wp2_with (first | (go_at_call 81; (with_reducible refine (HE2.out _ HB1.out.bel).mono ?_); rintro e w2 ⟨rfl, hb2⟩; obtain ⟨s2, t2⟩ := bcell hb2; have HB2 := Lib.hid (HB1.out.after hb2); have hz2 := HB2.out.size; have hz2' : w.heap.size < w2.heap.size := (by omega); clear hb2) | (go_at_call 81; (with_reducible refine (HE1.out _ HW0.out.bel).mono ?_); rintro e w1 ⟨rfl, hb1⟩; obtain ⟨s1, t1⟩ := bcell hb1; have HB1 := Lib.hid (HW0.out.after hb1); have hz1 := HB1.out.size; have hz1' : w.heap.size < w1.heap.size := (by omega); clear hb1))
        go_ret
        exact ret_b (by rw [HN.out]; rfl) rfl HB2.out.bel
      | true =>
        go_enter Tryz.func34, Tryz.ntmps34
        go_wp2_with (first | (go_at_call 81; (with_reducible refine (HE2.out _ HB1.out.bel).mono ?_); rintro e w2 ⟨rfl, hb2⟩; obtain ⟨s2, t2⟩ := bcell hb2; have HB2 := Lib.hid (HB1.out.after hb2); have hz2 := HB2.out.size; have hz2' : w.heap.size < w2.heap.size := (by omega); clear hb2) | (go_at_call 81; (with_reducible refine (HE1.out _ HW0.out.bel).mono ?_); rintro e w1 ⟨rfl, hb1⟩; obtain ⟨s1, t1⟩ := bcell hb1; have HB1 := Lib.hid (HW0.out.after hb1); have hz1 := HB1.out.size; have hz1' : w.heap.size < w1.heap.size := (by omega); clear hb1))
        go_ret
        exact ret_b (by rw [HN.out]; rfl) rfl HB2.out.bel
end Go.Proofs.YtilemieknfdjnaaGreat
namespace Go.Proofs.YtilemieknfdjnaaGreat
open Go Go.RowKit Go.Sort
set_option linter.unusedVariables false
set_option maxHeartbeats 1600000 in
theorem eqPds_any (w : World) (lo hi lo' hi' : Nat) (A A' : Option Addr) (n c n' c' : Nat) (l m : List PropD) (h1 : Row w lo hi 2 A n c (pdCells l)) (h2 : Row w lo' hi' 2 A' n' c' (pdCells m)) :
    Calls Tryz.prog 78 #[.slice A n c, .slice A' n' c'] w (DrewV w (.bool (eqL pdE l m))) := by
  have hl1 : l.length = n := by have := h1.1; rw [pdCells_length] at this; omega
  have hl2 : m.length = n' := by have := h2.1; rw [pdCells_length] at this; omega
  have HL1 := Lib.hid hl1
  have HL2 := Lib.hid hl2
  have hc := h1.2.2.1
  have hnc := h1.2.1
  have hc' := h2.2.2.1
  have hnc' := h2.2.1
  unfold maxLen at hc hc'
  clear hl1 hl2
  by_cases hne : n = n'
  · have d0 : ((n : Int) != (n' : Int)) = false := by rw [bne_eq_false_iff_eq]; omega
    subst hne
    go_enter Tryz.func78, Tryz.ntmps78
    go_wp2_with fail
    go_loopw [13] (fun i wr => ∃ k : Nat, k ≤ n ∧ i = .int .i64 k ∧ Hid (∃ q, wr = w.drewN q) ∧ Hid (eqL pdE l m = eqL pdE (l.drop k) (m.drop k))) (fun i _ => n - (intOf i).toNat)
    case atStart => exact ⟨0, by omega, rfl, Lib.hid ⟨0, rfl⟩, Lib.hid rfl⟩
    case round =>
      obtain ⟨k, hk, rfl, HQ, HK⟩ := hrel
      by_cases hlt : k < n
      · obtain ⟨b1, o1, rfl, _, _, hcells1⟩ := (h1.below (drew_below HQ.out)).at_ (by omega)
        obtain ⟨b2, o2, rfl, _, _, hcells2⟩ := (h2.below (drew_below HQ.out)).at_ (by omega)
        obtain ⟨x, hx⟩ : ∃ x, l[k]? = some x := ⟨l[k]'(by have := HL1.out; omega), List.getElem?_eq_getElem _⟩
        obtain ⟨y, hy⟩ : ∃ y, m[k]? = some y := ⟨m[k]'(by have := HL2.out; omega), List.getElem?_eq_getElem _⟩
        have q1_0 := hcells1 _ _ (pdCells_get hx).1
        have q1_0 : wr.cell? ⟨b1, o1 + k * 2, none⟩ = some (.string x.name) := by first | exact q1_0 | (rw [Nat.add_assoc]; exact q1_0)
        have q1_1 := hcells1 _ _ (pdCells_get hx).2
        have q1_1 : wr.cell? ⟨b1, o1 + k * 2 + 1, none⟩ = some (.int .i64 x.typ) := by first | exact q1_1 | (rw [Nat.add_assoc]; exact q1_1)
        have q2_0 := hcells2 _ _ (pdCells_get hy).1
        have q2_0 : wr.cell? ⟨b2, o2 + k * 2, none⟩ = some (.string y.name) := by first | exact q2_0 | (rw [Nat.add_assoc]; exact q2_0)
        have q2_1 := hcells2 _ _ (pdCells_get hy).2
        have q2_1 : wr.cell? ⟨b2, o2 + k * 2 + 1, none⟩ = some (.int .i64 y.typ) := by first | exact q2_1 | (rw [Nat.add_assoc]; exact q2_1)
        have HD : Hid (eqL pdE l m = (pdE x y && eqL pdE (l.drop (k + 1)) (m.drop (k + 1)))) := Lib.hid (by
          obtain ⟨hl1, e1⟩ := List.getElem?_eq_some_iff.1 hx
          obtain ⟨hl2, e2⟩ := List.getElem?_eq_some_iff.1 hy
          rw [HK.out, List.drop_eq_getElem_cons hl1, List.drop_eq_getElem_cons hl2, e1, e2]; rfl)
        clear HK hx hy hcells1 hcells2
        cases e0 : (x.name.toList == y.name.toList) with
        | false =>
          have HZ : Hid (eqL pdE l m = false) := Lib.hid (by rw [HD.out]; simp only [pdE, e0]; rfl)
          clear HD
          go_wp2_with fail
          go_quiet (fail)
          go_wp2_with fail
          go_ret
          exact ⟨ret_bool HZ.out.symm, drew_more HQ.out nq⟩
        | true =>
          cases e1 : (x.typ == y.typ) with
          | false =>
            have HZ : Hid (eqL pdE l m = false) := Lib.hid (by rw [HD.out]; simp only [pdE, e0, e1]; rfl)
            clear HD
            go_wp2_with fail
            go_quiet (fail)
            go_wp2_with fail
            go_ret
            exact ⟨ret_bool HZ.out.symm, drew_more HQ.out nq⟩
          | true =>
            have HZ : Hid (eqL pdE l m = eqL pdE (l.drop (k + 1)) (m.drop (k + 1))) := Lib.hid (by rw [HD.out]; simp only [pdE, e0, e1]; rfl)
            clear HD
            go_wp2_with fail
            go_quiet (fail)
            go_wp2_with fail
            go_roundw
            case rel => exact ⟨k + 1, by omega, by go_num, Lib.hid (drew_more HQ.out nq), HZ⟩
            case measure => simp [intOf]; omega
      · have HZ : Hid (eqL pdE l m = true) := Lib.hid (by rw [HK.out, List.drop_eq_nil_of_le (by have := HL1.out; omega), List.drop_eq_nil_of_le (by have := HL2.out; omega)]; rfl)
        clear HK
        go_wp2_with fail
        go_ret
        exact ⟨ret_bool HZ.out.symm, HQ.out⟩
  · have d0 : ((n : Int) != (n' : Int)) = true := by rw [bne_iff_ne]; omega
    have HZ : Hid (eqL pdE l m = false) := Lib.hid (eqL_len _ (by have := HL1.out; have := HL2.out; omega))
    clear hne
    go_enter Tryz.func78, Tryz.ntmps78
    go_wp2_with fail
    go_ret
    exact ⟨ret_bool HZ.out.symm, 0, rfl⟩
set_option maxHeartbeats 1600000 in
theorem eqKds_any (w : World) (lo hi lo' hi' : Nat) (A A' : Option Addr) (n c n' c' : Nat) (l m : List KidD) (h1 : Row w lo hi 4 A n c (kdCells l)) (h2 : Row w lo' hi' 4 A' n' c' (kdCells m)) :
    Calls Tryz.prog 79 #[.slice A n c, .slice A' n' c'] w (DrewV w (.bool (eqL kdE l m))) := by
  have hl1 : l.length = n := by have := h1.1; rw [kdCells_length] at this; omega
  have hl2 : m.length = n' := by have := h2.1; rw [kdCells_length] at this; omega
  have HL1 := Lib.hid hl1
  have HL2 := Lib.hid hl2
  have hc := h1.2.2.1
  have hnc := h1.2.1
  have hc' := h2.2.2.1
  have hnc' := h2.2.1
  unfold maxLen at hc hc'
  clear hl1 hl2
  by_cases hne : n = n'
  · have d0 : ((n : Int) != (n' : Int)) = false := by rw [bne_eq_false_iff_eq]; omega
    subst hne
    go_enter Tryz.func79, Tryz.ntmps79
    go_wp2_with fail
    go_loopw [13] (fun i wr => ∃ k : Nat, k ≤ n ∧ i = .int .i64 k ∧ Hid (∃ q, wr = w.drewN q) ∧ Hid (eqL kdE l m = eqL kdE (l.drop k) (m.drop k))) (fun i _ => n - (intOf i).toNat)
    case atStart => exact ⟨0, by omega, rfl, Lib.hid ⟨0, rfl⟩, Lib.hid rfl⟩
    case round =>
      obtain ⟨k, hk, rfl, HQ, HK⟩ := hrel
      by_cases hlt : k < n
      · obtain ⟨b1, o1, rfl, _, _, hcells1⟩ := (h1.below (drew_below HQ.out)).at_ (by omega)
        obtain ⟨b2, o2, rfl, _, _, hcells2⟩ := (h2.below (drew_below HQ.out)).at_ (by omega)
        obtain ⟨x, hx⟩ : ∃ x, l[k]? = some x := ⟨l[k]'(by have := HL1.out; omega), List.getElem?_eq_getElem _⟩
        obtain ⟨y, hy⟩ : ∃ y, m[k]? = some y := ⟨m[k]'(by have := HL2.out; omega), List.getElem?_eq_getElem _⟩
        have q1_0 := hcells1 _ _ (kdCells_get hx).1
        have q1_0 : wr.cell? ⟨b1, o1 + k * 4, none⟩ = some (.string x.role) := by first | exact q1_0 | (rw [Nat.add_assoc]; exact q1_0)
        have q1_1 := hcells1 _ _ (kdCells_get hx).2.1
        have q1_1 : wr.cell? ⟨b1, o1 + k * 4 + 1, none⟩ = some (.string x.con) := by first | exact q1_1 | (rw [Nat.add_assoc]; exact q1_1)
        have q1_2 := hcells1 _ _ (kdCells_get hx).2.2.1
        have q1_2 : wr.cell? ⟨b1, o1 + k * 4 + 2, none⟩ = some (.int .i64 x.min) := by first | exact q1_2 | (rw [Nat.add_assoc]; exact q1_2)
        have q1_3 := hcells1 _ _ (kdCells_get hx).2.2.2
        have q1_3 : wr.cell? ⟨b1, o1 + k * 4 + 3, none⟩ = some (.int .i64 x.max) := by first | exact q1_3 | (rw [Nat.add_assoc]; exact q1_3)
        have q2_0 := hcells2 _ _ (kdCells_get hy).1
        have q2_0 : wr.cell? ⟨b2, o2 + k * 4, none⟩ = some (.string y.role) := by first | exact q2_0 | (rw [Nat.add_assoc]; exact q2_0)
        have q2_1 := hcells2 _ _ (kdCells_get hy).2.1
        have q2_1 : wr.cell? ⟨b2, o2 + k * 4 + 1, none⟩ = some (.string y.con) := by first | exact q2_1 | (rw [Nat.add_assoc]; exact q2_1)
        have q2_2 := hcells2 _ _ (kdCells_get hy).2.2.1
        have q2_2 : wr.cell? ⟨b2, o2 + k * 4 + 2, none⟩ = some (.int .i64 y.min) := by first | exact q2_2 | (rw [Nat.add_assoc]; exact q2_2)
        have q2_3 := hcells2 _ _ (kdCells_get hy).2.2.2
        have q2_3 : wr.cell? ⟨b2, o2 + k * 4 + 3, none⟩ = some (.int .i64 y.max) := by first | exact q2_3 | (rw [Nat.add_assoc]; exact q2_3)
        have HD : Hid (eqL kdE l m = (kdE x y && eqL kdE (l.drop (k + 1)) (m.drop (k + 1)))) := Lib.hid (by
          obtain ⟨hl1, e1⟩ := List.getElem?_eq_some_iff.1 hx
          obtain ⟨hl2, e2⟩ := List.getElem?_eq_some_iff.1 hy
          rw [HK.out, List.drop_eq_getElem_cons hl1, List.drop_eq_getElem_cons hl2, e1, e2]; rfl)
        clear HK hx hy hcells1 hcells2
        cases e0 : (x.role.toList == y.role.toList) with
        | false =>
          have HZ : Hid (eqL kdE l m = false) := Lib.hid (by rw [HD.out]; simp only [kdE, e0]; rfl)
          clear HD
          go_wp2_with fail
          go_quiet (fail)
          go_wp2_with fail
          go_ret
          exact ⟨ret_bool HZ.out.symm, drew_more HQ.out nq⟩
        | true =>
          cases e1 : (x.con.toList == y.con.toList) with
          | false =>
            have HZ : Hid (eqL kdE l m = false) := Lib.hid (by rw [HD.out]; simp only [kdE, e0, e1]; rfl)
            clear HD
            go_wp2_with fail
            go_quiet (fail)
            go_wp2_with fail
            go_ret
            exact ⟨ret_bool HZ.out.symm, drew_more HQ.out nq⟩
          | true =>
            cases e2 : (x.min == y.min) with
            | false =>
              have HZ : Hid (eqL kdE l m = false) := Lib.hid (by rw [HD.out]; simp only [kdE, e0, e1, e2]; rfl)
              clear HD
              go_wp2_with fail
              go_quiet (fail)
              go_wp2_with fail
              go_ret
              exact ⟨ret_bool HZ.out.symm, drew_more HQ.out nq⟩
            | true =>
              cases e3 : (x.max == y.max) with
              | false =>
                have HZ : Hid (eqL kdE l m = false) := Lib.hid (by rw [HD.out]; simp only [kdE, e0, e1, e2, e3]; rfl)
                clear HD
                go_wp2_with fail
                go_quiet (fail)
                go_wp2_with fail
                go_ret
                exact ⟨ret_bool HZ.out.symm, drew_more HQ.out nq⟩
              | true =>
                have HZ : Hid (eqL kdE l m = eqL kdE (l.drop (k + 1)) (m.drop (k + 1))) := Lib.hid (by rw [HD.out]; simp only [kdE, e0, e1, e2, e3]; rfl)
                clear HD
                go_wp2_with fail
                go_quiet (fail)
                go_wp2_with fail
                go_roundw
                case rel => exact ⟨k + 1, by omega, by go_num, Lib.hid (drew_more HQ.out nq), HZ⟩
                case measure => simp [intOf]; omega
      · have HZ : Hid (eqL kdE l m = true) := Lib.hid (by rw [HK.out, List.drop_eq_nil_of_le (by have := HL1.out; omega), List.drop_eq_nil_of_le (by have := HL2.out; omega)]; rfl)
        clear HK
        go_wp2_with fail
        go_ret
        exact ⟨ret_bool HZ.out.symm, HQ.out⟩
  · have d0 : ((n : Int) != (n' : Int)) = true := by rw [bne_iff_ne]; omega
    have HZ : Hid (eqL kdE l m = false) := Lib.hid (eqL_len _ (by have := HL1.out; have := HL2.out; omega))
    clear hne
    go_enter Tryz.func79, Tryz.ntmps79
    go_wp2_with fail
    go_ret
    exact ⟨ret_bool HZ.out.symm, 0, rfl⟩
set_option maxHeartbeats 1600000 in
theorem eqStrs_any (w : World) (lo hi lo' hi' : Nat) (A A' : Option Addr) (n c n' c' : Nat) (l m : List ByteArray) (h1 : Row w lo hi 1 A n c (strCells l)) (h2 : Row w lo' hi' 1 A' n' c' (strCells m)) :
    Calls Tryz.prog 29 #[.slice A n c, .slice A' n' c'] w (DrewV w (.bool (eqL strE l m))) := by
  have hl1 : l.length = n := by have := h1.1; rw [strCells_length] at this; omega
  have hl2 : m.length = n' := by have := h2.1; rw [strCells_length] at this; omega
  have HL1 := Lib.hid hl1
  have HL2 := Lib.hid hl2
  have hc := h1.2.2.1
  have hnc := h1.2.1
  have hc' := h2.2.2.1
  have hnc' := h2.2.1
  unfold maxLen at hc hc'
  clear hl1 hl2
  by_cases hne : n = n'
  · have d0 : ((n : Int) != (n' : Int)) = false := by rw [bne_eq_false_iff_eq]; omega
    subst hne
    go_enter Tryz.func29, Tryz.ntmps29
    go_wp2_with fail
    go_loopw [13] (fun i wr => ∃ k : Nat, k ≤ n ∧ i = .int .i64 k ∧ Hid (∃ q, wr = w.drewN q) ∧ Hid (eqL strE l m = eqL strE (l.drop k) (m.drop k))) (fun i _ => n - (intOf i).toNat)
    case atStart => exact ⟨0, by omega, rfl, Lib.hid ⟨0, rfl⟩, Lib.hid rfl⟩
    case round =>
      obtain ⟨k, hk, rfl, HQ, HK⟩ := hrel
      by_cases hlt : k < n
      · obtain ⟨b1, o1, rfl, _, _, hcells1⟩ := (h1.below (drew_below HQ.out)).at_ (by omega)
        obtain ⟨b2, o2, rfl, _, _, hcells2⟩ := (h2.below (drew_below HQ.out)).at_ (by omega)
        obtain ⟨x, hx⟩ : ∃ x, l[k]? = some x := ⟨l[k]'(by have := HL1.out; omega), List.getElem?_eq_getElem _⟩
        obtain ⟨y, hy⟩ : ∃ y, m[k]? = some y := ⟨m[k]'(by have := HL2.out; omega), List.getElem?_eq_getElem _⟩
        have q1 := hcells1 k _ (strCells_get hx)
        have q2 := hcells2 k _ (strCells_get hy)
        have HD : Hid (eqL strE l m = (strE x y && eqL strE (l.drop (k + 1)) (m.drop (k + 1)))) := Lib.hid (by
          obtain ⟨hl1, e1⟩ := List.getElem?_eq_some_iff.1 hx
          obtain ⟨hl2, e2⟩ := List.getElem?_eq_some_iff.1 hy
          rw [HK.out, List.drop_eq_getElem_cons hl1, List.drop_eq_getElem_cons hl2, e1, e2]; rfl)
        clear HK hx hy hcells1 hcells2
        cases e0 : (x.toList == y.toList) with
        | false =>
          have HZ : Hid (eqL strE l m = false) := Lib.hid (by rw [HD.out]; simp only [strE, e0]; rfl)
          clear HD
          have d1 : (x.toList != y.toList) = true := by unfold bne; rw [e0]; rfl
          go_wp2_with fail
          go_quiet (fail)
          go_wp2_with fail
          go_ret
          exact ⟨ret_bool HZ.out.symm, drew_more HQ.out nq⟩
        | true =>
          have HZ : Hid (eqL strE l m = eqL strE (l.drop (k + 1)) (m.drop (k + 1))) := Lib.hid (by rw [HD.out]; simp only [strE, e0]; rfl)
          clear HD
          have d1 : (x.toList != y.toList) = false := by unfold bne; rw [e0]; rfl
          go_wp2_with fail
          go_quiet (fail)
          go_wp2_with fail
          go_roundw
          case rel => exact ⟨k + 1, by omega, by go_num, Lib.hid (drew_more HQ.out nq), HZ⟩
          case measure => simp [intOf]; omega
      · have HZ : Hid (eqL strE l m = true) := Lib.hid (by rw [HK.out, List.drop_eq_nil_of_le (by have := HL1.out; omega), List.drop_eq_nil_of_le (by have := HL2.out; omega)]; rfl)
        clear HK
        go_wp2_with fail
        go_ret
        exact ⟨ret_bool HZ.out.symm, HQ.out⟩
  · have d0 : ((n : Int) != (n' : Int)) = true := by rw [bne_iff_ne]; omega
    have HZ : Hid (eqL strE l m = false) := Lib.hid (eqL_len _ (by have := HL1.out; have := HL2.out; omega))
    clear hne
    go_enter Tryz.func29, Tryz.ntmps29
    go_wp2_with fail
    go_ret
    exact ⟨ret_bool HZ.out.symm, 0, rfl⟩
end Go.Proofs.YtilemieknfdjnaaGreat
namespace Go.Proofs.YtilemieknfdjnaaGreat
open Go Go.RowKit Go.Sort
set_option linter.unusedVariables false
set_option maxHeartbeats 1600000 in
theorem eqRds_any (w : World) (lo hi lo' hi' : Nat) (A A' : Option Addr) (n c n' c' : Nat) (l m : List RefD) (h1 : Row w lo hi 3 A n c (rdCells l)) (h2 : Row w lo' hi' 3 A' n' c' (rdCells m)) :
    Calls Tryz.prog 80 #[.slice A n c, .slice A' n' c'] w (DrewV w (.bool (eqL rdE l m))) := by
  have hl1 : l.length = n := by have := h1.1; rw [rdCells_length] at this; omega
  have hl2 : m.length = n' := by have := h2.1; rw [rdCells_length] at this; omega
  have HL1 := Lib.hid hl1
  have HL2 := Lib.hid hl2
  have hc := h1.2.2.1
  have hnc := h1.2.1
  have hc' := h2.2.2.1
  have hnc' := h2.2.1
  unfold maxLen at hc hc'
  clear hl1 hl2
  by_cases hne : n = n'
  · have d0 : ((n : Int) != (n' : Int)) = false := by rw [bne_eq_false_iff_eq]; omega
    subst hne
    go_enter Tryz.func80, Tryz.ntmps80
    go_wp2_with fail
    go_loopw [13] (fun i wr => ∃ k : Nat, k ≤ n ∧ i = .int .i64 k ∧ Hid (∃ q, wr = w.drewN q) ∧ Hid (eqL rdE l m = eqL rdE (l.drop k) (m.drop k))) (fun i _ => n - (intOf i).toNat)
    case atStart => exact ⟨0, by omega, rfl, Lib.hid ⟨0, rfl⟩, Lib.hid rfl⟩
    case round =>
      obtain ⟨k, hk, rfl, HQ, HK⟩ := hrel
      by_cases hlt : k < n
      · obtain ⟨b1, o1, rfl, _, _, hcells1⟩ := (h1.below (drew_below HQ.out)).at_ (by omega)
        obtain ⟨b2, o2, rfl, _, _, hcells2⟩ := (h2.below (drew_below HQ.out)).at_ (by omega)
        obtain ⟨x, hx⟩ : ∃ x, l[k]? = some x := ⟨l[k]'(by have := HL1.out; omega), List.getElem?_eq_getElem _⟩
        obtain ⟨y, hy⟩ : ∃ y, m[k]? = some y := ⟨m[k]'(by have := HL2.out; omega), List.getElem?_eq_getElem _⟩
        have q1_0 := hcells1 _ _ (rdCells_get hx).1
        have q1_0 : wr.cell? ⟨b1, o1 + k * 3, none⟩ = some (.string x.role) := by first | exact q1_0 | (rw [Nat.add_assoc]; exact q1_0)
        have q1_1 := hcells1 _ _ (rdCells_get hx).2.1
        have q1_1 : wr.cell? ⟨b1, o1 + k * 3 + 1, none⟩ = some (.string x.con) := by first | exact q1_1 | (rw [Nat.add_assoc]; exact q1_1)
        have q1_2 := hcells1 _ _ (rdCells_get hx).2.2
        have q1_2 : wr.cell? ⟨b1, o1 + k * 3 + 2, none⟩ = some (.bool x.need) := by first | exact q1_2 | (rw [Nat.add_assoc]; exact q1_2)
        have q2_0 := hcells2 _ _ (rdCells_get hy).1
        have q2_0 : wr.cell? ⟨b2, o2 + k * 3, none⟩ = some (.string y.role) := by first | exact q2_0 | (rw [Nat.add_assoc]; exact q2_0)
        have q2_1 := hcells2 _ _ (rdCells_get hy).2.1
        have q2_1 : wr.cell? ⟨b2, o2 + k * 3 + 1, none⟩ = some (.string y.con) := by first | exact q2_1 | (rw [Nat.add_assoc]; exact q2_1)
        have q2_2 := hcells2 _ _ (rdCells_get hy).2.2
        have q2_2 : wr.cell? ⟨b2, o2 + k * 3 + 2, none⟩ = some (.bool y.need) := by first | exact q2_2 | (rw [Nat.add_assoc]; exact q2_2)
        have HD : Hid (eqL rdE l m = (rdE x y && eqL rdE (l.drop (k + 1)) (m.drop (k + 1)))) := Lib.hid (by
          obtain ⟨hl1, e1⟩ := List.getElem?_eq_some_iff.1 hx
          obtain ⟨hl2, e2⟩ := List.getElem?_eq_some_iff.1 hy
          rw [HK.out, List.drop_eq_getElem_cons hl1, List.drop_eq_getElem_cons hl2, e1, e2]; rfl)
        clear HK hx hy hcells1 hcells2
        cases e0 : (x.role.toList == y.role.toList) with
        | false =>
          have HZ : Hid (eqL rdE l m = false) := Lib.hid (by rw [HD.out]; simp only [rdE, e0]; rfl)
          clear HD
          go_wp2_with fail
          go_quiet (fail)
          go_wp2_with fail
          go_ret
          exact ⟨ret_bool HZ.out.symm, drew_more HQ.out nq⟩
        | true =>
          cases e1 : (x.con.toList == y.con.toList) with
          | false =>
            have HZ : Hid (eqL rdE l m = false) := Lib.hid (by rw [HD.out]; simp only [rdE, e0, e1]; rfl)
            clear HD
            go_wp2_with fail
            go_quiet (fail)
            go_wp2_with fail
            go_ret
            exact ⟨ret_bool HZ.out.symm, drew_more HQ.out nq⟩
          | true =>
            cases e2 : (x.need == y.need) with
            | false =>
              have HZ : Hid (eqL rdE l m = false) := Lib.hid (by rw [HD.out]; simp only [rdE, e0, e1, e2]; rfl)
              clear HD
              go_wp2_with fail
              go_quiet (fail)
              go_wp2_with fail
              go_ret
              exact ⟨ret_bool HZ.out.symm, drew_more HQ.out nq⟩
            | true =>
              have HZ : Hid (eqL rdE l m = eqL rdE (l.drop (k + 1)) (m.drop (k + 1))) := Lib.hid (by rw [HD.out]; simp only [rdE, e0, e1, e2]; rfl)
              clear HD
              go_wp2_with fail
              go_quiet (fail)
              go_wp2_with fail
              go_roundw
              case rel => exact ⟨k + 1, by omega, by go_num, Lib.hid (drew_more HQ.out nq), HZ⟩
              case measure => simp [intOf]; omega
      · have HZ : Hid (eqL rdE l m = true) := Lib.hid (by rw [HK.out, List.drop_eq_nil_of_le (by have := HL1.out; omega), List.drop_eq_nil_of_le (by have := HL2.out; omega)]; rfl)
        clear HK
        go_wp2_with fail
        go_ret
        exact ⟨ret_bool HZ.out.symm, HQ.out⟩
  · have d0 : ((n : Int) != (n' : Int)) = true := by rw [bne_iff_ne]; omega
    have HZ : Hid (eqL rdE l m = false) := Lib.hid (eqL_len _ (by have := HL1.out; have := HL2.out; omega))
    clear hne
    go_enter Tryz.func80, Tryz.ntmps80
    go_wp2_with fail
    go_ret
    exact ⟨ret_bool HZ.out.symm, 0, rfl⟩
set_option maxHeartbeats 1600000 in
theorem eqRus_any (w : World) (lo hi lo' hi' : Nat) (A A' : Option Addr) (n c n' c' : Nat) (l m : List RuleD) (h1 : Row w lo hi 4 A n c (ruCells l)) (h2 : Row w lo' hi' 4 A' n' c' (ruCells m)) :
    Calls Tryz.prog 32 #[.slice A n c, .slice A' n' c'] w (DrewV w (.bool (eqL ruE l m))) := by
  have hl1 : l.length = n := by have := h1.1; rw [ruCells_length] at this; omega
  have hl2 : m.length = n' := by have := h2.1; rw [ruCells_length] at this; omega
  have HL1 := Lib.hid hl1
  have HL2 := Lib.hid hl2
  have hc := h1.2.2.1
  have hnc := h1.2.1
  have hc' := h2.2.2.1
  have hnc' := h2.2.1
  unfold maxLen at hc hc'
  clear hl1 hl2
  by_cases hne : n = n'
  · have d0 : ((n : Int) != (n' : Int)) = false := by rw [bne_eq_false_iff_eq]; omega
    subst hne
    go_enter Tryz.func32, Tryz.ntmps32
    go_wp2_with fail
    go_loopw [13] (fun i wr => ∃ k : Nat, k ≤ n ∧ i = .int .i64 k ∧ Hid (∃ q, wr = w.drewN q) ∧ Hid (eqL ruE l m = eqL ruE (l.drop k) (m.drop k))) (fun i _ => n - (intOf i).toNat)
    case atStart => exact ⟨0, by omega, rfl, Lib.hid ⟨0, rfl⟩, Lib.hid rfl⟩
    case round =>
      obtain ⟨k, hk, rfl, HQ, HK⟩ := hrel
      by_cases hlt : k < n
      · obtain ⟨b1, o1, rfl, _, _, hcells1⟩ := (h1.below (drew_below HQ.out)).at_ (by omega)
        obtain ⟨b2, o2, rfl, _, _, hcells2⟩ := (h2.below (drew_below HQ.out)).at_ (by omega)
        obtain ⟨x, hx⟩ : ∃ x, l[k]? = some x := ⟨l[k]'(by have := HL1.out; omega), List.getElem?_eq_getElem _⟩
        obtain ⟨y, hy⟩ : ∃ y, m[k]? = some y := ⟨m[k]'(by have := HL2.out; omega), List.getElem?_eq_getElem _⟩
        have q1_0 := hcells1 _ _ (ruCells_get hx).1
        have q1_0 : wr.cell? ⟨b1, o1 + k * 4, none⟩ = some (.string x.con) := by first | exact q1_0 | (rw [Nat.add_assoc]; exact q1_0)
        have q1_1 := hcells1 _ _ (ruCells_get hx).2.1
        have q1_1 : wr.cell? ⟨b1, o1 + k * 4 + 1, none⟩ = some (.string x.name) := by first | exact q1_1 | (rw [Nat.add_assoc]; exact q1_1)
        have q1_2 := hcells1 _ _ (ruCells_get hx).2.2.1
        have q1_2 : wr.cell? ⟨b1, o1 + k * 4 + 2, none⟩ = some (.bool x.scope) := by first | exact q1_2 | (rw [Nat.add_assoc]; exact q1_2)
        have q1_3 := hcells1 _ _ (ruCells_get hx).2.2.2
        have q1_3 : wr.cell? ⟨b1, o1 + k * 4 + 3, none⟩ = some (.string x.expr) := by first | exact q1_3 | (rw [Nat.add_assoc]; exact q1_3)
        have q2_0 := hcells2 _ _ (ruCells_get hy).1
        have q2_0 : wr.cell? ⟨b2, o2 + k * 4, none⟩ = some (.string y.con) := by first | exact q2_0 | (rw [Nat.add_assoc]; exact q2_0)
        have q2_1 := hcells2 _ _ (ruCells_get hy).2.1
        have q2_1 : wr.cell? ⟨b2, o2 + k * 4 + 1, none⟩ = some (.string y.name) := by first | exact q2_1 | (rw [Nat.add_assoc]; exact q2_1)
        have q2_2 := hcells2 _ _ (ruCells_get hy).2.2.1
        have q2_2 : wr.cell? ⟨b2, o2 + k * 4 + 2, none⟩ = some (.bool y.scope) := by first | exact q2_2 | (rw [Nat.add_assoc]; exact q2_2)
        have q2_3 := hcells2 _ _ (ruCells_get hy).2.2.2
        have q2_3 : wr.cell? ⟨b2, o2 + k * 4 + 3, none⟩ = some (.string y.expr) := by first | exact q2_3 | (rw [Nat.add_assoc]; exact q2_3)
        have HD : Hid (eqL ruE l m = (ruE x y && eqL ruE (l.drop (k + 1)) (m.drop (k + 1)))) := Lib.hid (by
          obtain ⟨hl1, e1⟩ := List.getElem?_eq_some_iff.1 hx
          obtain ⟨hl2, e2⟩ := List.getElem?_eq_some_iff.1 hy
          rw [HK.out, List.drop_eq_getElem_cons hl1, List.drop_eq_getElem_cons hl2, e1, e2]; rfl)
        clear HK hx hy hcells1 hcells2
        cases e0 : (x.con.toList == y.con.toList) with
        | false =>
          have HZ : Hid (eqL ruE l m = false) := Lib.hid (by rw [HD.out]; simp only [ruE, e0]; rfl)
          clear HD
          go_wp2_with fail
          go_quiet (fail)
          go_wp2_with fail
          go_ret
          exact ⟨ret_bool HZ.out.symm, drew_more HQ.out nq⟩
        | true =>
          cases e1 : (x.name.toList == y.name.toList) with
          | false =>
            have HZ : Hid (eqL ruE l m = false) := Lib.hid (by rw [HD.out]; simp only [ruE, e0, e1]; rfl)
            clear HD
            go_wp2_with fail
            go_quiet (fail)
            go_wp2_with fail
            go_ret
            exact ⟨ret_bool HZ.out.symm, drew_more HQ.out nq⟩
          | true =>
            cases e2 : (x.scope == y.scope) with
            | false =>
              have HZ : Hid (eqL ruE l m = false) := Lib.hid (by rw [HD.out]; simp only [ruE, e0, e1, e2]; rfl)
              clear HD
              go_wp2_with fail
              go_quiet (fail)
              go_wp2_with fail
              go_ret
              exact ⟨ret_bool HZ.out.symm, drew_more HQ.out nq⟩
            | true =>
              cases e3 : (x.expr.toList == y.expr.toList) with
              | false =>
                have HZ : Hid (eqL ruE l m = false) := Lib.hid (by rw [HD.out]; simp only [ruE, e0, e1, e2, e3]; rfl)
                clear HD
                go_wp2_with fail
                go_quiet (fail)
                go_wp2_with fail
                go_ret
                exact ⟨ret_bool HZ.out.symm, drew_more HQ.out nq⟩
              | true =>
                have HZ : Hid (eqL ruE l m = eqL ruE (l.drop (k + 1)) (m.drop (k + 1))) := Lib.hid (by rw [HD.out]; simp only [ruE, e0, e1, e2, e3]; rfl)
                clear HD
                go_wp2_with fail
                go_quiet (fail)
                go_wp2_with fail
                go_roundw
                case rel => exact ⟨k + 1, by omega, by go_num, Lib.hid (drew_more HQ.out nq), HZ⟩
                case measure => simp [intOf]; omega
      · have HZ : Hid (eqL ruE l m = true) := Lib.hid (by rw [HK.out, List.drop_eq_nil_of_le (by have := HL1.out; omega), List.drop_eq_nil_of_le (by have := HL2.out; omega)]; rfl)
        clear HK
        go_wp2_with fail
        go_ret
        exact ⟨ret_bool HZ.out.symm, HQ.out⟩
  · have d0 : ((n : Int) != (n' : Int)) = true := by rw [bne_iff_ne]; omega
    have HZ : Hid (eqL ruE l m = false) := Lib.hid (eqL_len _ (by have := HL1.out; have := HL2.out; omega))
    clear hne
    go_enter Tryz.func32, Tryz.ntmps32
    go_wp2_with fail
    go_ret
    exact ⟨ret_bool HZ.out.symm, 0, rfl⟩
end Go.Proofs.YtilemieknfdjnaaGreat
namespace Go.Proofs.YtilemieknfdjnaaGreat
open Go Go.RowKit Go.Sort
set_option linter.unusedVariables false
set_option maxHeartbeats 1600000 in
theorem eqCells_any (w : World) (lo hi lo' hi' : Nat) (A A' : Option Addr) (n c n' c' : Nat) (l m : List CellD) (h1 : Row w lo hi 3 A n c (ceCells l)) (h2 : Row w lo' hi' 3 A' n' c' (ceCells m)) :
    Calls Tryz.prog 83 #[.slice A n c, .slice A' n' c'] w (DrewV w (.bool (eqL ceE l m))) := by
  have hl1 : l.length = n := by have := h1.1; rw [ceCells_length] at this; omega
  have hl2 : m.length = n' := by have := h2.1; rw [ceCells_length] at this; omega
  have HL1 := Lib.hid hl1
  have HL2 := Lib.hid hl2
  have hc := h1.2.2.1
  have hnc := h1.2.1
  have hc' := h2.2.2.1
  have hnc' := h2.2.1
  unfold maxLen at hc hc'
  clear hl1 hl2
  by_cases hne : n = n'
  · have d0 : ((n : Int) != (n' : Int)) = false := by rw [bne_eq_false_iff_eq]; omega
    subst hne
    go_enter Tryz.func83, Tryz.ntmps83
    go_wp2_with fail
    go_loopw [13] (fun i wr => ∃ k : Nat, k ≤ n ∧ i = .int .i64 k ∧ Hid (∃ q, wr = w.drewN q) ∧ Hid (eqL ceE l m = eqL ceE (l.drop k) (m.drop k))) (fun i _ => n - (intOf i).toNat)
    case atStart => exact ⟨0, by omega, rfl, Lib.hid ⟨0, rfl⟩, Lib.hid rfl⟩
    case round =>
      obtain ⟨k, hk, rfl, HQ, HK⟩ := hrel
      by_cases hlt : k < n
      · obtain ⟨b1, o1, rfl, _, _, hcells1⟩ := (h1.below (drew_below HQ.out)).at_ (by omega)
        obtain ⟨b2, o2, rfl, _, _, hcells2⟩ := (h2.below (drew_below HQ.out)).at_ (by omega)
        obtain ⟨x, hx⟩ : ∃ x, l[k]? = some x := ⟨l[k]'(by have := HL1.out; omega), List.getElem?_eq_getElem _⟩
        obtain ⟨y, hy⟩ : ∃ y, m[k]? = some y := ⟨m[k]'(by have := HL2.out; omega), List.getElem?_eq_getElem _⟩
        have q1_0 := hcells1 _ _ (ceCells_get hx).1
        have q1_0 : wr.cell? ⟨b1, o1 + k * 3, none⟩ = some (.int .i64 x.kind) := by first | exact q1_0 | (rw [Nat.add_assoc]; exact q1_0)
        have q1_1 := hcells1 _ _ (ceCells_get hx).2.1
        have q1_1 : wr.cell? ⟨b1, o1 + k * 3 + 1, none⟩ = some (.string x.text) := by first | exact q1_1 | (rw [Nat.add_assoc]; exact q1_1)
        have q1_2 := hcells1 _ _ (ceCells_get hx).2.2
        have q1_2 : wr.cell? ⟨b1, o1 + k * 3 + 2, none⟩ = some (.string x.mark) := by first | exact q1_2 | (rw [Nat.add_assoc]; exact q1_2)
        have q2_0 := hcells2 _ _ (ceCells_get hy).1
        have q2_0 : wr.cell? ⟨b2, o2 + k * 3, none⟩ = some (.int .i64 y.kind) := by first | exact q2_0 | (rw [Nat.add_assoc]; exact q2_0)
        have q2_1 := hcells2 _ _ (ceCells_get hy).2.1
        have q2_1 : wr.cell? ⟨b2, o2 + k * 3 + 1, none⟩ = some (.string y.text) := by first | exact q2_1 | (rw [Nat.add_assoc]; exact q2_1)
        have q2_2 := hcells2 _ _ (ceCells_get hy).2.2
        have q2_2 : wr.cell? ⟨b2, o2 + k * 3 + 2, none⟩ = some (.string y.mark) := by first | exact q2_2 | (rw [Nat.add_assoc]; exact q2_2)
        have HD : Hid (eqL ceE l m = (ceE x y && eqL ceE (l.drop (k + 1)) (m.drop (k + 1)))) := Lib.hid (by
          obtain ⟨hl1, e1⟩ := List.getElem?_eq_some_iff.1 hx
          obtain ⟨hl2, e2⟩ := List.getElem?_eq_some_iff.1 hy
          rw [HK.out, List.drop_eq_getElem_cons hl1, List.drop_eq_getElem_cons hl2, e1, e2]; rfl)
        clear HK hx hy hcells1 hcells2
        cases e0 : (x.kind == y.kind) with
        | false =>
          have HZ : Hid (eqL ceE l m = false) := Lib.hid (by rw [HD.out]; simp only [ceE, e0]; rfl)
          clear HD
          go_wp2_with fail
          go_quiet (fail)
          go_wp2_with fail
          go_ret
          exact ⟨ret_bool HZ.out.symm, drew_more HQ.out nq⟩
        | true =>
          cases e1 : (x.text.toList == y.text.toList) with
          | false =>
            have HZ : Hid (eqL ceE l m = false) := Lib.hid (by rw [HD.out]; simp only [ceE, e0, e1]; rfl)
            clear HD
            go_wp2_with fail
            go_quiet (fail)
            go_wp2_with fail
            go_ret
            exact ⟨ret_bool HZ.out.symm, drew_more HQ.out nq⟩
          | true =>
            cases e2 : (x.mark.toList == y.mark.toList) with
            | false =>
              have HZ : Hid (eqL ceE l m = false) := Lib.hid (by rw [HD.out]; simp only [ceE, e0, e1, e2]; rfl)
              clear HD
              go_wp2_with fail
              go_quiet (fail)
              go_wp2_with fail
              go_ret
              exact ⟨ret_bool HZ.out.symm, drew_more HQ.out nq⟩
            | true =>
              have HZ : Hid (eqL ceE l m = eqL ceE (l.drop (k + 1)) (m.drop (k + 1))) := Lib.hid (by rw [HD.out]; simp only [ceE, e0, e1, e2]; rfl)
              clear HD
              go_wp2_with fail
              go_quiet (fail)
              go_wp2_with fail
              go_roundw
              case rel => exact ⟨k + 1, by omega, by go_num, Lib.hid (drew_more HQ.out nq), HZ⟩
              case measure => simp [intOf]; omega
      · have HZ : Hid (eqL ceE l m = true) := Lib.hid (by rw [HK.out, List.drop_eq_nil_of_le (by have := HL1.out; omega), List.drop_eq_nil_of_le (by have := HL2.out; omega)]; rfl)
        clear HK
        go_wp2_with fail
        go_ret
        exact ⟨ret_bool HZ.out.symm, HQ.out⟩
  · have d0 : ((n : Int) != (n' : Int)) = true := by rw [bne_iff_ne]; omega
    have HZ : Hid (eqL ceE l m = false) := Lib.hid (eqL_len _ (by have := HL1.out; have := HL2.out; omega))
    clear hne
    go_enter Tryz.func83, Tryz.ntmps83
    go_wp2_with fail
    go_ret
    exact ⟨ret_bool HZ.out.symm, 0, rfl⟩
set_option maxHeartbeats 1600000 in
theorem eqPieces_any (w : World) (lo hi lo' hi' : Nat) (A A' : Option Addr) (n c n' c' : Nat) (l m : List CellD) (h1 : Row w lo hi 3 A n c (ceCells l)) (h2 : Row w lo' hi' 3 A' n' c' (ceCells m)) :
    Calls Tryz.prog 84 #[.slice A n c, .slice A' n' c'] w (DrewV w (.bool (eqL ceE l m))) := by
  have hl1 : l.length = n := by have := h1.1; rw [ceCells_length] at this; omega
  have hl2 : m.length = n' := by have := h2.1; rw [ceCells_length] at this; omega
  have HL1 := Lib.hid hl1
  have HL2 := Lib.hid hl2
  have hc := h1.2.2.1
  have hnc := h1.2.1
  have hc' := h2.2.2.1
  have hnc' := h2.2.1
  unfold maxLen at hc hc'
  clear hl1 hl2
  by_cases hne : n = n'
  · have d0 : ((n : Int) != (n' : Int)) = false := by rw [bne_eq_false_iff_eq]; omega
    subst hne
    go_enter Tryz.func84, Tryz.ntmps84
    go_wp2_with fail
    go_loopw [13] (fun i wr => ∃ k : Nat, k ≤ n ∧ i = .int .i64 k ∧ Hid (∃ q, wr = w.drewN q) ∧ Hid (eqL ceE l m = eqL ceE (l.drop k) (m.drop k))) (fun i _ => n - (intOf i).toNat)
    case atStart => exact ⟨0, by omega, rfl, Lib.hid ⟨0, rfl⟩, Lib.hid rfl⟩
    case round =>
      obtain ⟨k, hk, rfl, HQ, HK⟩ := hrel
      by_cases hlt : k < n
      · obtain ⟨b1, o1, rfl, _, _, hcells1⟩ := (h1.below (drew_below HQ.out)).at_ (by omega)
        obtain ⟨b2, o2, rfl, _, _, hcells2⟩ := (h2.below (drew_below HQ.out)).at_ (by omega)
        obtain ⟨x, hx⟩ : ∃ x, l[k]? = some x := ⟨l[k]'(by have := HL1.out; omega), List.getElem?_eq_getElem _⟩
        obtain ⟨y, hy⟩ : ∃ y, m[k]? = some y := ⟨m[k]'(by have := HL2.out; omega), List.getElem?_eq_getElem _⟩
        have q1_0 := hcells1 _ _ (ceCells_get hx).1
        have q1_0 : wr.cell? ⟨b1, o1 + k * 3, none⟩ = some (.int .i64 x.kind) := by first | exact q1_0 | (rw [Nat.add_assoc]; exact q1_0)
        have q1_1 := hcells1 _ _ (ceCells_get hx).2.1
        have q1_1 : wr.cell? ⟨b1, o1 + k * 3 + 1, none⟩ = some (.string x.text) := by first | exact q1_1 | (rw [Nat.add_assoc]; exact q1_1)
        have q1_2 := hcells1 _ _ (ceCells_get hx).2.2
        have q1_2 : wr.cell? ⟨b1, o1 + k * 3 + 2, none⟩ = some (.string x.mark) := by first | exact q1_2 | (rw [Nat.add_assoc]; exact q1_2)
        have q2_0 := hcells2 _ _ (ceCells_get hy).1
        have q2_0 : wr.cell? ⟨b2, o2 + k * 3, none⟩ = some (.int .i64 y.kind) := by first | exact q2_0 | (rw [Nat.add_assoc]; exact q2_0)
        have q2_1 := hcells2 _ _ (ceCells_get hy).2.1
        have q2_1 : wr.cell? ⟨b2, o2 + k * 3 + 1, none⟩ = some (.string y.text) := by first | exact q2_1 | (rw [Nat.add_assoc]; exact q2_1)
        have q2_2 := hcells2 _ _ (ceCells_get hy).2.2
        have q2_2 : wr.cell? ⟨b2, o2 + k * 3 + 2, none⟩ = some (.string y.mark) := by first | exact q2_2 | (rw [Nat.add_assoc]; exact q2_2)
        have HD : Hid (eqL ceE l m = (ceE x y && eqL ceE (l.drop (k + 1)) (m.drop (k + 1)))) := Lib.hid (by
          obtain ⟨hl1, e1⟩ := List.getElem?_eq_some_iff.1 hx
          obtain ⟨hl2, e2⟩ := List.getElem?_eq_some_iff.1 hy
          rw [HK.out, List.drop_eq_getElem_cons hl1, List.drop_eq_getElem_cons hl2, e1, e2]; rfl)
        clear HK hx hy hcells1 hcells2
        cases e0 : (x.kind == y.kind) with
        | false =>
          have HZ : Hid (eqL ceE l m = false) := Lib.hid (by rw [HD.out]; simp only [ceE, e0]; rfl)
          clear HD
          go_wp2_with fail
          go_quiet (fail)
          go_wp2_with fail
          go_ret
          exact ⟨ret_bool HZ.out.symm, drew_more HQ.out nq⟩
        | true =>
          cases e1 : (x.text.toList == y.text.toList) with
          | false =>
            have HZ : Hid (eqL ceE l m = false) := Lib.hid (by rw [HD.out]; simp only [ceE, e0, e1]; rfl)
            clear HD
            go_wp2_with fail
            go_quiet (fail)
            go_wp2_with fail
            go_ret
            exact ⟨ret_bool HZ.out.symm, drew_more HQ.out nq⟩
          | true =>
            cases e2 : (x.mark.toList == y.mark.toList) with
            | false =>
              have HZ : Hid (eqL ceE l m = false) := Lib.hid (by rw [HD.out]; simp only [ceE, e0, e1, e2]; rfl)
              clear HD
              go_wp2_with fail
              go_quiet (fail)
              go_wp2_with fail
              go_ret
              exact ⟨ret_bool HZ.out.symm, drew_more HQ.out nq⟩
            | true =>
              have HZ : Hid (eqL ceE l m = eqL ceE (l.drop (k + 1)) (m.drop (k + 1))) := Lib.hid (by rw [HD.out]; simp only [ceE, e0, e1, e2]; rfl)
              clear HD
              go_wp2_with fail
              go_quiet (fail)
              go_wp2_with fail
              go_roundw
              case rel => exact ⟨k + 1, by omega, by go_num, Lib.hid (drew_more HQ.out nq), HZ⟩
              case measure => simp [intOf]; omega
      · have HZ : Hid (eqL ceE l m = true) := Lib.hid (by rw [HK.out, List.drop_eq_nil_of_le (by have := HL1.out; omega), List.drop_eq_nil_of_le (by have := HL2.out; omega)]; rfl)
        clear HK
        go_wp2_with fail
        go_ret
        exact ⟨ret_bool HZ.out.symm, HQ.out⟩
  · have d0 : ((n : Int) != (n' : Int)) = true := by rw [bne_iff_ne]; omega
    have HZ : Hid (eqL ceE l m = false) := Lib.hid (eqL_len _ (by have := HL1.out; have := HL2.out; omega))
    clear hne
    go_enter Tryz.func84, Tryz.ntmps84
    go_wp2_with fail
    go_ret
    exact ⟨ret_bool HZ.out.symm, 0, rfl⟩
end Go.Proofs.YtilemieknfdjnaaGreat

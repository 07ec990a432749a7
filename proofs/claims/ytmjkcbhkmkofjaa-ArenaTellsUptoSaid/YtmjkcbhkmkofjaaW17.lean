/-
  WALKS: two models are the same, told by the document and by the program.
-/
import Derived.Test.YtmjkcbhkmkofjaaW16
namespace Go.Proofs.Ytmjkcbhkmkofjaa
open Go Go.RowKit Go.Sort
set_option linter.unusedVariables false

def mdE (next next' : Int) (nds nds' : List Nd) : Bool := (next == next') && eqL nodeE nds nds'
theorem mdE_refl (next : Int) (nds : List Nd) : mdE next next nds nds = true := by unfold mdE; rw [eqL_refl nodeE_refl]; simp
/-- the boxes of two models -/
structure M2 (w : World) (next next' : Int) (A A' : Option Addr) (n c n' c' : Nat) (wr : World) : Prop where
  a : Blk wr w.heap.size 24 #[.int .i64 next, .slice A n c]
  b : Blk wr (w.heap.size + 1) 24 #[.int .i64 next', .slice A' n' c']
  bel : Below w.heap.size w wr
section
variable {w wr w' : World} {next next' : Int} {A A' : Option Addr} {n c n' c' : Nat}
theorem M2.start (w : World) (next next' : Int) (A A' : Option Addr) (n c n' c' : Nat) : M2 w next next' A A' n c n' c' ((w.alloc (.cells #[.int .i64 next, .slice A n c] 24)).alloc (.cells #[.int .i64 next', .slice A' n' c'] 24)) :=
  ⟨(Blk.new _ _ _).alloc _, Blk.new' (by simp), (below_box _ _).alloc (by simp) _⟩
theorem M2.after (h : M2 w next next' A A' n c n' c' wr) (hb : Below wr.heap.size wr w') : M2 w next next' A A' n c n' c' w' := ⟨h.a.after hb, h.b.after hb, h.bel.trans (hb.mono h.bel.size)⟩
theorem M2.size (h : M2 w next next' A A' n c n' c' wr) : w.heap.size + 1 < wr.heap.size := h.b.lt
end

set_option maxRecDepth 100000 in
set_option maxHeartbeats 3200000 in
theorem refSame_any (w : World) (hi : Nat) (next next' : Int) (A A' : Option Addr) (n c n' c' : Nat) (nds nds' : List Nd) (h : NodesIn w 0 hi A n c nds) (h' : NodesIn w 0 hi A' n' c' nds') (hh : hi ≤ w.heap.size) :
    Calls Try.prog 14 #[.agg #[.int .i64 next, .slice A n c], .agg #[.int .i64 next', .slice A' n' c']] w (Ret w (.bool (mdE next next' nds nds'))) := by
  have hc := h.2.2.1
  have hnc := h.2.1
  have HL1 := Lib.hid h.1
  have hc' := h'.2.2.1
  have hnc' := h'.2.1
  have HL2 := Lib.hid h'.1
  unfold maxLen at hc hc'
  have HM0 := Lib.hid (M2.start w next next' A A' n c n' c')
  have HN : Hid (mdE next next' nds nds' = ((next == next') && eqL nodeE nds nds')) := Lib.hid rfl
  by_cases e1 : next = next'
  · have d1 : (next != next') = false := by rw [bne_eq_false_iff_eq]; exact e1
    have HN : Hid (mdE next next' nds nds' = eqL nodeE nds nds') := Lib.hid (by rw [HN.out, beq_iff_eq.2 e1]; rfl)
    clear e1
    by_cases e2 : n = n'
    · have d2 : ((n : Int) != (n' : Int)) = false := by rw [bne_eq_false_iff_eq]; omega
      subst e2
      go_enter Try.func14, Try.ntmps14
      go_wp2_with fail
      go_loopw [5] (fun i wr => ∃ k : Nat, k ≤ n ∧ i = .int .i64 k ∧ M2 w next next' A A' n c n c' wr ∧ Hid (eqL nodeE nds nds' = eqL nodeE (nds.drop k) (nds'.drop k))) (fun i _ => n - (intOf i).toNat)
      case atStart => exact ⟨0, by omega, rfl, HM0.out, Lib.hid rfl⟩
      case round =>
        clear HM0
        obtain ⟨k, hk, rfl, M, HK⟩ := hrel
        have c1 := M.a.cell 1
        have c2 := M.b.cell 1
        simp at c1 c2
        have hbel := M.bel
        have hsz := M.size
        have HM := Lib.hid M
        clear M
        by_cases hlt : k < n
        · obtain ⟨b1, o1, hA1, _, hb1, V1, hV1⟩ := h.all (by omega)
          obtain ⟨b2, o2, hA2, _, hb2', V2, hV2⟩ := h'.all (by omega)
          subst hA1 hA2
          obtain ⟨x, hx⟩ : ∃ x, nds[k]? = some x := ⟨nds[k]'(by have := HL1.out; omega), List.getElem?_eq_getElem _⟩
          obtain ⟨y, hy⟩ : ∃ y, nds'[k]? = some y := ⟨nds'[k]'(by have := HL2.out; omega), List.getElem?_eq_getElem _⟩
          have hat1 := (hV1 k x hx).1.below hbel (by omega)
          have hlf1 := (hV1 k x hx).2
          have hat2 := (hV2 k y hy).1.below hbel (by omega)
          have hlf2 := (hV2 k y hy).2
          have HD : Hid (eqL nodeE nds nds' = (nodeE x y && eqL nodeE (nds.drop (k + 1)) (nds'.drop (k + 1)))) := Lib.hid (by
            obtain ⟨hl1, e1⟩ := List.getElem?_eq_some_iff.1 hx
            obtain ⟨hl2, e2⟩ := List.getElem?_eq_some_iff.1 hy
            rw [HK.out, List.drop_eq_getElem_cons hl1, List.drop_eq_getElem_cons hl2, e1, e2]; rfl)
          generalize V1 k = L1 at hat1 hlf1
          generalize V2 k = L2 at hat2 hlf2
          obtain ⟨⟨Ap1, np1, cp1⟩, ⟨Ak1, nk1, ck1⟩, ⟨Ar1, nr1, cr1⟩⟩ := L1
          obtain ⟨⟨Ap2, np2, cp2⟩, ⟨Ak2, nk2, ck2⟩, ⟨Ar2, nr2, cr2⟩⟩ := L2
          obtain ⟨a0, a1, a2, a3, a4, a5, a6⟩ := hat1
          obtain ⟨g0, g1, g2, g3, g4, g5, g6⟩ := hat2
          simp only at a4 a5 a6 g4 g5 g6
          obtain ⟨r, hr⟩ : ∃ b, nodeE x y = b := ⟨_, rfl⟩
          rw [hr] at HD
          have hS : ∀ d os, Calls Try.prog 26 #[.agg #[.int .i64 x.id, .string x.con, .int .i64 x.par, .string x.role, .slice Ap1 np1 cp1, .slice Ak1 nk1 ck1, .slice Ar1 nr1 cr1], .agg #[.int .i64 y.id, .string y.con, .int .i64 y.par, .string y.role, .slice Ap2 np2 cp2, .slice Ak2 nk2 ck2, .slice Ar2 nr2 cr2]] (grow (redrawn wr d) os) (Ret (grow (redrawn wr d) os) (.bool (nodeE x y))) := fun d os =>
            refSameNode_any _ hi x y ⟨⟨Ap1, np1, cp1⟩, ⟨Ak1, nk1, ck1⟩, ⟨Ar1, nr1, cr1⟩⟩ ⟨⟨Ap2, np2, cp2⟩, ⟨Ak2, nk2, ck2⟩, ⟨Ar2, nr2, cr2⟩⟩ ((hlf1.below (hbel.mono hh)).below ((below_regrown wr d os).mono (by omega))) ((hlf2.below (hbel.mono hh)).below ((below_regrown wr d os).mono (by omega))) (by have := (below_regrown wr d os).size; omega)
          rw [hr] at hS
          have HS := Lib.hid hS
          have z0 := cell_regrown c1
          have z1 := cell_regrown c2
          have u0 := cell_regrown a0
          have v0 := cell_regrown g0
          have u1 := cell_regrown a1
          have v1 := cell_regrown g1
          have u2 := cell_regrown a2
          have v2 := cell_regrown g2
          have u3 := cell_regrown a3
          have v3 := cell_regrown g3
          have u4 := cell_regrown a4
          have v4 := cell_regrown g4
          have u5 := cell_regrown a5
          have v5 := cell_regrown g5
          have u6 := cell_regrown a6
          have v6 := cell_regrown g6
          clear hS hr hx hy hV1 hV2 hlf1 hlf2 HK a0 a1 a2 a3 a4 a5 a6 g0 g1 g2 g3 g4 g5 g6
          cases r with
          | false =>
            have HZ : Hid (mdE next next' nds nds' = false) := Lib.hid (by rw [HN.out, HD.out]; rfl)
            clear HD
            go_wp2_with fail
            refine wp_region_quiet_below (by kernel_rfl) (by kernel_rfl) ?_
            repeat (go_big_quiet_step ((go_at_call 26; exact regrown_ret (HS.out _ _))))
            refine wpQuiet_nil ?_
            intro _ hw'
            obtain ⟨⟨dq, osq⟩, hw''⟩ := hw'
            subst hw''
            have hb2 := below_regrown wr dq osq
            generalize grow (redrawn wr dq) osq = w2 at hb2 ⊢
            go_wp2_with fail
            go_ret
            exact ret_b HZ.out rfl (HM.out.after hb2).bel
          | true =>
            have HZ : Hid (eqL nodeE nds nds' = eqL nodeE (nds.drop (k + 1)) (nds'.drop (k + 1))) := Lib.hid (by rw [HD.out]; rfl)
            clear HD
            go_wp2_with fail
            refine wp_region_quiet_below (by kernel_rfl) (by kernel_rfl) ?_
            repeat (go_big_quiet_step ((go_at_call 26; exact regrown_ret (HS.out _ _))))
            refine wpQuiet_nil ?_
            intro _ hw'
            obtain ⟨⟨dq, osq⟩, hw''⟩ := hw'
            subst hw''
            have hb2 := below_regrown wr dq osq
            generalize grow (redrawn wr dq) osq = w2 at hb2 ⊢
            clear z0 z1 u0 u1 u2 u3 u4 u5 u6 v0 v1 v2 v3 v4 v5 v6
            go_wp2_with fail
            go_roundw
            case rel => exact ⟨k + 1, by omega, by go_num, HM.out.after hb2, HZ⟩
            case measure => simp [intOf]; omega
        · have HZ : Hid (mdE next next' nds nds' = true) := Lib.hid (by rw [HN.out, HK.out, List.drop_eq_nil_of_le (by have := HL1.out; omega), List.drop_eq_nil_of_le (by have := HL2.out; omega)]; rfl)
          clear HK
          go_wp2_with fail
          go_ret
          exact ret_b HZ.out rfl hbel
    · have d2 : ((n : Int) != (n' : Int)) = true := by rw [bne_iff_ne]; omega
      have HZ : Hid (mdE next next' nds nds' = false) := Lib.hid (by rw [HN.out, eqL_len nodeE (by have := HL1.out; have := HL2.out; omega)])
      clear e2
      go_enter Try.func14, Try.ntmps14
      go_wp2_with fail
      go_ret
      exact ret_b HZ.out rfl HM0.out.bel
  · have d1 : (next != next') = true := by rw [bne_iff_ne]; exact e1
    have HZ : Hid (mdE next next' nds nds' = false) := Lib.hid (by rw [HN.out, beq_eq_false_iff_ne.2 e1]; rfl)
    clear e1
    go_enter Try.func14, Try.ntmps14
    go_wp2_with fail
    go_ret
    exact ret_b HZ.out rfl HM0.out.bel


end Go.Proofs.Ytmjkcbhkmkofjaa

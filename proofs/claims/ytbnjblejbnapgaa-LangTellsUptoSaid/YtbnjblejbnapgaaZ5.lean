/-
  WALKS: the document: two languages are the same.
  MODELS OF THE CALL's OWN: nodes and their lists in memory that the call made; a cell of a node turned; copy of a whole row.
  WALKS: the program's own: lists, nodes, models in memory of their own.
  WALKS: the document's: nodes and models in memory of their own.
  WALKS: the document: a concept in memory of its own.
  WALKS: the document: sides in memory of their own.
  WALKS: own lists of parts that grow (plain).
  WALKS: the loops of Twin.
-/
import Derived.Test.YtbnjblejbnapgaaZ4
import Derived.Laws.OwnMore
import Derived.Laws.CopyRow
import Derived.Laws.IdiomCopy
import Derived.Laws.CopyOwn
import Derived.OwnWalk
namespace Go.Proofs.Ytbnjblejbnapgaa
open Go Go.RowKit Go.Sort
set_option linter.unusedVariables false
set_option maxRecDepth 100000 in
set_option maxHeartbeats 12800000 in
theorem refSame4_any (w : World) (hi : Nat) (x y : LangM) (hx : LangIn w 0 hi x) (hy : LangIn w 0 hi y) (hh : hi ≤ w.heap.size) :
    Calls Try.prog 7 #[.agg #[.string x.name, .int .i64 x.ver, .slice x.U.A x.U.n x.U.c, .slice x.C.A x.C.n x.C.c, .slice x.N.A x.N.n x.N.c, .slice x.Q.A x.Q.n x.Q.c, .slice x.E.A x.E.n x.E.c, .slice x.T.A x.T.n x.T.c], .agg #[.string y.name, .int .i64 y.ver, .slice y.U.A y.U.n y.U.c, .slice y.C.A y.C.n y.C.c, .slice y.N.A y.N.n y.N.c, .slice y.Q.A y.Q.n y.Q.c, .slice y.E.A y.E.n y.E.c, .slice y.T.A y.T.n y.T.c]] w (Ret w (.bool (langEM x y))) := by
  obtain ⟨nm1, vr1, ⟨Au1, nu1, cu1⟩, us1, ⟨Ac1, nc1, cc1⟩, cs1, ⟨An1, nn1, cn1⟩, ru1, ⟨Aq1, nq1, cq1⟩, qs1, ⟨Ae1, ne1, ce1⟩, es1, ⟨At1, nt1, ct1⟩, ts1⟩ := x
  obtain ⟨nm2, vr2, ⟨Au2, nu2, cu2⟩, us2, ⟨Ac2, nc2, cc2⟩, cs2, ⟨An2, nn2, cn2⟩, ru2, ⟨Aq2, nq2, cq2⟩, qs2, ⟨Ae2, ne2, ce2⟩, es2, ⟨At2, nt2, ct2⟩, ts2⟩ := y
  have HX := Lib.hid hx
  have HY := Lib.hid hy
  obtain ⟨iun1, iu1, ic1, inn1, in1, iq1, ie1, it1⟩ := hx
  obtain ⟨iun2, iu2, ic2, inn2, in2, iq2, ie2, it2⟩ := hy
  simp only at iun1 iun2 iu1 iu2 ic1 ic2 inn1 inn2 in1 in2 iq1 iq2 ie1 ie2 it1 it2 ⊢
  have HW := Lib.hid (B2.start w 29 #[.string nm1, .int .i64 vr1, .slice Au1 nu1 cu1, .slice Ac1 nc1 cc1, .slice An1 nn1 cn1, .slice Aq1 nq1 cq1, .slice Ae1 ne1 ce1, .slice At1 nt1 ct1] #[.string nm2, .int .i64 vr2, .slice Au2 nu2 cu2, .slice Ac2 nc2 cc2, .slice An2 nn2 cn2, .slice Aq2 nq2 cq2, .slice Ae2 ne2 ce2, .slice At2 nt2 ct2])
  have HN : Hid (langEM ⟨nm1, vr1, ⟨Au1, nu1, cu1⟩, us1, ⟨Ac1, nc1, cc1⟩, cs1, ⟨An1, nn1, cn1⟩, ru1, ⟨Aq1, nq1, cq1⟩, qs1, ⟨Ae1, ne1, ce1⟩, es1, ⟨At1, nt1, ct1⟩, ts1⟩ ⟨nm2, vr2, ⟨Au2, nu2, cu2⟩, us2, ⟨Ac2, nc2, cc2⟩, cs2, ⟨An2, nn2, cn2⟩, ru2, ⟨Aq2, nq2, cq2⟩, qs2, ⟨Ae2, ne2, ce2⟩, es2, ⟨At2, nt2, ct2⟩, ts2⟩ = ((nm1.toList == nm2.toList) && (vr1 == vr2) && eqL strE us1 us2 && eqL conEM cs1 cs2 && eqL ruE ru1 ru2 && eqL eqEM qs1 qs2 && eqL rowEM es1 es2 && eqL rowEM ts1 ts2)) := Lib.hid rfl
  obtain ⟨res, hres⟩ : ∃ b, langEM ⟨nm1, vr1, ⟨Au1, nu1, cu1⟩, us1, ⟨Ac1, nc1, cc1⟩, cs1, ⟨An1, nn1, cn1⟩, ru1, ⟨Aq1, nq1, cq1⟩, qs1, ⟨Ae1, ne1, ce1⟩, es1, ⟨At1, nt1, ct1⟩, ts1⟩ ⟨nm2, vr2, ⟨Au2, nu2, cu2⟩, us2, ⟨Ac2, nc2, cc2⟩, cs2, ⟨An2, nn2, cn2⟩, ru2, ⟨Aq2, nq2, cq2⟩, qs2, ⟨Ae2, ne2, ce2⟩, es2, ⟨At2, nt2, ct2⟩, ts2⟩ = b := ⟨_, rfl⟩
  rw [hres] at HN ⊢
  have HR := Lib.hid hres
  clear hres
  have hE1 : ∀ w2, Below w.heap.size w w2 → Calls Try.prog 13 #[.slice Au1 nu1 cu1, .slice Au2 nu2 cu2] w2 (Ret w2 (.bool (eqL strE us1 us2))) := fun w2 hb2 => (refTexts_any w2 0 hi 0 hi _ _ _ _ _ _ _ _ (iu1.below (hb2.mono hh)) (iu2.below (hb2.mono hh))).mono fun _ _ => ret_of_drew
  obtain ⟨e1, he1⟩ : ∃ b, eqL strE us1 us2 = b := ⟨_, rfl⟩
  rw [he1] at hE1 HN
  have HE1 := Lib.hid hE1
  have HU1 := Lib.hid he1
  clear hE1 he1 iun1 iun2 iu1 iu2
  have Hnc1 := Lib.hid ic1.n
  have HRc1 := Lib.hid ic1
  have zc1 := ic1.row.2.2.1
  have yc1 := ic1.row.2.1
  have Hnc2 := Lib.hid ic2.n
  have HRc2 := Lib.hid ic2
  have zc2 := ic2.row.2.2.1
  have yc2 := ic2.row.2.1
  have Hnn1 := Lib.hid inn1
  have HRn1 := Lib.hid in1
  have zn1 := in1.2.2.1
  have yn1 := in1.2.1
  have Hnn2 := Lib.hid inn2
  have HRn2 := Lib.hid in2
  have zn2 := in2.2.2.1
  have yn2 := in2.2.1
  have Hnq1 := Lib.hid iq1.n
  have HRq1 := Lib.hid iq1
  have zq1 := iq1.row.2.2.1
  have yq1 := iq1.row.2.1
  have Hnq2 := Lib.hid iq2.n
  have HRq2 := Lib.hid iq2
  have zq2 := iq2.row.2.2.1
  have yq2 := iq2.row.2.1
  have Hne1 := Lib.hid ie1.n
  have HRe1 := Lib.hid ie1
  have ze1 := ie1.row.2.2.1
  have ye1 := ie1.row.2.1
  have Hne2 := Lib.hid ie2.n
  have HRe2 := Lib.hid ie2
  have ze2 := ie2.row.2.2.1
  have ye2 := ie2.row.2.1
  have Hnt1 := Lib.hid it1.n
  have HRt1 := Lib.hid it1
  have zt1 := it1.row.2.2.1
  have yt1 := it1.row.2.1
  have Hnt2 := Lib.hid it2.n
  have HRt2 := Lib.hid it2
  have zt2 := it2.row.2.2.1
  have yt2 := it2.row.2.1
  simp only at Hnc1 Hnc2 Hnn1 Hnn2 Hnq1 Hnq2 Hne1 Hne2 Hnt1 Hnt2 zc1 zc2 zn1 zn2 zq1 zq2 ze1 ze2 zt1 zt2 yc1 yc2 yn1 yn2 yq1 yq2 ye1 ye2 yt1 yt2
  unfold maxLen at zc1 zc2 zn1 zn2 zq1 zq2 ze1 ze2 zt1 zt2
  clear inn1 inn2 ic1 ic2 in1 in2 iq1 iq2 ie1 ie2 it1 it2
  cases d0 : (nm1.toList == nm2.toList) with
  | false =>
    have m0 : (nm1.toList != nm2.toList) = true := by unfold bne; rw [d0]; rfl
    have HZ : Hid (res = false) := Lib.hid (by rw [HN.out, d0]; simp)
    clear HN
    go_enter Try.func7, Try.ntmps7
    go_wp2_with fail
    go_ret
    exact ret_b HZ.out rfl HW.out.bel
  | true =>
    have m0 : (nm1.toList != nm2.toList) = false := by unfold bne; rw [d0]; rfl
    cases d1 : (vr1 == vr2) with
    | false =>
      have m1 : (vr1 != vr2) = true := by unfold bne; rw [d1]; rfl
      have HZ : Hid (res = false) := Lib.hid (by rw [HN.out, d1]; simp)
      clear HN
      go_enter Try.func7, Try.ntmps7
      go_wp2_with fail
      go_ret
      exact ret_b HZ.out rfl HW.out.bel
    | true =>
      have m1 : (vr1 != vr2) = false := by unfold bne; rw [d1]; rfl
      replace HN : Hid (res = (e1 && eqL conEM cs1 cs2 && eqL ruE ru1 ru2 && eqL eqEM qs1 qs2 && eqL rowEM es1 es2 && eqL rowEM ts1 ts2)) := Lib.hid (by rw [HN.out, d0, d1]; simp only [Bool.true_and])
      cases e1 with
      | false =>
        replace HN : Hid (res = false) := Lib.hid (by rw [HN.out]; simp only [Bool.false_and])
        go_enter Try.func7, Try.ntmps7
        go_wp2_with (go_at_call 13; (with_reducible refine (HE1.out _ HW.out.bel).mono ?_); rintro e w1 ⟨rfl, hb1⟩; obtain ⟨s1, t1⟩ := bcell hb1; have HB1 := Lib.hid (HW.out.after hb1); have hz1 := HB1.out.size; have hz1' : w.heap.size < w1.heap.size := (by omega); clear hb1)
        go_ret
        exact ret_b HN.out rfl HB1.out.bel
      | true =>
        replace HN : Hid (res = (eqL conEM cs1 cs2 && eqL ruE ru1 ru2 && eqL eqEM qs1 qs2 && eqL rowEM es1 es2 && eqL rowEM ts1 ts2)) := Lib.hid (by rw [HN.out]; simp only [Bool.true_and])
        by_cases lc : nc1 = nc2
        · have fc : ((nc1 : Int) != (nc2 : Int)) = false := by rw [bne_eq_false_iff_eq]; omega
          subst lc
          by_cases ln : nn1 = nn2
          · have fn : ((nn1 : Int) != (nn2 : Int)) = false := by rw [bne_eq_false_iff_eq]; omega
            subst ln
            by_cases lq : nq1 = nq2
            · have fq : ((nq1 : Int) != (nq2 : Int)) = false := by rw [bne_eq_false_iff_eq]; omega
              subst lq
              by_cases le : ne1 = ne2
              · have fe : ((ne1 : Int) != (ne2 : Int)) = false := by rw [bne_eq_false_iff_eq]; omega
                subst le
                by_cases lt : nt1 = nt2
                · have ft : ((nt1 : Int) != (nt2 : Int)) = false := by rw [bne_eq_false_iff_eq]; omega
                  subst lt
                  have := refSame4_main w hi _ _ HX.out HY.out hh d0 d1 HU1.out rfl rfl rfl rfl rfl
                  rw [HR.out] at this
                  exact this
                · have ft : ((nt1 : Int) != (nt2 : Int)) = true := by rw [bne_iff_ne]; omega
                  replace HN : Hid (res = false) := Lib.hid (by rw [HN.out, eqL_len rowEM (l := ts1) (m := ts2) (by have := Hnt1.out; have := Hnt2.out; omega)]; simp only [Bool.false_and, Bool.and_false])
                  clear lt
                  go_enter Try.func7, Try.ntmps7
                  go_wp2_with (go_at_call 13; (with_reducible refine (HE1.out _ HW.out.bel).mono ?_); rintro e w1 ⟨rfl, hb1⟩; obtain ⟨s1, t1⟩ := bcell hb1; have HB1 := Lib.hid (HW.out.after hb1); have hz1 := HB1.out.size; have hz1' : w.heap.size < w1.heap.size := (by omega); clear hb1)
                  go_ret
                  exact ret_b HN.out rfl HB1.out.bel
              · have fe : ((ne1 : Int) != (ne2 : Int)) = true := by rw [bne_iff_ne]; omega
                replace HN : Hid (res = false) := Lib.hid (by rw [HN.out, eqL_len rowEM (l := es1) (m := es2) (by have := Hne1.out; have := Hne2.out; omega)]; simp only [Bool.false_and, Bool.and_false])
                clear le
                go_enter Try.func7, Try.ntmps7
                go_wp2_with (go_at_call 13; (with_reducible refine (HE1.out _ HW.out.bel).mono ?_); rintro e w1 ⟨rfl, hb1⟩; obtain ⟨s1, t1⟩ := bcell hb1; have HB1 := Lib.hid (HW.out.after hb1); have hz1 := HB1.out.size; have hz1' : w.heap.size < w1.heap.size := (by omega); clear hb1)
                go_ret
                exact ret_b HN.out rfl HB1.out.bel
            · have fq : ((nq1 : Int) != (nq2 : Int)) = true := by rw [bne_iff_ne]; omega
              replace HN : Hid (res = false) := Lib.hid (by rw [HN.out, eqL_len eqEM (l := qs1) (m := qs2) (by have := Hnq1.out; have := Hnq2.out; omega)]; simp only [Bool.false_and, Bool.and_false])
              clear lq
              go_enter Try.func7, Try.ntmps7
              go_wp2_with (go_at_call 13; (with_reducible refine (HE1.out _ HW.out.bel).mono ?_); rintro e w1 ⟨rfl, hb1⟩; obtain ⟨s1, t1⟩ := bcell hb1; have HB1 := Lib.hid (HW.out.after hb1); have hz1 := HB1.out.size; have hz1' : w.heap.size < w1.heap.size := (by omega); clear hb1)
              go_ret
              exact ret_b HN.out rfl HB1.out.bel
          · have fn : ((nn1 : Int) != (nn2 : Int)) = true := by rw [bne_iff_ne]; omega
            replace HN : Hid (res = false) := Lib.hid (by rw [HN.out, eqL_len ruE (l := ru1) (m := ru2) (by have := Hnn1.out; have := Hnn2.out; omega)]; simp only [Bool.false_and, Bool.and_false])
            clear ln
            go_enter Try.func7, Try.ntmps7
            go_wp2_with (go_at_call 13; (with_reducible refine (HE1.out _ HW.out.bel).mono ?_); rintro e w1 ⟨rfl, hb1⟩; obtain ⟨s1, t1⟩ := bcell hb1; have HB1 := Lib.hid (HW.out.after hb1); have hz1 := HB1.out.size; have hz1' : w.heap.size < w1.heap.size := (by omega); clear hb1)
            go_ret
            exact ret_b HN.out rfl HB1.out.bel
        · have fc : ((nc1 : Int) != (nc2 : Int)) = true := by rw [bne_iff_ne]; omega
          replace HN : Hid (res = false) := Lib.hid (by rw [HN.out, eqL_len conEM (l := cs1) (m := cs2) (by have := Hnc1.out; have := Hnc2.out; omega)]; simp only [Bool.false_and, Bool.and_false])
          clear lc
          go_enter Try.func7, Try.ntmps7
          go_wp2_with (go_at_call 13; (with_reducible refine (HE1.out _ HW.out.bel).mono ?_); rintro e w1 ⟨rfl, hb1⟩; obtain ⟨s1, t1⟩ := bcell hb1; have HB1 := Lib.hid (HW.out.after hb1); have hz1 := HB1.out.size; have hz1' : w.heap.size < w1.heap.size := (by omega); clear hb1)
          go_ret
          exact ret_b HN.out rfl HB1.out.bel
end Go.Proofs.Ytbnjblejbnapgaa
namespace Go.Proofs.Ytbnjblejbnapgaa
open Go Go.RowKit Go.Sort
set_option linter.unusedVariables false
section
variable {w w' : World} {B : Nat} {nd : Nd} {L : Leaf}
theorem own_kept {e e' : TypeId} {size size' n n' B' : Nat} {v v' : Value} {xs xs' : List Value} (h : w.ownsRow B e size v n xs) (h' : w.ownsRow B' e' size' v' n' xs') (hne : e ≠ e') (hg : w.grownBy w' v'.ownBlock) : w'.ownsRow B e size v n xs :=
  World.ownsRow.kept h hg (own_own_ne h h' hne)
end
section
variable {w w' : World} {B : Nat} {v : Value} {l : List (Nd × Leaf)}
end
section
variable {P : Program} (w : World)
end
end Go.Proofs.Ytbnjblejbnapgaa
namespace Go.Proofs.Ytbnjblejbnapgaa
open Go Go.RowKit Go.Sort
set_option linter.unusedVariables false
attribute [local go_sem ↓] Go.wp_at_zero Go.wp_at_succ
/-- make of a row of elements, whatever their size: the cells are those of zero values, so many -/
theorem make_rows {P : Program} (t e : TypeId) (i : TypeInfo) (z : Value) (size bytes : Nat) (ht : P.underlying t = some (.slice e)) (hi : P.info? e = some i) (hz : i.zero = some z) (hs : i.size = size) (hb : i.bytes = bytes) (hzs : z.cells.size = size)
    (n : Nat) (hn : n * bytes ≤ 140737488355328) (hm : n ≤ 9223372036854775807) : ∃ cur : Array Value, cur.size = n * size ∧ ∀ w : World, (Instr.makeSlice t (.int .i64 (n : Int)) (.int .i64 (n : Int))).run P w = .ok (.slice (some ⟨w.heap.size, 0, none⟩) n n) (w.alloc (.cells cur e)) := by
  refine ⟨madeCells z.cells (n * i.size), ?_, fun w => ?_⟩
  · rw [hs]; simp [madeCells]
  · have h1 : (i.bytes : Int) * (n : Int) ≤ 281474976710656 := by
      have h2 : ((n * bytes : Nat) : Int) ≤ 281474976710656 := by omega
      rw [Int.natCast_mul] at h2
      rw [hb, Int.mul_comm]
      exact h2
    have hr := run_make (P := P) w t e i z ht hi hz .i64 .i64 n n (by omega) (by omega) h1 (by omega)
    simp only [Int.toNat_natCast] at hr
    exact hr
end Go.Proofs.Ytbnjblejbnapgaa
namespace Go.Proofs.Ytbnjblejbnapgaa
open Go Go.RowKit Go.Sort
set_option linter.unusedVariables false
attribute [local go_sem ↓] Go.wp_at_zero Go.wp_at_succ
theorem own_form {w : World} {B size n : Nat} {e : TypeId} {v : Value} {xs : List Value} (h : w.ownsRow B e size v n xs) : ∃ A c, v = .slice A n c := by
  rcases h.2 with ⟨rfl, rfl⟩ | ⟨g, cap, _, rfl, _⟩
  · exact ⟨none, 0, rfl⟩
  · exact ⟨_, _, rfl⟩
theorem own_emptyB {w : World} {B size g : Nat} {e : TypeId} (hg : Blk w g e #[]) (hB : B ≤ g) : w.ownsRow B e size (.slice (some ⟨g, 0, none⟩) 0 0) 0 [] := own_empty hg hB
section
variable {w X X' : World} {cs : Array Value}
end
end Go.Proofs.Ytbnjblejbnapgaa
namespace Go.Proofs.Ytbnjblejbnapgaa
open Go Go.RowKit Go.Sort
set_option linter.unusedVariables false
attribute [local go_sem ↓] Go.wp_at_zero Go.wp_at_succ
theorem info_pd : (Try.prog.info? 45).map (fun i => (i.zero, i.size, i.bytes)) = some (some (.agg #[.string ByteArray.empty, .int .i64 0]), 2, 24) := by kernel_rfl
theorem info_kd : (Try.prog.info? 47).map (fun i => (i.zero, i.size, i.bytes)) = some (some (.agg #[.string ByteArray.empty, .string ByteArray.empty, .int .i64 0, .int .i64 0]), 4, 48) := by kernel_rfl
theorem info_rd : (Try.prog.info? 49).map (fun i => (i.zero, i.size, i.bytes)) = some (some (.agg #[.string ByteArray.empty, .string ByteArray.empty, .bool false]), 3, 40) := by kernel_rfl
theorem info_ru : (Try.prog.info? 63).map (fun i => (i.zero, i.size, i.bytes)) = some (some (.agg #[.string ByteArray.empty, .string ByteArray.empty, .bool false, .string ByteArray.empty]), 4, 56) := by kernel_rfl
theorem info_ce : (Try.prog.info? 92).map (fun i => (i.zero, i.size, i.bytes)) = some (some (.agg #[.int .i64 0, .string ByteArray.empty, .string ByteArray.empty]), 3, 40) := by kernel_rfl
theorem info_pi : (Try.prog.info? 93).map (fun i => (i.zero, i.size, i.bytes)) = some (some (.agg #[.int .i64 0, .string ByteArray.empty, .string ByteArray.empty]), 3, 40) := by kernel_rfl
theorem info_side : (Try.prog.info? 82).map (fun i => (i.zero, i.size, i.bytes)) = some (some (.agg #[.int .i64 0, .string ByteArray.empty, .int .i64 0, .slice none 0 0]), 4, 56) := by kernel_rfl
theorem info_con : (Try.prog.info? 38).map (fun i => (i.zero, i.size, i.bytes)) = some (some (.agg #[.string ByteArray.empty, .string ByteArray.empty, .bool false, .slice none 0 0, .slice none 0 0, .slice none 0 0]), 6, 112) := by kernel_rfl
theorem info_eq : (Try.prog.info? 53).map (fun i => (i.zero, i.size, i.bytes)) = some (some (.agg #[.string ByteArray.empty, .slice none 0 0, .slice none 0 0]), 3, 64) := by kernel_rfl
theorem info_ed : (Try.prog.info? 56).map (fun i => (i.zero, i.size, i.bytes)) = some (some (.agg #[.string ByteArray.empty, .slice none 0 0]), 2, 40) := by kernel_rfl
theorem info_te : (Try.prog.info? 59).map (fun i => (i.zero, i.size, i.bytes)) = some (some (.agg #[.string ByteArray.empty, .slice none 0 0]), 2, 40) := by kernel_rfl
theorem info_str : (Try.prog.info? 9).map (fun i => (i.zero, i.size, i.bytes)) = some (some (.string ByteArray.empty), 1, 16) := by kernel_rfl
theorem info_int : (Try.prog.info? 3).map (fun i => (i.zero, i.size, i.bytes)) = some (some (.int .i64 0), 1, 8) := by kernel_rfl
theorem B2.kept {w X X' : World} {t : TypeId} {cs ds : Array Value} (h : B2 w t cs ds X) {e : TypeId} {size n : Nat} {v : Value} {xs : List Value} (hown : X.ownsRow w.heap.size e size v n xs) (hne : e ≠ t) (hg : X.grownBy X' v.ownBlock) : B2 w t cs ds X' :=
  ⟨h.a.grown hg (Ne.symm (own_blk_ne hown h.a hne)), h.b.grown hg (Ne.symm (own_blk_ne hown h.b hne)), below_grows h.bel hg hown (Nat.le_refl _)⟩
theorem B2.set {w X : World} {t : TypeId} {cs ds : Array Value} (h : B2 w t cs ds X) (i : Nat) (u : Value) : B2 w t (cs.setIfInBounds i u) ds (X.setCell ⟨w.heap.size, i, none⟩ u) :=
  ⟨h.a.set_ i u, h.b.far (p := ⟨w.heap.size, i, none⟩) (by simp) u, h.bel.setCell (p := ⟨w.heap.size, i, none⟩) (Nat.le_refl _) u⟩
/-- the lists of a concept, in own memory -/
structure ConOwn (w : World) (B : Nat) (x : ConD × Leaf) : Prop where
  pn : x.2.p.n = x.1.props.length
  kn : x.2.k.n = x.1.kids.length
  rn : x.2.r.n = x.1.refs.length
  p : w.ownsRow B 45 2 (.slice x.2.p.A x.2.p.n x.2.p.c) x.2.p.n (pdCells x.1.props)
  k : w.ownsRow B 47 4 (.slice x.2.k.A x.2.k.n x.2.k.c) x.2.k.n (kdCells x.1.kids)
  r : w.ownsRow B 49 3 (.slice x.2.r.A x.2.r.n x.2.r.c) x.2.r.n (rdCells x.1.refs)
/-- a concept in memory of its own -/
def TwinConPost (w : World) (x : ConD) (e : Ending) (w' : World) : Prop := ∃ M : Leaf, e = .returned (.agg #[.string x.name, .string x.super, .bool x.abs, .slice M.p.A M.p.n M.p.c, .slice M.k.A M.k.n M.k.c, .slice M.r.A M.r.n M.r.c]) ∧ ConOwn w' w.heap.size (x, M) ∧ Below w.heap.size w w'
set_option maxRecDepth 100000 in
set_option maxHeartbeats 3200000 in
theorem twinConcept_any (w : World) (hi : Nat) (x : ConD × Leaf) (h : ConIn w 0 hi x) (hh : hi ≤ w.heap.size) (g1 : x.1.props.length ≤ 20000) (g2 : x.1.kids.length ≤ 20000) (g3 : x.1.refs.length ≤ 20000) :
    Calls Try.prog 30 #[.agg #[.string x.1.name, .string x.1.super, .bool x.1.abs, .slice x.2.p.A x.2.p.n x.2.p.c, .slice x.2.k.A x.2.k.n x.2.k.c, .slice x.2.r.A x.2.r.n x.2.r.c]] w (TwinConPost w x.1) := by
  obtain ⟨x, ⟨⟨Ap, np, cp⟩, ⟨Ak, nk, ck⟩, ⟨Ar, nr, cr⟩⟩⟩ := x
  obtain ⟨f1, f2, f3, f4, f5, f6⟩ := h
  simp only at f1 f2 f3 f4 f5 f6 g1 g2 g3 ⊢
  have HQ0 : Hid (B2 w 38 #[.string x.name, .string x.super, .bool x.abs, .slice Ap np cp, .slice Ak nk ck, .slice Ar nr cr] #[.string ⟨#[]⟩, .string ⟨#[]⟩, .bool false, .slice none 0 0, .slice none 0 0, .slice none 0 0] ((w.alloc (.cells #[.string x.name, .string x.super, .bool x.abs, .slice Ap np cp, .slice Ak nk ck, .slice Ar nr cr] 38)).alloc (.cells #[.string ⟨#[]⟩, .string ⟨#[]⟩, .bool false, .slice none 0 0, .slice none 0 0, .slice none 0 0] 38))) := Lib.hid (B2.start _ _ _ _)
  have F4 := Lib.hid f4
  have F5 := Lib.hid f5
  have F6 := Lib.hid f6
  have HF1 := Lib.hid f1
  have HF2 := Lib.hid f2
  have HF3 := Lib.hid f3
  have b1 : np ≤ 20000 := by omega
  have b2 : nk ≤ 20000 := by omega
  have b3 : nr ≤ 20000 := by omega
  obtain ⟨i1, hi1, hz1, hs1, hb1⟩ := info_parts info_pd
  obtain ⟨i2, hi2, hz2, hs2, hb2⟩ := info_parts info_kd
  obtain ⟨i3, hi3, hz3, hs3, hb3⟩ := info_parts info_rd
  clear f1 f2 f3 f4 f5 f6 g1 g2 g3
  go_enter Try.func30, Try.ntmps30
  go_wp2_with (first | (at_builtin; with_reducible show wpList _ _ _ (⟨some 6, _, _, _, _, _⟩ :: _) _ _; go_must (refine wpList_app (o := ⟨some 6, _, _, _, _, _⟩) _ rfl (.tmp 3) (.tmp 5) _ rfl w.heap.size 45 i1 _ 2 24 Try.underlying34 hi1 hz1 hs1 hb1 rfl (by omega) _ 0 [] rfl (own_emptyB (size := 2) (e := 45) (B := w.heap.size) (Blk.new' (by simp)) (Nat.le_trans HQ0.out.bel.size (Nat.le_of_eq (by simp)))) 0 hi Ap np cp (pdCells x.props) rfl (Row.below F4.out ((HQ0.out.bel.trans ((below_more (Below.refl _ _) _).mono HQ0.out.bel.size)).mono hh)) (pdCells_one _) (by unfold maxLen; omega) (by omega) (Nat.le_trans HQ0.out.bel.size (by simp)) ?_); go_must (intro v1 w1 hown1 hgr1 _; rw [Nat.zero_add, List.nil_append] at hown1; obtain ⟨A1, c1, rfl⟩ := own_form hown1; have hR1 := (HQ0.out.after (below_more (Below.refl _ _) _)).kept (own_emptyB (size := 2) (e := 45) (B := w.heap.size) (Blk.new' (by simp)) (Nat.le_trans HQ0.out.bel.size (Nat.le_of_eq (by simp)))) (by decide) hgr1; have HO1_1 := Lib.hid (own_other hown1 hR1.a (by decide) 3 (.slice A1 np c1)); have x1 := hR1.a.cell 3; have y1 := hR1.a.frozen 3; simp at x1; have hq1 := hR1.set 3 (.slice A1 np c1); have p1 : ((w1.setCell ⟨w.heap.size, 3, none⟩ (.slice A1 np c1)).alloc (.cells #[] 47)).cell? ⟨w.heap.size, 4, none⟩ = some (.slice Ak nk ck) := ((hq1.after (below_more (Below.refl _ _) _)).a.cell 4).trans rfl; have HQ1 := Lib.hid hq1; clear hq1 hR1 hown1 hgr1)) | (at_builtin; with_reducible show wpList _ _ _ (⟨some 11, _, _, _, _, _⟩ :: _) _ _; go_must (refine wpList_app (o := ⟨some 11, _, _, _, _, _⟩) _ rfl (.tmp 8) (.tmp 10) _ rfl w.heap.size 47 i2 _ 4 48 Try.underlying35 hi2 hz2 hs2 hb2 rfl (by omega) _ 0 [] rfl (own_emptyB (size := 4) (e := 47) (B := w.heap.size) (Blk.new' (by simp)) (Nat.le_trans HQ1.out.bel.size (Nat.le_of_eq (by simp)))) 0 hi Ak nk ck (kdCells x.kids) rfl (Row.below F5.out ((HQ1.out.bel.trans ((below_more (Below.refl _ _) _).mono HQ1.out.bel.size)).mono hh)) (kdCells_one _) (by unfold maxLen; omega) (by omega) (Nat.le_trans HQ1.out.bel.size (by simp)) ?_); go_must (intro v2 w2 hown2 hgr2 _; rw [Nat.zero_add, List.nil_append] at hown2; obtain ⟨A2, c2, rfl⟩ := own_form hown2; have hR2 := (HQ1.out.after (below_more (Below.refl _ _) _)).kept (own_emptyB (size := 4) (e := 47) (B := w.heap.size) (Blk.new' (by simp)) (Nat.le_trans HQ1.out.bel.size (Nat.le_of_eq (by simp)))) (by decide) hgr2; have HO1_2 := Lib.hid (own_other (own_kept (own_after HO1_1.out (below_more (Below.refl _ _) _)) (own_emptyB (size := 4) (e := 47) (B := w.heap.size) (Blk.new' (by simp)) (Nat.le_trans HQ1.out.bel.size (Nat.le_of_eq (by simp)))) (by decide) hgr2) hR2.a (by decide) 4 (.slice A2 nk c2)); have HO2_2 := Lib.hid (own_other hown2 hR2.a (by decide) 4 (.slice A2 nk c2)); have x2 := hR2.a.cell 4; have y2 := hR2.a.frozen 4; simp at x2; have hq2 := hR2.set 4 (.slice A2 nk c2); have p2 : ((w2.setCell ⟨w.heap.size, 4, none⟩ (.slice A2 nk c2)).alloc (.cells #[] 49)).cell? ⟨w.heap.size, 5, none⟩ = some (.slice Ar nr cr) := ((hq2.after (below_more (Below.refl _ _) _)).a.cell 5).trans rfl; have HQ2 := Lib.hid hq2; clear hq2 hR2 hown2 hgr2)) | (at_builtin; with_reducible show wpList _ _ _ (⟨some 16, _, _, _, _, _⟩ :: _) _ _; go_must (refine wpList_app (o := ⟨some 16, _, _, _, _, _⟩) _ rfl (.tmp 13) (.tmp 15) _ rfl w.heap.size 49 i3 _ 3 40 Try.underlying36 hi3 hz3 hs3 hb3 rfl (by omega) _ 0 [] rfl (own_emptyB (size := 3) (e := 49) (B := w.heap.size) (Blk.new' (by simp)) (Nat.le_trans HQ2.out.bel.size (Nat.le_of_eq (by simp)))) 0 hi Ar nr cr (rdCells x.refs) rfl (Row.below F6.out ((HQ2.out.bel.trans ((below_more (Below.refl _ _) _).mono HQ2.out.bel.size)).mono hh)) (rdCells_one _) (by unfold maxLen; omega) (by omega) (Nat.le_trans HQ2.out.bel.size (by simp)) ?_); go_must (intro v3 w3 hown3 hgr3 _; rw [Nat.zero_add, List.nil_append] at hown3; obtain ⟨A3, c3, rfl⟩ := own_form hown3; have hR3 := (HQ2.out.after (below_more (Below.refl _ _) _)).kept (own_emptyB (size := 3) (e := 49) (B := w.heap.size) (Blk.new' (by simp)) (Nat.le_trans HQ2.out.bel.size (Nat.le_of_eq (by simp)))) (by decide) hgr3; have HO1_3 := Lib.hid (own_other (own_kept (own_after HO1_2.out (below_more (Below.refl _ _) _)) (own_emptyB (size := 3) (e := 49) (B := w.heap.size) (Blk.new' (by simp)) (Nat.le_trans HQ2.out.bel.size (Nat.le_of_eq (by simp)))) (by decide) hgr3) hR3.a (by decide) 5 (.slice A3 nr c3)); have HO2_3 := Lib.hid (own_other (own_kept (own_after HO2_2.out (below_more (Below.refl _ _) _)) (own_emptyB (size := 3) (e := 49) (B := w.heap.size) (Blk.new' (by simp)) (Nat.le_trans HQ2.out.bel.size (Nat.le_of_eq (by simp)))) (by decide) hgr3) hR3.a (by decide) 5 (.slice A3 nr c3)); have HO3_3 := Lib.hid (own_other hown3 hR3.a (by decide) 5 (.slice A3 nr c3)); have x3 := hR3.a.cell 5; have y3 := hR3.a.frozen 5; simp at x3; have hq3 := hR3.set 5 (.slice A3 nr c3); have k0 := hq3.a.cell 0; have k1 := hq3.a.cell 1; have k2 := hq3.a.cell 2; have k3 := hq3.a.cell 3; have k4 := hq3.a.cell 4; have k5 := hq3.a.cell 5; simp at k0 k1 k2 k3 k4 k5; have m0 := hq3.b.cell 0; have m1 := hq3.b.cell 1; have m2 := hq3.b.cell 2; have m3 := hq3.b.cell 3; have m4 := hq3.b.cell 4; have m5 := hq3.b.cell 5; simp at m0 m1 m2 m3 m4 m5; have l0 := hq3.b.frozen 0; have l1 := hq3.b.frozen 1; have l2 := hq3.b.frozen 2; have l3 := hq3.b.frozen 3; have l4 := hq3.b.frozen 4; have l5 := hq3.b.frozen 5; have HQ3 := Lib.hid hq3; clear hq3 hR3 hown3 hgr3)))
  (try rw [Exit.noGoto_ret])
  (try simp only [Exit.inBlock, Exit.then])
  have hres : Try.f30.results = #[.cell 2 38] := by kernel_rfl
  refine bodyPost_ret (v := .agg #[.string x.name, .string x.super, .bool x.abs, .slice A1 np c1, .slice A2 nk c2, .slice A3 nr c3]) ?hr rfl ?_
  case hr =>
    simp only [results, hres]
    go_simp
  have z0 := HQ3.out.b
  have y0 := HO1_3.out
  have y0' := HO2_3.out
  have y0'' := HO3_3.out
  have bb := HQ3.out.bel
  have q0 := own_other y0 z0 (by decide) 0 (.string x.name)
  have q0' := own_other y0' z0 (by decide) 0 (.string x.name)
  have q0'' := own_other y0'' z0 (by decide) 0 (.string x.name)
  have s0 := bb.setCell (p := ⟨w.heap.size + 1, 0, none⟩) (Nat.le_succ _) (.string x.name)
  have t0 := z0.set_ 0 (.string x.name)
  have q1 := own_other q0 t0 (by decide) 1 (.string x.super)
  have q1' := own_other q0' t0 (by decide) 1 (.string x.super)
  have q1'' := own_other q0'' t0 (by decide) 1 (.string x.super)
  have s1 := s0.setCell (p := ⟨w.heap.size + 1, 1, none⟩) (Nat.le_succ _) (.string x.super)
  have t1 := t0.set_ 1 (.string x.super)
  have q2 := own_other q1 t1 (by decide) 2 (.bool x.abs)
  have q2' := own_other q1' t1 (by decide) 2 (.bool x.abs)
  have q2'' := own_other q1'' t1 (by decide) 2 (.bool x.abs)
  have s2 := s1.setCell (p := ⟨w.heap.size + 1, 2, none⟩) (Nat.le_succ _) (.bool x.abs)
  have t2 := t1.set_ 2 (.bool x.abs)
  have q3 := own_other q2 t2 (by decide) 3 (.slice A1 np c1)
  have q3' := own_other q2' t2 (by decide) 3 (.slice A1 np c1)
  have q3'' := own_other q2'' t2 (by decide) 3 (.slice A1 np c1)
  have s3 := s2.setCell (p := ⟨w.heap.size + 1, 3, none⟩) (Nat.le_succ _) (.slice A1 np c1)
  have t3 := t2.set_ 3 (.slice A1 np c1)
  have q4 := own_other q3 t3 (by decide) 4 (.slice A2 nk c2)
  have q4' := own_other q3' t3 (by decide) 4 (.slice A2 nk c2)
  have q4'' := own_other q3'' t3 (by decide) 4 (.slice A2 nk c2)
  have s4 := s3.setCell (p := ⟨w.heap.size + 1, 4, none⟩) (Nat.le_succ _) (.slice A2 nk c2)
  have t4 := t3.set_ 4 (.slice A2 nk c2)
  have q5 := own_other q4 t4 (by decide) 5 (.slice A3 nr c3)
  have q5' := own_other q4' t4 (by decide) 5 (.slice A3 nr c3)
  have q5'' := own_other q4'' t4 (by decide) 5 (.slice A3 nr c3)
  have s5 := s4.setCell (p := ⟨w.heap.size + 1, 5, none⟩) (Nat.le_succ _) (.slice A3 nr c3)
  have t5 := t4.set_ 5 (.slice A3 nr c3)
  exact ⟨⟨⟨A1, np, c1⟩, ⟨A2, nk, c2⟩, ⟨A3, nr, c3⟩⟩, rfl, ⟨HF1.out, HF2.out, HF3.out, q5, q5', q5''⟩, s5⟩
end Go.Proofs.Ytbnjblejbnapgaa
namespace Go.Proofs.Ytbnjblejbnapgaa
open Go Go.RowKit Go.Sort
set_option linter.unusedVariables false
attribute [local go_sem ↓] Go.wp_at_zero Go.wp_at_succ
/-- what holds while sides are made anew -/
structure TS (w : World) (ov : Value) (l : List (SideD × Sl)) (wr : World) : Prop where
  own : wr.ownsRow w.heap.size 82 4 ov l.length (l.flatMap sideC)
  leaf : ∀ p ∈ l, p.2.n = p.1.args.length ∧ wr.ownsRow w.heap.size 3 1 (.slice p.2.A p.2.n p.2.c) p.2.n (intCells p.1.args)
  bel : Below w.heap.size w wr
theorem TS.after {w X X' : World} {ov : Value} {l : List (SideD × Sl)} (h : TS w ov l X) (hb : Below X.heap.size X X') : TS w ov l X' := ⟨own_after h.own hb, fun p hp => ⟨(h.leaf p hp).1, own_after (h.leaf p hp).2 hb⟩, h.bel.trans (hb.mono h.bel.size)⟩
theorem TS.push {w X X' : World} {ov v' : Value} {l : List (SideD × Sl)} {p : SideD × Sl} (h : TS w ov l X) (hg : X.grownBy X' ov.ownBlock) (hown : X'.ownsRow w.heap.size 82 4 v' (l.length + 1) (l.flatMap sideC ++ sideC p))
    (hp : p.2.n = p.1.args.length ∧ X.ownsRow w.heap.size 3 1 (.slice p.2.A p.2.n p.2.c) p.2.n (intCells p.1.args)) : TS w v' (l ++ [p]) X' := by
  refine ⟨?_, fun q hq => ?_, below_grows h.bel hg h.own (Nat.le_refl _)⟩
  · rw [List.length_append, List.length_singleton, List.flatMap_append, List.flatMap_singleton]; exact hown
  · rcases List.mem_append.1 hq with hq | hq
    · exact ⟨(h.leaf q hq).1, own_kept (h.leaf q hq).2 h.own (by decide) hg⟩
    · obtain rfl : q = p := by simpa using hq
      exact ⟨hp.1, own_kept hp.2 h.own (by decide) hg⟩
theorem TS.start (w : World) : TS w (.slice none 0 0) [] w := ⟨⟨rfl, .inl ⟨rfl, rfl⟩⟩, by simp, Below.refl _ _⟩
theorem TS.grow {w X : World} {A : Option Addr} {n c : Nat} {l : List (SideD × Sl)} (h : TS w (.slice A n c) l X) (hn : n = l.length) : GRow sideC SideIn 4 X w.heap.size X.heap.size ⟨A, n, c⟩ l :=
  ⟨hn, by subst hn; exact own_row h.own, fun g hg => ⟨(h.leaf g hg).1, own_row (h.leaf g hg).2⟩⟩
/-- sides in memory of their own -/
def TwinSidePost (w : World) (l : List (SideD × Sl)) (e : Ending) (w' : World) : Prop := ∃ (A : Option Addr) (n c : Nat) (m : List (SideD × Sl)), e = .returned (.slice A n c) ∧ n = m.length ∧ TS w (.slice A n c) m w' ∧ eqL sideEM l m = true
theorem eqL_take_snoc {α : Type} {e : α → α → Bool} {l m : List α} {k : Nat} {x y : α} (h : eqL e (l.take k) m = true) (hx : l[k]? = some x) (hy : e x y = true) : eqL e (l.take (k + 1)) (m ++ [y]) = true := by
  obtain ⟨hl, ex⟩ := List.getElem?_eq_some_iff.1 hx
  rw [List.take_succ_eq_append_getElem hl, ex]
  exact eqL_snoc h hy
set_option maxRecDepth 100000 in
set_option maxHeartbeats 3200000 in
theorem twinSide_any (w : World) (hi : Nat) (S : Sl) (l : List (SideD × Sl)) (h : GRow sideC SideIn 4 w 0 hi S l) (hh : hi ≤ w.heap.size) (hn : l.length ≤ 20000) (ha : ∀ p ∈ l, p.1.args.length * 8 ≤ 140737488355328) :
    Calls Try.prog 31 #[.slice S.A S.n S.c] w (TwinSidePost w l) := by
  obtain ⟨A, n, c⟩ := S
  have hc := h.row.2.2.1
  have hnc := h.row.2.1
  have hL := h.n
  simp only at hc hnc hL ⊢
  have hn' : n ≤ 20000 := by omega
  have HL := Lib.hid hL
  have HH := Lib.hid h
  have HA := Lib.hid ha
  unfold maxLen at hc
  obtain ⟨i1, hi1, hz1, hs1, hb1⟩ := info_parts info_int
  obtain ⟨i2, hi2, hz2, hs2, hb2⟩ := info_parts info_side
  clear hL h ha hn
  go_enter Try.func31, Try.ntmps31
  go_wp2_with fail
  go_loopw [3, 4] (fun s3 i wr => ∃ (k : Nat) (m : List (SideD × Sl)) (ov : Value), k ≤ n ∧ i = .int .i64 k ∧ ov = s3 ∧ Hid (TS w ov m wr) ∧ Hid (eqL sideEM (l.take k) m = true)) (fun _ i _ => n - (intOf i).toNat)
  case atStart => exact ⟨0, [], _, Nat.zero_le _, rfl, rfl, Lib.hid (TS.start w), Lib.hid rfl⟩
  case round =>
    obtain ⟨k, m, ov, hk, rfl, rfl, HT, HE⟩ := hrel
    by_cases hlt : k < n
    · obtain ⟨b, o, hA, _, hb, V⟩ := HH.out.at_ (fun _ => rfl) (show 0 < n by omega)
      simp only at hA
      subst hA
      obtain ⟨x, hx⟩ : ∃ x, l[k]? = some x := ⟨l[k]'(by have := HL.out; omega), List.getElem?_eq_getElem _⟩
      obtain ⟨hlf, hat⟩ := V k x hx
      have hbel := HT.out.bel
      have q0 : wr.cell? ⟨b, o + k * 4, none⟩ = some (.int .i64 x.1.kind) := (hbel.cell (p := ⟨_, _, none⟩) (show b < w.heap.size by omega)).trans (hat 0 _ (by omega) rfl)
      have q1 : wr.cell? ⟨b, o + k * 4 + 1, none⟩ = some (.string x.1.name) := (hbel.cell (p := ⟨_, _, none⟩) (show b < w.heap.size by omega)).trans (hat 1 _ (by omega) rfl)
      have q2 : wr.cell? ⟨b, o + k * 4 + 2, none⟩ = some (.int .i64 x.1.num) := (hbel.cell (p := ⟨_, _, none⟩) (show b < w.heap.size by omega)).trans (hat 2 _ (by omega) rfl)
      have q3 : wr.cell? ⟨b, o + k * 4 + 3, none⟩ = some (.slice x.2.A x.2.n x.2.c) := (hbel.cell (p := ⟨_, _, none⟩) (show b < w.heap.size by omega)).trans (hat 3 _ (by omega) rfl)
      have hbytes := HA.out x (List.mem_of_getElem? hx)
      have HX := Lib.hid hx
      have hwz := hbel.size
      obtain ⟨x, ⟨Aa, na, ca⟩⟩ := x
      simp only at q0 q1 q2 q3 hbytes
      have HLF := Lib.hid hlf
      have hna : na * 8 ≤ 140737488355328 := by have := hlf.an; simp only at this; omega
      have hml : m.length = k := by have h1 := eqL_length HE.out; have h2 := HL.out; rw [List.length_take] at h1; omega
      have HML := Lib.hid hml
      have HB := Lib.hid hbel
      have HLy := Lib.hid (And.intro (below_box wr (.cells #[.int .i64 x.kind, .string x.name, .int .i64 x.num, .slice Aa na ca] 82)) (Blk.new wr 82 #[.int .i64 x.kind, .string x.name, .int .i64 x.num, .slice Aa na ca]))
      have hbw : b < wr.heap.size := by omega
      clear V hat hlf hbytes hx hml hbel
      go_upto_region 6 with (fail)
      generalize wr.alloc (.cells #[.int .i64 x.kind, .string x.name, .int .i64 x.num, .slice Aa na ca] 82) = X6 at HLy ⊢
      have B6 := HLy.out.1
      have hsz6 : wr.heap.size < X6.heap.size := HLy.out.2.lt
      have u0 := (HLy.out.2.cell 3).trans (show _ = some (.slice Aa na ca) from rfl)
      have HB6 := Lib.hid B6
      have HK6 := Lib.hid HLy.out.2
      clear B6 HLy q0 q1 q2 q3
      go_upto_region 7 with (at_builtin; with_reducible show wpList _ _ _ (⟨some 19, _, _, _, _, _⟩ :: _) _ _; go_must (refine wpList_app (o := ⟨some 19, _, _, _, _, _⟩) _ rfl (.tmp 16) (.tmp 18) _ rfl X6.heap.size 3 i1 _ 1 8 Try.underlying80 hi1 hz1 hs1 hb1 rfl (by omega) _ 0 [] rfl (own_emptyB (size := 1) (e := 3) (B := X6.heap.size) (Blk.new' (by simp)) (Nat.le_refl _)) 0 hi Aa na ca (intCells x.args) rfl (Row.below HLF.out.a ((((HB.out.trans (HB6.out.mono hwz))).trans ((below_more (Below.refl _ _) _).mono (Nat.le_trans hwz HB6.out.size))).mono hh)) (intCells_one _) (by unfold maxLen; omega) (by omega) (by simp) ?_); go_must (intro v1 w1 hown1 hgr1 _; rw [Nat.zero_add, List.nil_append] at hown1; obtain ⟨A1, c1, rfl⟩ := own_form hown1; have hb7 : Below X6.heap.size X6 w1 := below_grows (below_more (Below.refl _ _) _) hgr1 (own_emptyB (size := 1) (e := 3) (B := X6.heap.size) (Blk.new' (by simp)) (Nat.le_refl _)) (Nat.le_refl _); have hk7 := HK6.out.after hb7; have u1 := hk7.cell 3; have y1 := hk7.frozen 3; simp at u1; have hk8 := hk7.set_ 3 (.slice A1 na c1); have HK8 := Lib.hid hk8; have hb8 : Below wr.heap.size wr (w1.setCell ⟨wr.heap.size, 3, none⟩ (.slice A1 na c1)) := (HB6.out.trans (hb7.mono HB6.out.size)).setCell (p := ⟨wr.heap.size, 3, none⟩) (Nat.le_refl _) _; have HB8 := Lib.hid hb8; have HO8 := Lib.hid (own_other (own_mono hown1 (Nat.le_trans hwz HB6.out.size)) hk7 (by decide) 3 (.slice A1 na c1)); have z0 := (hk8.cell 0).trans (show _ = some (.int .i64 x.kind) from rfl); have z1 := (hk8.cell 1).trans (show _ = some (.string x.name) from rfl); have z2 := (hk8.cell 2).trans (show _ = some (.int .i64 x.num) from rfl); have z3 := (hk8.cell 3).trans (show _ = some (.slice A1 na c1) from rfl); clear hb7 hk7 hk8 hb8 hown1 hgr1))
      generalize w1.setCell ⟨wr.heap.size, 3, none⟩ (.slice A1 na c1) = X8 at HK8 HB8 HO8 z0 z1 z2 z3 ⊢
      have HT8 := Lib.hid (HT.out.after HB8.out)
      have hwz8 := HT8.out.bel.size
      have HT9 := Lib.hid (HT8.out.after (below_box X8 (.cells #[.int .i64 x.kind, .string x.name, .int .i64 x.num, .slice A1 na c1] 82)))
      have HO9 := Lib.hid (own_after HO8.out (below_box X8 (.cells #[.int .i64 x.kind, .string x.name, .int .i64 x.num, .slice A1 na c1] 82)))
      have H1 : Hid (∀ u ∈ [Value.int .i64 x.kind, .string x.name, .int .i64 x.num, .slice A1 na c1], u.oneCell' = true) := Lib.hid (by intro u hu; simp at hu; rcases hu with rfl | rfl | rfl | rfl <;> rfl)
      have HR9 : Hid (Row (X8.alloc (.cells #[.int .i64 x.kind, .string x.name, .int .i64 x.num, .slice A1 na c1] 82)) X8.heap.size (X8.heap.size + 1) 4 (some ⟨X8.heap.size, 0, none⟩) 1 1 [.int .i64 x.kind, .string x.name, .int .i64 x.num, .slice A1 na c1]) := Lib.hid (row_blk (heap_alloc_new X8 _) rfl (Nat.le_refl _) (by unfold maxLen; omega))
      go_wp2_with (at_builtin; with_reducible show wpList _ _ _ (⟨some 24, _, _, _, _, _⟩ :: _) _ _; go_must (refine wpList_app (o := ⟨some 24, _, _, _, _, _⟩) _ rfl (.tmp 21) (.tmp 23) _ rfl w.heap.size 82 i2 _ 4 56 Try.underlying33 hi2 hz2 hs2 hb2 rfl (by omega) ov m.length (m.flatMap sideC) rfl HT9.out.own X8.heap.size (X8.heap.size + 1) (some ⟨X8.heap.size, 0, none⟩) 1 1 _ rfl HR9.out H1.out (by have := HML.out; unfold maxLen; omega) (by have := HML.out; omega) HT9.out.bel.size ?_); go_must (intro v2 w2 hown2 hgr2 _; have HT2 := Lib.hid (TS.push (p := (x, ⟨A1, na, c1⟩)) HT9.out hgr2 hown2 ⟨HLF.out.an, HO9.out⟩); clear hown2 hgr2))
      go_roundw
      case rel => exact ⟨k + 1, m ++ [(x, ⟨A1, na, c1⟩)], _, by omega, by go_num, rfl, HT2, Lib.hid (eqL_take_snoc HE.out HX.out (by simp [sideEM, eqL_refl intE_refl]))⟩
      case measure => simp [intOf]; omega
    · go_wp2_with fail
      obtain ⟨A', c', rfl⟩ := own_form HT.out.own
      go_ret
      exact ⟨A', _, c', m, rfl, rfl, HT.out, by have h1 := HE.out; rw [List.take_of_length_le (by have := HL.out; omega)] at h1; exact h1⟩
end Go.Proofs.Ytbnjblejbnapgaa
namespace Go.Proofs.Ytbnjblejbnapgaa
open Go Go.RowKit Go.Sort
set_option linter.unusedVariables false
/-- the cells of the blocks from lo on and below hi are the same -/
def Same2 (lo hi : Nat) (w w' : World) : Prop := ∀ b o, lo ≤ b → b < hi → w'.cell? ⟨b, o, none⟩ = w.cell? ⟨b, o, none⟩
theorem Same2.of_below {lo hi : Nat} {w w' : World} (h : Below hi w w') : Same2 lo hi w w' := fun _ _ _ hb => h.cell (p := ⟨_, _, none⟩) hb
theorem Same2.of_set {lo hi N i : Nat} {w : World} {u : Value} (h : N < lo) : Same2 lo hi w (w.setCell ⟨N, i, none⟩ u) := fun b o hl _ => by
  have h1 := Below.heap_setCell w ⟨N, i, none⟩ u b (show b ≠ N by omega)
  unfold World.cell?
  simp only [h1]
theorem Same2.trans {lo hi : Nat} {w w' w'' : World} (h : Same2 lo hi w w') (h' : Same2 lo hi w' w'') : Same2 lo hi w w'' := fun b o h1 h2 => (h' b o h1 h2).trans (h b o h1 h2)
theorem Row.same2 {w w' : World} {lo hi size n c : Nat} {A : Option Addr} {xs : List Value} (h : Row w lo hi size A n c xs) (hk : Same2 lo hi w w') : Row w' lo hi size A n c xs :=
  ⟨h.1, h.2.1, h.2.2.1, fun hn => by
    obtain ⟨b, o, e, h1, h2, hc⟩ := h.2.2.2 hn
    exact ⟨b, o, e, h1, h2, fun j u hu => (hk b _ h1 h2).trans (hc j u hu)⟩⟩
theorem step_empty {P : Program} (w : World) {ops : Array Oper} {o : Oper} {a : Act} {K : Act → World → Prop} {Q : Exit → Act → World → Prop} {E : Prop} (hgd : o.guard = none) (T : TypeId)
    (hrun : (execOp a.eval o).run P w = .ok (.value (.slice (some ⟨w.heap.size, 0, none⟩) 0 0)) (w.alloc (.cells #[] T)))
    (hK : ∀ g w', Blk w' g T #[] → Below w.heap.size w w' → w.heap.size ≤ g → K (a.put o.dst (.slice (some ⟨g, 0, none⟩) 0 0)) w') : if Region.wanted o (yielded ops a.tmps) = true then Oper.wp P o a w K Q else E := by
  have hw : Region.wanted o (yielded ops a.tmps) = true := by simp [Region.wanted, hgd]
  rw [if_pos hw]
  unfold Oper.wp
  rw [hrun]
  exact hK _ _ (Blk.new w T #[]) (below_more (Below.refl _ _) _) (Nat.le_refl _)
theorem step_mk1 {P : Program} (w : World) {ops : Array Oper} {o : Oper} {a : Act} {K : Act → World → Prop} {Q : Exit → Act → World → Prop} {E : Prop} (hgd : o.guard = none) (T : TypeId) (cs : Array Value)
    (hrun : (execOp a.eval o).run P w = .ok (.value (.slice (some ⟨w.heap.size, 0, none⟩) 1 1)) (w.alloc (.cells cs T)))
    (hK : ∀ g w', Blk w' g T cs → Below w.heap.size w w' → w.heap.size ≤ g → K (a.put o.dst (.slice (some ⟨g, 0, none⟩) 1 1)) w') : if Region.wanted o (yielded ops a.tmps) = true then Oper.wp P o a w K Q else E := by
  have hw : Region.wanted o (yielded ops a.tmps) = true := by simp [Region.wanted, hgd]
  rw [if_pos hw]
  unfold Oper.wp
  rw [hrun]
  exact hK _ _ (Blk.new w T cs) (below_more (Below.refl _ _) _) (Nat.le_refl _)
theorem app_new {W X Y : World} {g size n : Nat} {e : TypeId} {v : Value} {xs : List Value} (hb : Below W.heap.size W X) (hg : Blk X g e #[]) (hle : W.heap.size ≤ g)
    (hown : Y.ownsRow W.heap.size e size v (0 + n) ([] ++ xs)) (hgr : X.grownBy Y (Value.ownBlock (.slice (some ⟨g, 0, none⟩) 0 0))) : ∃ A c, v = .slice A n c ∧ Y.ownsRow W.heap.size e size (.slice A n c) n xs ∧ Below W.heap.size W Y := by
  rw [Nat.zero_add, List.nil_append] at hown
  obtain ⟨A, c, rfl⟩ := own_form hown
  exact ⟨A, c, rfl, hown, below_grows hb hgr (own_emptyB (size := size) (B := W.heap.size) hg hle) (Nat.le_refl _)⟩
def Keep2 {γ : Type} (P : World → Nat → Nat → γ → Prop) : Prop := ∀ {w w' lo hi g}, P w lo hi g → Same2 lo hi w w' → P w' lo hi g
theorem GRow.same2 {γ : Type} {C : γ → List Value} {P : World → Nat → Nat → γ → Prop} {size : Nat} {w w' : World} {lo hi : Nat} {S : Sl} {l : List γ} (h : GRow C P size w lo hi S l) (hP : Keep2 P) (hk : Same2 lo hi w w') : GRow C P size w' lo hi S l :=
  ⟨h.n, Row.same2 h.row hk, fun g hg => hP (h.all g hg) hk⟩
theorem conK2 : Keep2 ConIn := fun h hk => ⟨h.pn, h.kn, h.rn, Row.same2 h.p hk, Row.same2 h.k hk, Row.same2 h.r hk⟩
theorem sideK2 : Keep2 SideIn := fun h hk => ⟨h.an, Row.same2 h.a hk⟩
theorem eqK2 : Keep2 EqIn := fun h hk => ⟨h.l.same2 sideK2 hk, h.r.same2 sideK2 hk⟩
theorem rowK2 : Keep2 RowIn := fun h hk => ⟨h.qn, Row.same2 h.q hk⟩
/-- what is kept while a list of such parts grows -/
structure OwnK {γ : Type} (O : World → Nat → γ → Prop) (T : TypeId) : Prop where
  after : ∀ {w w' B g}, O w B g → Below w.heap.size w w' → O w' B g
  kept : ∀ {w w' B B' g size n v xs}, O w B g → w.ownsRow B' T size v n xs → w.grownBy w' v.ownBlock → O w' B g
  mono : ∀ {w B B' g}, O w B g → B' ≤ B → O w B' g
/-- a list of parts that grows, in own memory from B on -/
structure GL {γ : Type} (C : γ → List Value) (O : World → Nat → γ → Prop) (T : TypeId) (size B : Nat) (ov : Value) (l : List γ) (X : World) : Prop where
  own : X.ownsRow B T size ov l.length (l.flatMap C)
  leaf : ∀ g ∈ l, O X B g
section
variable {γ : Type} {C : γ → List Value} {O : World → Nat → γ → Prop} {T : TypeId} {size B : Nat} {ov v' : Value} {l : List γ} {X X' : World}
theorem GL.start (C : γ → List Value) (O : World → Nat → γ → Prop) (T : TypeId) (size B : Nat) (X : World) : GL C O T size B (.slice none 0 0) [] X := ⟨⟨by simp, .inl ⟨rfl, rfl⟩⟩, by simp⟩
theorem GL.after (h : GL C O T size B ov l X) (hO : OwnK O T) (hb : Below X.heap.size X X') : GL C O T size B ov l X' := ⟨own_after h.own hb, fun g hg => hO.after (h.leaf g hg) hb⟩
theorem GL.push (h : GL C O T size B ov l X) (hO : OwnK O T) {p : γ} (hg : X.grownBy X' ov.ownBlock) (hown : X'.ownsRow B T size v' (l.length + 1) (l.flatMap C ++ C p)) (hp : O X B p) : GL C O T size B v' (l ++ [p]) X' := by
  refine ⟨?_, fun q hq => ?_⟩
  · rw [List.length_append, List.length_singleton, List.flatMap_append, List.flatMap_singleton]; exact hown
  · rcases List.mem_append.1 hq with hq | hq
    · exact hO.kept (h.leaf q hq) h.own hg
    · obtain rfl : q = p := by simpa using hq
      exact hO.kept hp h.own hg
theorem GL.toG {A : Option Addr} {n c : Nat} {P : World → Nat → Nat → γ → Prop} (h : GL C O T size B (.slice A n c) l X) (hn : n = l.length) (hP : ∀ g, O X B g → P X B X.heap.size g) : GRow C P size X B X.heap.size ⟨A, n, c⟩ l :=
  ⟨hn, by subst hn; exact own_row h.own, fun g hg => hP g (h.leaf g hg)⟩
end
theorem conOK : OwnK ConOwn 38 :=
  ⟨fun h hb => ⟨h.pn, h.kn, h.rn, own_after h.p hb, own_after h.k hb, own_after h.r hb⟩, fun h ho hg => ⟨h.pn, h.kn, h.rn, own_kept h.p ho (by decide) hg, own_kept h.k ho (by decide) hg, own_kept h.r ho (by decide) hg⟩,
   fun h hB => ⟨h.pn, h.kn, h.rn, own_mono h.p hB, own_mono h.k hB, own_mono h.r hB⟩⟩
theorem con_one (x : ConD) (M : Leaf) : ∀ u ∈ [Value.string x.name, .string x.super, .bool x.abs, .slice M.p.A M.p.n M.p.c, .slice M.k.A M.k.n M.k.c, .slice M.r.A M.r.n M.r.c], u.oneCell' = true := by
  intro u hu
  simp at hu
  rcases hu with rfl | rfl | rfl | rfl | rfl | rfl <;> rfl
theorem eq_one (s : ByteArray) (A B : Option Addr) (n c m d : Nat) : ∀ u ∈ [Value.string s, .slice A n c, .slice B m d], u.oneCell' = true := by
  intro u hu
  simp at hu
  rcases hu with rfl | rfl | rfl <;> rfl
theorem row_one (s : ByteArray) (A : Option Addr) (n c : Nat) : ∀ u ∈ [Value.string s, .slice A n c], u.oneCell' = true := by
  intro u hu
  simp at hu
  rcases hu with rfl | rfl <;> rfl
theorem ConOwn.mono_ {w : World} {B B' : Nat} {x : ConD × Leaf} (h : ConOwn w B x) (hB : B' ≤ B) : ConOwn w B' x := conOK.mono h hB
theorem ConOwn.in_ {w : World} {B : Nat} {x : ConD × Leaf} (h : ConOwn w B x) : ConIn w B w.heap.size x := ⟨h.pn, h.kn, h.rn, own_row h.p, own_row h.k, own_row h.r⟩
/-- sides in own memory -/
structure SO (w : World) (B : Nat) (S : Sl) (l : List (SideD × Sl)) : Prop where
  n : S.n = l.length
  own : w.ownsRow B 82 4 (.slice S.A S.n S.c) S.n (l.flatMap sideC)
  leaf : ∀ p ∈ l, p.2.n = p.1.args.length ∧ w.ownsRow B 3 1 (.slice p.2.A p.2.n p.2.c) p.2.n (intCells p.1.args)
theorem TS.so {w X : World} {A : Option Addr} {n c : Nat} {l : List (SideD × Sl)} (h : TS w (.slice A n c) l X) (hn : n = l.length) : SO X w.heap.size ⟨A, n, c⟩ l := ⟨hn, by subst hn; exact h.own, h.leaf⟩
theorem SO.after {w w' : World} {B : Nat} {S : Sl} {l : List (SideD × Sl)} (h : SO w B S l) (hb : Below w.heap.size w w') : SO w' B S l := ⟨h.n, own_after h.own hb, fun p hp => ⟨(h.leaf p hp).1, own_after (h.leaf p hp).2 hb⟩⟩
theorem SO.mono {w : World} {B B' : Nat} {S : Sl} {l : List (SideD × Sl)} (h : SO w B S l) (hB : B' ≤ B) : SO w B' S l := ⟨h.n, own_mono h.own hB, fun p hp => ⟨(h.leaf p hp).1, own_mono (h.leaf p hp).2 hB⟩⟩
theorem SO.kept {w w' : World} {B B' size n : Nat} {v : Value} {xs : List Value} {S : Sl} {l : List (SideD × Sl)} (h : SO w B S l) (ho : w.ownsRow B' 53 size v n xs) (hg : w.grownBy w' v.ownBlock) : SO w' B S l :=
  ⟨h.n, own_kept h.own ho (by decide) hg, fun p hp => ⟨(h.leaf p hp).1, own_kept (h.leaf p hp).2 ho (by decide) hg⟩⟩
theorem SO.in_ {w : World} {B : Nat} {S : Sl} {l : List (SideD × Sl)} (h : SO w B S l) : GRow sideC SideIn 4 w B w.heap.size S l := ⟨h.n, own_row h.own, fun p hp => ⟨(h.leaf p hp).1, own_row (h.leaf p hp).2⟩⟩
structure EqOwn (w : World) (B : Nat) (x : EqM) : Prop where
  l : SO w B x.L x.ls
  r : SO w B x.R x.rs
theorem eqOK : OwnK EqOwn 53 := ⟨fun h hb => ⟨h.l.after hb, h.r.after hb⟩, fun h ho hg => ⟨h.l.kept ho hg, h.r.kept ho hg⟩, fun h hB => ⟨h.l.mono hB, h.r.mono hB⟩⟩
theorem EqOwn.in_ {w : World} {B : Nat} {x : EqM} (h : EqOwn w B x) : EqIn w B w.heap.size x := ⟨h.l.in_, h.r.in_⟩
/-- a row of cells in own memory: T is what they are -/
structure RowOwn (T : TypeId) (w : World) (B : Nat) (x : RowD × Sl) : Prop where
  qn : x.2.n = x.1.cells.length
  q : w.ownsRow B T 3 (.slice x.2.A x.2.n x.2.c) x.2.n (ceCells x.1.cells)
theorem edOK : OwnK (RowOwn 92) 56 := ⟨fun h hb => ⟨h.qn, own_after h.q hb⟩, fun h ho hg => ⟨h.qn, own_kept h.q ho (by decide) hg⟩, fun h hB => ⟨h.qn, own_mono h.q hB⟩⟩
theorem teOK : OwnK (RowOwn 93) 59 := ⟨fun h hb => ⟨h.qn, own_after h.q hb⟩, fun h ho hg => ⟨h.qn, own_kept h.q ho (by decide) hg⟩, fun h hB => ⟨h.qn, own_mono h.q hB⟩⟩
theorem RowOwn.in_ {T : TypeId} {w : World} {B : Nat} {x : RowD × Sl} (h : RowOwn T w B x) : RowIn w B w.heap.size x := ⟨h.qn, own_row h.q⟩
end Go.Proofs.Ytbnjblejbnapgaa
namespace Go.Proofs.Ytbnjblejbnapgaa
open Go Go.RowKit Go.Sort
set_option linter.unusedVariables false
/-- the loops' bodies, in order -/
def loopsOf : Code → List Code
  | .loop c => [c]
  | .seq a b => loopsOf a ++ loopsOf b
  | .block _ c => loopsOf c
  | .scope c => loopsOf c
  | .cond _ a b => loopsOf a ++ loopsOf b
  | _ => []
/-- append to a new empty list, as a step of a region that draws its order: the answer's form is told, nothing is put in its place behind it -/
theorem step_appN {P : Program} {w W : World} {ops : Array Oper} {o : Oper} {a : Act} {K : Act → World → Prop} {Q : Exit → Act → World → Prop} {E : Prop} (hgd : o.guard = none) (s x : Operand) (t : TypeId)
    (ho : o.op = .call { callee := .builtin .append, args := #[s, x], argTypes := #[t, t] })
    (e : TypeId) (i : TypeInfo) (z : Value) (size bytes : Nat) (ht : P.underlying t = some (.slice e)) (hi : P.info? e = some i) (hz : i.zero = some z)
    (hsize : i.size = size) (hby : i.bytes = bytes) (hzs : z.cells.size = size) (hsz : 0 < size) {g : Nat} (hs : a.eval s = .slice (some ⟨g, 0, none⟩) 0 0) (hb : Below W.heap.size W w) (hg : Blk w g e #[]) (hle : W.heap.size ≤ g)
    {lo hi' : Nat} {A : Option Addr} {m c : Nat} {news : List Value} (hx : a.eval x = .slice A m c) (hr : Row w lo hi' size A m c news) (h1 : ∀ u ∈ news, u.oneCell' = true)
    (h63 : m ≤ maxLen) (hbytes : m * bytes ≤ 140737488355328)
    (h : ∀ (A' : Option Addr) (c' : Nat) (w' : World), w'.ownsRow W.heap.size e size (.slice A' m c') m news → Below W.heap.size W w' → K (a.put o.dst (.slice A' m c')) w') :
    if Region.wanted o (yielded ops a.tmps) = true then Oper.wp P o a w K Q else E :=
  step_app w hgd s x t ho W.heap.size e i z size bytes ht hi hz hsize hby hzs hsz (.slice (some ⟨g, 0, none⟩) 0 0) 0 [] hs (own_emptyB hg hle) lo hi' A m c news hx hr h1 (by omega) (by rw [Nat.zero_add]; exact hbytes) hb.size
    fun v' w' hown hgr _ => by
      obtain ⟨A', c', rfl, ho, hb'⟩ := app_new hb hg hle hown hgr
      exact h A' c' w' ho hb'
noncomputable def twinBody (q : Nat) : Code := (((Try.f8.body.map loopsOf).getD [])[q]?).getD .skip
end Go.Proofs.Ytbnjblejbnapgaa

/-
  WALKS over the document's answers for layer 9: Ints, Each, Of.
  WALKS over the document's answers for layer 9: Of, Ints.
-/
import Derived.Test.YtjlpoigcalfdlaaDoorZA19
namespace Go.Proofs.YtjlpoigcalfdlaaDoor
open Go Go.RowKit Go.Sort
set_option linter.unusedVariables false
/-- kinds, a place, an error are told; the list is the call's own -/
def EachIs (w : World) (r : List Int × Int × Int) (e : Ending) (w' : World) : Prop :=
  ∃ (A : Option Addr) (m c : Nat), e = .returned (.tuple #[.slice A m c, .int .i64 r.2.1, .int .i64 r.2.2]) ∧ m = r.1.length ∧ OwnI w' w.heap.size (.slice A m c) r.1 ∧ Below w.heap.size w w'
theorem eachIs_none {w w' : World} {r : List Int × Int × Int} {at_ err : Int} (h : r = ([], at_, err)) (hb : Below w.heap.size w w') : EachIs w r (.returned (.tuple #[.slice none 0 0, .int .i64 at_, .int .i64 err])) w' := by
  subst h
  exact ⟨none, 0, 0, rfl, rfl, ⟨by simp [intCells], .inl ⟨rfl, rfl⟩⟩, hb⟩
theorem eachIs_list {w w' : World} {r : List Int × Int × Int} {A : Option Addr} {m c B : Nat} {ks : List Int} (h : r = (ks, 0, 0)) (hm : m = ks.length) (ho : OwnI w' B (.slice A m c) ks) (hB : w.heap.size ≤ B) (hb : Below w.heap.size w w') : EachIs w r (.returned (.tuple #[.slice A m c, .int .i64 0, .int .i64 0])) w' := by
  subst h
  exact ⟨A, m, c, rfl, hm, own_mono ho hB, hb⟩
theorem Tree.ws0 {l : List EN} {f : Fo} (h : Tree l f) (e : Nat → Bnd) : (f.ws 0 e)[0]? = some (f.wr 0 e) := by
  have h1 : (f.ws 0 e).length = 1 := by rw [ws_len, ← offs_len f 0, h.one]; rfl
  rw [← ws_first]
  match hw : f.ws 0 e, h1 with
  | [v], _ => cases v <;> rfl
theorem Tree.pos {l : List EN} {f : Fo} (h : Tree l f) : 0 < l.length := by
  have h1 := h.one
  have h2 := h.size
  cases f with
  | nil => simp [Fo.offs] at h1
  | cons k s i a r => simp only [Fo.size] at h2; omega
/-- no error is told just where kinds are -/
theorem eachV_ok {l : List EN} (h : (eachV l).2.2 = 0) : 0 < (eachV l).1.length := by
  by_cases h0 : rightV l = 0
  · obtain ⟨f, hf⟩ := tree_of h0
    rw [eachV_tree h0 hf] at h ⊢
    cases hw : f.wr 0 (fun _ => []) with
    | some q =>
      rw [hw] at h
      simp only at h
      have hq := wr_lt f 0 _ q hw
      have hs := hf.size
      obtain ⟨n, hn⟩ : ∃ n, l[q]? = some n := ⟨l[q]'(by omega), List.getElem?_eq_getElem _⟩
      unfold tellR at h
      rw [hn] at h
      simp only at h
      split at h <;> omega
    | none =>
      simp only
      rw [ka_len]
      have := hf.pos
      have := hf.size
      omega
  · rw [eachV_bad h0] at h
    exact absurd h h0
set_option maxRecDepth 20000 in
set_option maxHeartbeats 6400000 in
theorem refEach_any (w : World) (hi : Nat) (A : Option Addr) (n c : Nat) (l : List (EN × Sl)) (hl : ExIn w hi ⟨A, n, c⟩ l) (hh : hi ≤ w.heap.size) :
    Calls Tryd.prog 9 #[.agg #[.slice A n c]] w (EachIs w (eachV (nodesOf l))) := by
  have hm := hl.max
  unfold maxLen at hm
  have HL := Lib.hid hl
  have HN : Hid (n = l.length) := Lib.hid hl.g.n
  clear hl
  have HX0 : Hid (Blk (w.alloc (.cells #[.slice A n c] 24)) w.heap.size 24 #[.slice A n c]) := Lib.hid (Blk.new _ _ _)
  have HB0 : Hid (Below w.heap.size w (w.alloc (.cells #[.slice A n c] 24))) := Lib.hid (below_of_alloc _)
  generalize hrr : eachV (nodesOf l) = rr
  have HRR := Lib.hid hrr
  clear hrr
  go_enter Tryd.func9, Tryd.ntmps9
  go_upto_region 1 with (fail)
  generalize w.alloc (.cells #[.slice A n c] 24) = W0 at HX0 HB0 ⊢
  have cx := (HX0.out.cell 0).trans (show _ = some (.slice A n c) from rfl)
  have HRT := Lib.hid (refRight_x W0 hi A n c l (HL.out.below (HB0.out.mono hh)) (Nat.le_trans hh HB0.out.size))
  by_cases h0 : rightV (nodesOf l) = 0
  · obtain ⟨f, hf⟩ := tree_of h0
    rw [h0] at HRT
    have HF := Lib.hid hf
    have HE := Lib.hid ((eachV_tree h0 hf).symm.trans HRR.out)
    have hn256 : n ≤ 256 := by have := hf.len; rw [nodesOf_len] at this; have := HN.out; omega
    have hn0 : 0 < n := by have := hf.pos; rw [nodesOf_len] at this; have := HN.out; omega
    clear h0 hf
    go_upto_region 4 with (go_at_call 18; refine HRT.out.mono ?_; rintro e w2 ⟨rfl, hb2⟩; have HX2 := Lib.hid (HX0.out.after hb2); have HB2 := Lib.hid (HB0.out.trans (hb2.mono HB0.out.size)); clear hb2)
    clear cx HRT
    have cx := (HX2.out.cell 0).trans (show _ = some (.slice A n c) from rfl)
    have HWR := Lib.hid (wrongs_any w2 hi A n c l (HL.out.below (HB2.out.mono hh)) (Nat.le_trans hh HB2.out.size) HF.out.oneUp HF.out.sound f 0 (fun _ => []) HF.out.at_ HF.out.envF 0 0 _ (by rw [HF.out.one]; rfl) (HF.out.ws0 _) w2 (Below.refl _ _))
    cases hw : f.wr 0 (fun _ => []) with
    | some q =>
      rw [hw] at HE HWR
      have HE2 : Hid (rr = ([], (q : Int), tellR (nodesOf l) q)) := Lib.hid HE.out.symm
      have hq := (wr_lt f 0 _ q hw).2
      have hqn : q < n := by have := HF.out.size; rw [nodesOf_len] at this; have := HN.out; omega
      obtain ⟨b, o, x, hA, hb, hx, hc, hin, hok⟩ := HL.out.at_ (i := q) hqn
      simp only at hA
      subst hA
      have HC := Lib.hid hc
      have hbw : b < w.heap.size := by omega
      have HT : Hid (tellR (nodesOf l) q = if x.1.kind = 7 then 91 else 90) := Lib.hid (by unfold tellR; rw [nodesOf_at hx])
      have g0 : decide ((0 : Int) ≤ (q : Int)) = true := by simp
      have HW2 : Hid (Calls Tryd.prog 19 #[.agg #[.slice (some ⟨b, o, none⟩) n c], .int .i64 0] w2 (SaysB w2 q)) := Lib.hid HWR.out
      clear hc hin hok hx hw hq HWR
      obtain ⟨⟨kd, T, nn, ks⟩, ⟨A', n', c'⟩⟩ := x
      simp only at HT HC
      by_cases h7 : kd = 7
      · subst h7
        have HE3 : Hid (rr = ([], (q : Int), 91)) := Lib.hid (by rw [HE2.out, HT.out, if_pos rfl])
        go_upto_region 5 with (go_at_call 19; refine HW2.out.mono ?_; rintro e w3 ⟨rfl, hb3⟩; have HX3 := Lib.hid (HX2.out.after hb3); have HB3 := Lib.hid (HB2.out.trans (hb3.mono HB2.out.size)); clear hb3)
        have cx3 := (HX3.out.cell 0).trans (show _ = some (.slice (some ⟨b, o, none⟩) n c) from rfl)
        have q0 := (HC.out.below HB3.out hbw).c0
        simp only at q0
        go_wp2_with fail
        go_ret3
        exact eachIs_none HE3.out HB3.out
      · have b7 : (kd == 7) = false := by rw [beq_eq_false_iff_ne]; exact h7
        have HE3 : Hid (rr = ([], (q : Int), 90)) := Lib.hid (by rw [HE2.out, HT.out, if_neg h7])
        clear h7
        go_upto_region 5 with (go_at_call 19; refine HW2.out.mono ?_; rintro e w3 ⟨rfl, hb3⟩; have HX3 := Lib.hid (HX2.out.after hb3); have HB3 := Lib.hid (HB2.out.trans (hb3.mono HB2.out.size)); clear hb3)
        have cx3 := (HX3.out.cell 0).trans (show _ = some (.slice (some ⟨b, o, none⟩) n c) from rfl)
        have q0 := (HC.out.below HB3.out hbw).c0
        simp only at q0
        go_wp2_with fail
        go_ret3
        exact eachIs_none HE3.out HB3.out
    | none =>
      rw [hw] at HE HWR
      have HE2 : Hid (rr = (f.ka (fun _ => []), 0, 0)) := Lib.hid HE.out.symm
      clear hw
      have HW2 : Hid (Calls Tryd.prog 19 #[.agg #[.slice A n c], .int .i64 0] w2 (SaysB w2 (-1))) := Lib.hid HWR.out
      have HKL : Hid ((f.ka (fun _ => [])).length = n) := Lib.hid (by rw [ka_len, HF.out.size, nodesOf_len, HN.out])
      clear HWR HE
      go_upto_region 9 with (go_at_call 19; refine HW2.out.mono ?_; rintro e w3 ⟨rfl, hb3⟩; have HX3 := Lib.hid (HX2.out.after hb3); have HB3 := Lib.hid (HB2.out.trans (hb3.mono HB2.out.size)); clear hb3)
      clear cx HW2
      go_wp2_with fail
      go_loopw [7, 8] (fun v i wr => ∃ (j : Nat) (A3 : Option Addr) (c3 : Nat), j ≤ n ∧ v = .slice A3 j c3 ∧ i = .int .i64 j ∧ Hid (Blk wr w.heap.size 24 #[.slice A n c]) ∧ Hid (Below w.heap.size w wr) ∧ Hid (OwnI wr (w.heap.size + 1) (.slice A3 j c3) ((f.ka (fun _ => [])).take j))) (fun _ i _ => n - (intOf i).toNat)
      case atStart => exact ⟨0, none, 0, Nat.zero_le _, rfl, rfl, HX3, HB3, Lib.hid ⟨by simp [intCells], .inl ⟨rfl, rfl⟩⟩⟩
      case round =>
        rename World => wo
        obtain ⟨j, A3, c3, hj, rfl, rfl, HX4, HB4, HOI⟩ := hrel
        have cx4 := (HX4.out.cell 0).trans (show _ = some (.slice A n c) from rfl)
        by_cases hlt : j < n
        · obtain ⟨v, hv⟩ : ∃ v, (f.ka (fun _ => []))[j]? = some v := ⟨(f.ka (fun _ => []))[j]'(by have := HKL.out; omega), List.getElem?_eq_getElem _⟩
          have HK := Lib.hid (kind_all wo hi A n c l (HL.out.below (HB4.out.mono hh)) (Nat.le_trans hh HB4.out.size) HF.out.oneUp HF.out.sound f 0 (fun _ => []) HF.out.at_ HF.out.envF j v hv wo (Below.refl _ _))
          rw [Nat.zero_add] at HK
          have HV := Lib.hid hv
          have HLT : Hid (((f.ka (fun _ => [])).take j).length = j) := Lib.hid (by rw [List.length_take]; have := HKL.out; omega)
          have hsz4 := HX4.out.lt
          clear hv
          go_wp2_with (first | (go_at_call 20; refine HK.out.mono ?_; rintro e w5 ⟨rfl, hb5⟩; have HX5 := Lib.hid (HX4.out.after hb5); have HB5 := Lib.hid (HB4.out.trans (hb5.mono HB4.out.size)); have HO5 := Lib.hid (HOI.out.after hb5); have hs5 := HX5.out.lt; have HX6 := Lib.hid (HX5.out.alloc (.cells #[.int .i64 v] 3)); have HB6 := Lib.hid (below_more HB5.out (.cells #[.int .i64 v] 3)); clear hb5) | (at_builtin; with_reducible show wpList _ _ _ (⟨some 43, _, _, _, _, _⟩ :: _) _ _; go_must (refine app_int1 (o := ⟨some 43, _, _, _, _, _⟩) rfl (.tmp 38) (.tmp 42) rfl (w.heap.size + 1) (.slice A3 j c3) j ((f.ka (fun _ => [])).take j) (by go_simp) (OwnI.alloc HO5.out _) HLT.out w5.heap.size v (by go_simp) (Blk.new _ _ _) (by omega) (by simp; omega) ?_; intro A4 c4 w7 hown7 hb7; have HO7 := Lib.hid (show OwnI w7 (w.heap.size + 1) (.slice A4 (j + 1) c4) ((f.ka (fun _ => [])).take (j + 1)) from by rw [← takeI_snoc HV.out]; exact hown7); have HX7 := Lib.hid (HX6.out.below hb7 (Nat.lt_succ_self _)); have HB7 := Lib.hid (HB6.out.trans (hb7.mono (Nat.le_succ _))); clear hown7 hb7)))
          go_roundw
          case rel => exact ⟨j + 1, A4, c4, by omega, rfl, by go_num, HX7, HB7, HO7⟩
          case measure => simp [intOf]; omega
        · obtain rfl : j = n := by omega
          have HO8 : Hid (OwnI wo (w.heap.size + 1) (.slice A3 j c3) (f.ka (fun _ => []))) := Lib.hid (by have := HOI.out; rwa [List.take_of_length_le (by have := HKL.out; omega)] at this)
          go_wp2_with fail
          go_ret3
          exact eachIs_list HE2.out HKL.out.symm HO8.out (Nat.le_succ _) HB4.out
  · have HE2 : Hid (rr = ([], 0, rightV (nodesOf l))) := Lib.hid ((eachV_bad h0).symm.trans HRR.out).symm
    have b0 : (rightV (nodesOf l) != 0) = true := by rw [bne_iff_ne]; exact h0
    generalize rightV (nodesOf l) = rv at HE2 b0 HRT
    clear h0
    go_wp2_with (go_at_call 18; refine HRT.out.mono ?_; rintro e w2 ⟨rfl, hb2⟩; have HB2 := Lib.hid (HB0.out.trans (hb2.mono HB0.out.size)); clear hb2)
    go_ret3
    exact eachIs_none HE2.out HB2.out
end Go.Proofs.YtjlpoigcalfdlaaDoor
namespace Go.Proofs.YtjlpoigcalfdlaaDoor
open Go Go.RowKit Go.Sort
set_option linter.unusedVariables false
/-- the whole's kind, the place, the error -/
def ofV (r : List Int × Int × Int) : Int × Int × Int := if r.2.2 = 0 then (r.1.getD 0 0, 0, 0) else (0, r.2.1, r.2.2)
def OfIs (w : World) (r : Int × Int × Int) (e : Ending) (w' : World) : Prop := e = .returned (.tuple #[.int .i64 r.1, .int .i64 r.2.1, .int .i64 r.2.2]) ∧ Below w.heap.size w w'
theorem ofIs {w w' : World} {r : Int × Int × Int} {k a x : Int} (h : r = (k, a, x)) (hb : Below w.heap.size w w') : OfIs w r (.returned (.tuple #[.int .i64 k, .int .i64 a, .int .i64 x])) w' := by subst h; exact ⟨rfl, hb⟩
set_option maxRecDepth 20000 in
set_option maxHeartbeats 3200000 in
theorem refOf_any (w : World) (hi : Nat) (A : Option Addr) (n c : Nat) (l : List (EN × Sl)) (hl : ExIn w hi ⟨A, n, c⟩ l) (hh : hi ≤ w.heap.size) :
    Calls Tryd.prog 8 #[.agg #[.slice A n c]] w (OfIs w (ofV (eachV (nodesOf l)))) := by
  have HX0 : Hid (Blk (w.alloc (.cells #[.slice A n c] 24)) w.heap.size 24 #[.slice A n c]) := Lib.hid (Blk.new _ _ _)
  have HB0 : Hid (Below w.heap.size w (w.alloc (.cells #[.slice A n c] 24))) := Lib.hid (below_of_alloc _)
  have HE0 : Hid (∀ Y, Below w.heap.size w Y → Calls Tryd.prog 9 #[.agg #[.slice A n c]] Y (EachIs Y (eachV (nodesOf l)))) := Lib.hid fun Y hY => refEach_any Y hi A n c l (hl.below (hY.mono hh)) (Nat.le_trans hh hY.size)
  have HPL : Hid ((eachV (nodesOf l)).2.2 = 0 → 0 < (eachV (nodesOf l)).1.length) := Lib.hid eachV_ok
  clear hl
  generalize eachV (nodesOf l) = R at HE0 HPL ⊢
  obtain ⟨ks, at_, x⟩ := R
  generalize hr : ofV (ks, at_, x) = r
  have HR := Lib.hid hr
  clear hr
  simp only at HPL
  go_enter Tryd.func8, Tryd.ntmps8
  go_upto_region 1 with (fail)
  generalize w.alloc (.cells #[.slice A n c] 24) = W0 at HX0 HB0 ⊢
  have cx := (HX0.out.cell 0).trans (show _ = some (.slice A n c) from rfl)
  have HE := Lib.hid (HE0.out W0 HB0.out)
  by_cases h0 : x = 0
  · subst h0
    have hpos := HPL.out rfl
    obtain ⟨v, hv⟩ : ∃ v, ks[0]? = some v := ⟨ks[0]'hpos, List.getElem?_eq_getElem _⟩
    have HV : Hid (r = (v, 0, 0)) := Lib.hid (by rw [← HR.out]; unfold ofV; rw [if_pos rfl, List.getD_eq_getElem?_getD, hv]; rfl)
    have HV0 := Lib.hid hv
    clear hv
    go_upto_region 2 with (go_at_call 9; refine HE.out.mono ?_; rintro e w2 ⟨A2, m2, c2, rfl, hm2, ho2, hb2⟩; have HO2 := Lib.hid ho2; have HB2 := Lib.hid (HB0.out.trans (hb2.mono HB0.out.size)); have HM2 := Lib.hid hm2; clear hb2 ho2 hm2)
    have hm0 : 0 < m2 := by have := HM2.out; omega
    obtain ⟨g, rfl, hg1, hg2⟩ := own_someI HO2.out HM2.out.symm hm0
    unfold maxLen at hg2
    have v0 := own_atI (a := 0) HO2.out HM2.out.symm HV0.out
    go_wp2_with fail
    go_ret3
    exact ofIs HV.out HB2.out
  · have HV : Hid (r = (0, at_, x)) := Lib.hid (by rw [← HR.out]; unfold ofV; rw [if_neg h0])
    have b0 : (x != 0) = true := by rw [bne_iff_ne]; exact h0
    clear h0
    go_upto_region 2 with (go_at_call 9; refine HE.out.mono ?_; rintro e w2 ⟨A2, m2, c2, rfl, hm2, ho2, hb2⟩; have HB2 := Lib.hid (HB0.out.trans (hb2.mono HB0.out.size)); clear hb2 ho2 hm2)
    go_wp2_with fail
    go_ret3
    exact ofIs HV.out HB2.out
/-- two lists of numbers that are the same -/
theorem ints_same (w : World) (lo hi lo' hi' : Nat) (A A' : Option Addr) (n c n' c' : Nat) (ks : List Int) (h : Row w lo hi 1 A n c (intCells ks)) (h' : Row w lo' hi' 1 A' n' c' (intCells ks)) (hn : n = ks.length) (hn' : n' = ks.length) :
    Calls Tryd.prog 10 #[.slice A n c, .slice A' n' c'] w (TellsB w true) := by
  have hc := h.2.2.1
  have hnc := h.2.1
  have hc' := h'.2.2.1
  have hnc' := h'.2.1
  unfold maxLen at hc hc'
  obtain rfl : n' = n := by omega
  have HR := Lib.hid h
  have HR' := Lib.hid h'
  have HN := Lib.hid hn
  clear h h' hn hn'
  go_enter Tryd.func10, Tryd.ntmps10
  go_wp2_with fail
  go_loopw [5] (fun i wr => ∃ (j : Nat), j ≤ n' ∧ i = .int .i64 j ∧ Hid (Below w.heap.size w wr) ∧ Hid (∀ a v, w.cell? a = some v → wr.cell? a = some v)) (fun i _ => n' - (intOf i).toNat)
  case atStart => exact ⟨0, Nat.zero_le _, rfl, Lib.hid (Below.refl _ _), Lib.hid fun _ _ h => h⟩
  case round =>
    rename World => wo
    obtain ⟨j, hj, rfl, HB, HD⟩ := hrel
    by_cases hlt : j < n'
    · obtain ⟨b1, o1, hA1, _, _, k1⟩ := HR.out.at_ (by omega)
      obtain ⟨b2, o2, hA2, _, _, k2⟩ := HR'.out.at_ (by omega)
      subst hA1 hA2
      obtain ⟨v, hv⟩ : ∃ v, ks[j]? = some v := ⟨ks[j]'(by have := HN.out; omega), List.getElem?_eq_getElem _⟩
      have q1 := HD.out _ _ (k1 j _ (intCells_get hv))
      have q2 := HD.out _ _ (k2 j _ (intCells_get hv))
      have e0 : (v != v) = false := by simp
      clear k1 k2 hv
      go_wp2_with fail
      go_quiet (fail)
      go_wp2_with fail
      go_roundw
      case rel => exact ⟨j + 1, by omega, by go_num, Lib.hid (below_drewN HB.out _), Lib.hid fun a v h => HD.out a v h⟩
      case measure => simp [intOf]; omega
    · obtain rfl : j = n' := by omega
      go_wp2_with fail
      go_ret
      exact tellsB rfl HB.out
end Go.Proofs.YtjlpoigcalfdlaaDoor

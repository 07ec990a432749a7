/-
  WALKS over the laws of layer 9: KindsOf.
-/
import Derived.Test.YtjlpoigcalfdlaaDoorZA29
namespace Go.Proofs.YtjlpoigcalfdlaaDoor
open Go Go.RowKit Go.Sort
set_option linter.unusedVariables false
theorem eachV_at {l : List EN} (h : (eachV l).2.2 = 0) : (eachV l).2.1 = 0 := by
  by_cases h0 : rightV l = 0
  · obtain ⟨f, hf⟩ := tree_of h0
    rw [eachV_tree h0 hf] at h ⊢
    cases hw : f.wr 0 (fun _ => []) with
    | some q =>
      rw [hw] at h
      simp only at h
      have hq := wr_lt f 0 _ q hw
      have hs := hf.size
      obtain ⟨n, hn⟩ : ∃ n, l[q]? = some n := ⟨l[q]'(by omega), List.getElem?_eq_getElem _⟩
      unfold tellR at h
      rw [hn] at h
      simp only at h
      split at h <;> omega
    | none => rfl
  · rw [eachV_bad h0]
theorem ofV_at (l : List EN) : (ofV (eachV l)).2.1 = (eachV l).2.1 ∧ (ofV (eachV l)).2.2 = (eachV l).2.2 := by
  unfold ofV
  by_cases h : (eachV l).2.2 = 0
  · rw [if_pos h]
    exact ⟨(eachV_at h).symm, h.symm⟩
  · rw [if_neg h]
    exact ⟨rfl, rfl⟩
/-- an expression of the call's own, as one that lies -/
theorem own_ex {w' : World} {A : Option Addr} {n c : Nat} {l m : List (EN × Sl)} {B : Nat} (h : GE B (.slice A n c) m w') (hn : n = m.length) (hm : nodesOf m = nodesOf l) (hok : ∀ x ∈ l, EnOk x.1) : ExIn w' w'.heap.size ⟨A, n, c⟩ m := by
  have hg : GRow enC EnIn 4 w' B w'.heap.size ⟨A, n, c⟩ m := h.toG hn fun x hx => hx.in_
  refine ⟨hg.mono enK (Nat.zero_le _) (Nat.le_refl _), fun x hx => ?_⟩
  have h1 : x.1 ∈ nodesOf l := by rw [← hm]; exact List.mem_map_of_mem hx
  obtain ⟨y, hy, hy2⟩ := List.mem_map.1 h1
  rw [← hy2]
  exact hok y hy
def TwinX (Y : World) (n : Nat) (l : List (EN × Sl)) (e : Ending) (w' : World) : Prop := ∃ (A' : Option Addr) (c' : Nat) (m : List (EN × Sl)), e = .returned (.agg #[.slice A' n c']) ∧ ExIn w' w'.heap.size ⟨A', n, c'⟩ m ∧ nodesOf m = nodesOf l ∧ Below Y.heap.size Y w'
theorem twin_ex (Y : World) (hi : Nat) (A : Option Addr) (n c : Nat) (l : List (EN × Sl)) (hl : ExIn Y hi ⟨A, n, c⟩ l) (hh : hi ≤ Y.heap.size) (h56 : n * 56 ≤ 140737488351232) (hk8 : ∀ x ∈ l, x.2.n * 8 ≤ 140737488351232) :
    Calls Tryd.prog 5 #[.agg #[.slice A n c]] Y (TwinX Y n l) := by
  refine (twinE_any Y hi A n c l hl hh h56 hk8).mono ?_
  rintro e w' ⟨A', c', m, h1, h2, h3, h4⟩
  have hn : n = l.length := hl.g.n
  have hlm : l.length = m.length := by rw [← nodesOf_len l, ← nodesOf_len m, h3]
  have := own_ex h2 hlm h3 hl.ok
  rw [← hn] at this h1
  exact ⟨A', c', m, h1, this, h3, h4⟩
/-- the boxes of the law: the expression, its twin -/
structure LB (w : World) (A A' : Option Addr) (n c c' gt : Nat) (X : World) : Prop where
  bel : Below w.heap.size w X
  e : Blk X w.heap.size 24 #[.slice A n c]
  t : Blk X gt 24 #[.slice A' n c']
theorem LB.after {w : World} {A A' : Option Addr} {n c c' gt : Nat} {X X' : World} (h : LB w A A' n c c' gt X) (hb : Below X.heap.size X X') : LB w A A' n c c' gt X' := ⟨h.bel.trans (hb.mono h.bel.size), h.e.after hb, h.t.after hb⟩
set_option maxRecDepth 20000 in
set_option maxHeartbeats 6400000 in
theorem kindsOf_law (w : World) (hi : Nat) (A : Option Addr) (n c : Nat) (l : List (EN × Sl)) (hl : ExIn w hi ⟨A, n, c⟩ l) (hh : hi ≤ w.heap.size) (h56 : n * 56 ≤ 140737488351232) (hk8 : ∀ x ∈ l, x.2.n * 8 ≤ 140737488351232) (ev : ExprEnv w) (kv : KindEnv w) :
    Calls Tryd.prog 3 #[.agg #[.slice A n c]] w (TellsB w true) := by
  have HL := Lib.hid hl
  have HN : Hid (n = l.length) := Lib.hid hl.g.n
  have HEV := Lib.hid ev
  have HKV := Lib.hid kv
  have HX0 : Hid (Blk (w.alloc (.cells #[.slice A n c] 24)) w.heap.size 24 #[.slice A n c]) := Lib.hid (Blk.new _ _ _)
  have HB0 : Hid (Below w.heap.size w (w.alloc (.cells #[.slice A n c] 24))) := Lib.hid (below_of_alloc _)
  have HTW : Hid (∀ Y, Below w.heap.size w Y → Calls Tryd.prog 5 #[.agg #[.slice A n c]] Y (TwinX Y n l)) := Lib.hid fun Y hY => twin_ex Y hi A n c l (hl.below (hY.mono hh)) (Nat.le_trans hh hY.size) h56 hk8
  clear hl ev kv hk8 h56
  go_enter Tryd.func3, Tryd.ntmps3
  go_upto_region 1 with (fail)
  generalize w.alloc (.cells #[.slice A n c] 24) = W0 at HX0 HB0 ⊢
  have cx := (HX0.out.cell 0).trans (show _ = some (.slice A n c) from rfl)
  have HT0 := Lib.hid (HTW.out W0 HB0.out)
  go_upto_region 2 with (go_at_call 5; refine HT0.out.mono ?_; rintro e w1 ⟨A', c', m, rfl, hge, hnm, hb1⟩; have HGE := Lib.hid hge; have HNM := Lib.hid hnm; have HLB : Hid (LB w A A' n c c' w1.heap.size (w1.alloc (.cells #[.slice A' n c'] 24))) := Lib.hid ⟨(HB0.out.trans (hb1.mono HB0.out.size)).trans ((below_of_alloc _).mono (Nat.le_trans HB0.out.size hb1.size)), (HX0.out.after hb1).alloc _, Blk.new _ _ _⟩; have HW1 := Lib.hid (HB0.out.trans (hb1.mono HB0.out.size)); clear hge hnm hb1)
  have hw1 := HW1.out.size
  have HOF : Hid (∀ Y, Below w1.heap.size w1 Y → Calls Tryd.prog 6 #[.agg #[.slice A' n c']] Y (OfIs Y (ofV (eachV (nodesOf l))))) := Lib.hid fun Y hY => by
    have hZ := HW1.out.trans (hY.mono hw1)
    rw [← HNM.out]; exact of_any Y w1.heap.size A' n c' m (HGE.out.below hY) hY.size (HEV.out.below hZ) (HKV.out.below hZ)
  have HEA : Hid (∀ Y, Below w1.heap.size w1 Y → Calls Tryd.prog 7 #[.agg #[.slice A' n c']] Y (EachIs Y (eachV (nodesOf l)))) := Lib.hid fun Y hY => by
    have hZ := HW1.out.trans (hY.mono hw1)
    rw [← HNM.out]; exact each_any Y w1.heap.size A' n c' m (HGE.out.below hY) hY.size (HEV.out.below hZ) (HKV.out.below hZ)
  have HRO : Hid (∀ Y, Below w.heap.size w Y → Calls Tryd.prog 8 #[.agg #[.slice A n c]] Y (OfIs Y (ofV (eachV (nodesOf l))))) := Lib.hid fun Y hY => refOf_any Y hi A n c l (HL.out.below (hY.mono hh)) (Nat.le_trans hh hY.size)
  have HRE : Hid (∀ Y, Below w.heap.size w Y → Calls Tryd.prog 9 #[.agg #[.slice A n c]] Y (EachIs Y (eachV (nodesOf l)))) := Lib.hid fun Y hY => refEach_any Y hi A n c l (HL.out.below (hY.mono hh)) (Nat.le_trans hh hY.size)
  have HSA : Hid (∀ Y, Below w1.heap.size w1 Y → Calls Tryd.prog 11 #[.agg #[.slice A' n c'], .agg #[.slice A n c]] Y (TellsB Y true)) := Lib.hid fun Y hY => same_x Y w1.heap.size hi A' A n c' c m l (HGE.out.below hY) hY.size (HL.out.below ((HW1.out.trans (hY.mono hw1)).mono hh)) (Nat.le_trans hh (Nat.le_trans hw1 hY.size)) HNM.out
  obtain ⟨ha1, ha2⟩ := ofV_at (nodesOf l)
  generalize hR : eachV (nodesOf l) = R at HOF HEA HRO HRE ha1 ha2
  obtain ⟨ks, at_, x⟩ := R
  generalize hO : ofV (ks, at_, x) = O at HOF HRO ha1 ha2
  obtain ⟨k0, a0, x0⟩ := O
  simp only at ha1 ha2
  subst ha1 ha2
  clear hR hO HTW HX0 HB0 HT0 cx
  have HB2 : Hid (Below w1.heap.size w1 (w1.alloc (.cells #[.slice A' n c'] 24))) := Lib.hid (below_of_alloc _)
  have hz2 : (w1.alloc (.cells #[.slice A' n c'] 24)).heap.size = w1.heap.size + 1 := by simp
  generalize w1.alloc (.cells #[.slice A' n c'] 24) = X2 at HLB HB2 hz2 ⊢
  have ct := (HLB.out.t.cell 0).trans (show _ = some (.slice A' n c') from rfl)
  have HC2 := Lib.hid (HOF.out X2 HB2.out)
  go_upto_region 3 with (go_at_call 6; refine HC2.out.mono ?_; rintro e X3 ⟨rfl, hb3⟩; have hs23 := hb3.size; have HLB3 := Lib.hid (HLB.out.after hb3); have HB3 := Lib.hid (HB2.out.trans (hb3.mono HB2.out.size)); clear hb3)
  clear ct
  have ct := (HLB3.out.t.cell 0).trans (show _ = some (.slice A' n c') from rfl)
  have HC3 := Lib.hid (HEA.out X3 HB3.out)
  go_upto_region 4 with (go_at_call 7; refine HC3.out.mono ?_; rintro e X4 ⟨A1, m1, c1, rfl, hm1, ho1, hb4⟩; have HLB4 := Lib.hid (HLB3.out.after hb4); have HB4 := Lib.hid (HB3.out.trans (hb4.mono HB3.out.size)); have HO4 := Lib.hid ho1; have HM1 := Lib.hid hm1; have hs34 := hb4.size; clear hb4 ho1 hm1)
  clear ct
  have cx := (HLB4.out.e.cell 0).trans (show _ = some (.slice A n c) from rfl)
  have HC4 := Lib.hid (HRO.out X4 HLB4.out.bel)
  go_upto_region 5 with (go_at_call 8; refine HC4.out.mono ?_; rintro e X5 ⟨rfl, hb5⟩; have hs45 := hb5.size; have HLB5 := Lib.hid (HLB4.out.after hb5); have HB5 := Lib.hid (HB4.out.trans (hb5.mono HB4.out.size)); have HO5 := Lib.hid (HO4.out.after hb5); clear hb5)
  clear cx
  have cx := (HLB5.out.e.cell 0).trans (show _ = some (.slice A n c) from rfl)
  have HC5 := Lib.hid (HRE.out X5 HLB5.out.bel)
  go_upto_region 6 with (go_at_call 9; refine HC5.out.mono ?_; rintro e X6 ⟨A2, m2, c2, rfl, hm2, ho2, hb6⟩; have HLB6 := Lib.hid (HLB5.out.after hb6); have HB6 := Lib.hid (HB5.out.trans (hb6.mono HB5.out.size)); have HO6 := Lib.hid (HO5.out.after hb6); have HP6 := Lib.hid ho2; have HM2 := Lib.hid hm2; have hs56 := hb6.size; clear hb6 ho2 hm2)
  have hm1 := HM1.out
  have hm2 := HM2.out
  subst hm1 hm2
  clear HOF HRO HRE
  have ct := (HLB6.out.t.cell 0).trans (show _ = some (.slice A' n c') from rfl)
  have cx := (HLB6.out.e.cell 0).trans (show _ = some (.slice A n c) from rfl)
  have e1 : (k0 != k0) = false := by simp
  have e2 : (a0 != a0) = false := by simp
  have e3 : (x0 != x0) = false := by simp
  have HI6 := Lib.hid (ints_same X6 _ _ _ _ A1 A2 ks.length c1 ks.length c2 ks (own_row HO6.out) (own_row HP6.out) rfl rfl)
  go_upto_region 8 with (first | (go_at_call 10; refine HI6.out.mono ?_; rintro e X7 ⟨rfl, hb7⟩; have HLB7 := Lib.hid (HLB6.out.after hb7); have HB7 := Lib.hid (HB6.out.trans (hb7.mono HB6.out.size)); have HO7 := Lib.hid (HO6.out.after hb7); have HP7 := Lib.hid (HP6.out.after hb7); have ct7 := (HLB7.out.t.cell 0).trans (show _ = some (.slice A' n c') from rfl); have cx7 := (HLB7.out.e.cell 0).trans (show _ = some (.slice A n c) from rfl); have HS7 := Lib.hid (HSA.out X7 HB7.out); clear hb7) | (go_at_call 11; refine HS7.out.mono ?_; rintro e X8 ⟨rfl, hb8⟩; have HLB8 := Lib.hid (HLB7.out.after hb8); have HB8 := Lib.hid (HB7.out.trans (hb8.mono HB7.out.size)); have HO8 := Lib.hid (HO7.out.after hb8); have HP8 := Lib.hid (HP7.out.after hb8); clear hb8))
  clear ct cx ct7 cx7 e1 e2 e3
  have HBK : Hid (∀ g, A1 = some ⟨g, 0, none⟩ → 0 < ks.length → X3.heap.size ≤ g ∧ g < X4.heap.size) := Lib.hid (by
    rintro g rfl h0
    rcases HO4.out.2 with ⟨hv, _⟩ | ⟨g', cap, cur, hv, h1, h2, _⟩
    · cases hv
    · injection hv with hv
      injection hv with hv
      injection hv with hv
      subst hv
      exact ⟨h1, (Array.getElem?_eq_some_iff.1 h2).1⟩)
  have HX3 : Hid (w.heap.size < X3.heap.size ∧ w1.heap.size < X3.heap.size) := Lib.hid ⟨by omega, by omega⟩
  have HX45 : Hid (X4.heap.size ≤ X5.heap.size) := Lib.hid hs45
  have hkm := (own_row HO8.out).2.1
  have hkc := (own_row HO8.out).2.2.1
  unfold maxLen at hkc
  go_wp2_with fail
  go_loopw [16] (fun i wr => ∃ (j : Nat) (K : List Int), j ≤ ks.length ∧ i = .int .i64 j ∧ Hid (K.length = ks.length) ∧ Hid (OwnI wr X3.heap.size (.slice A1 ks.length c1) K) ∧ Hid (OwnI wr X5.heap.size (.slice A2 ks.length c2) ks) ∧ Hid (LB w A A' n c c' w1.heap.size wr) ∧ Hid (Below w1.heap.size w1 wr)) (fun i _ => ks.length - (intOf i).toNat)
  case atStart => exact ⟨0, ks, Nat.zero_le _, rfl, Lib.hid rfl, HO8, HP8, HLB8, HB8⟩
  case round =>
    rename World => wo
    obtain ⟨j, K, hj, rfl, HKL, HOj, HPj, HLj, HBj⟩ := hrel
    by_cases hlt : j < ks.length
    · obtain ⟨g, rfl, hg1, hg2⟩ := own_someI HOj.out HKL.out (by omega)
      obtain ⟨b1, b2⟩ := HBK.out g rfl (by omega)
      have hx3 := HX3.out
      have hx5 := HX45.out
      obtain ⟨v, hv⟩ : ∃ v, K[j]? = some v := ⟨K[j]'(by have := HKL.out; omega), List.getElem?_eq_getElem _⟩
      have cj := own_atI HOj.out HKL.out hv
      have hoj := HOj.out
      unfold OwnI at hoj
      rw [HKL.out] at hoj
      have hst := World.ownsRow.stored hoj j (.int .i64 (-1))
      have HO9 : Hid (OwnI (wo.setCell ⟨g, j, none⟩ (.int .i64 (-1))) X3.heap.size (.slice (some ⟨g, 0, none⟩) ks.length c1) (K.set j (-1))) := Lib.hid (by
        unfold OwnI
        rw [List.length_set, HKL.out]
        have := hst.1
        rwa [show (intCells K).set j (.int .i64 (-1)) = intCells (K.set j (-1)) from by simp [intCells, List.map_set]] at this)
      have HP9 : Hid (OwnI (wo.setCell ⟨g, j, none⟩ (.int .i64 (-1))) X5.heap.size (.slice A2 ks.length c2) ks) := Lib.hid (own_sameB HPj.out (SameB.of_set (by omega)))
      have HL9 : Hid (LB w A A' n c c' w1.heap.size (wo.setCell ⟨g, j, none⟩ (.int .i64 (-1)))) := Lib.hid ⟨HLj.out.bel.setCell (p := ⟨g, j, none⟩) (by show w.heap.size ≤ g; omega) _, HLj.out.e.far (p := ⟨g, j, none⟩) (by show w.heap.size ≠ g; omega) _, HLj.out.t.far (p := ⟨g, j, none⟩) (by show w1.heap.size ≠ g; omega) _⟩
      have HB9 : Hid (Below w1.heap.size w1 (wo.setCell ⟨g, j, none⟩ (.int .i64 (-1)))) := Lib.hid (HBj.out.setCell (p := ⟨g, j, none⟩) (by show w1.heap.size ≤ g; omega) _)
      have HKL9 : Hid ((K.set j (-1)).length = ks.length) := Lib.hid (by rw [List.length_set]; exact HKL.out)
      have fj : wo.frozen? ⟨g, j, none⟩ = false := World.ownsRow.frozenAt hoj j
      clear hoj hst hv
      go_wp2_with fail
      go_roundw
      case rel => exact ⟨j + 1, K.set j (-1), by omega, by go_num, HKL9, HO9, HP9, HL9, HB9⟩
      case measure => simp [intOf]; omega
    · obtain rfl : j = ks.length := by omega
      have ct := (HLj.out.t.cell 0).trans (show _ = some (.slice A' n c') from rfl)
      have HC9 := Lib.hid (HEA.out wo HBj.out)
      go_upto_region 13 with (go_at_call 7; refine HC9.out.mono ?_; rintro e X9 ⟨A3, m3, c3, rfl, hm3, ho3, hb9⟩; have HP9 := Lib.hid (HPj.out.after hb9); have HO9 := Lib.hid ho3; have HM3 := Lib.hid hm3; have HB9 := Lib.hid (HLj.out.bel.trans (hb9.mono HLj.out.bel.size)); clear hb9 ho3 hm3)
      have hm3 := HM3.out
      subst hm3
      have HI9 := Lib.hid (ints_same X9 _ _ _ _ A3 A2 ks.length c3 ks.length c2 ks (own_row HO9.out) (own_row HP9.out) rfl rfl)
      go_wp2_with (go_at_call 10; refine HI9.out.mono ?_; rintro e X10 ⟨rfl, hb10⟩; have HB10 := Lib.hid (HB9.out.trans (hb10.mono HB9.out.size)); clear hb10)
      go_ret
      exact tellsB rfl HB10.out
end Go.Proofs.YtjlpoigcalfdlaaDoor

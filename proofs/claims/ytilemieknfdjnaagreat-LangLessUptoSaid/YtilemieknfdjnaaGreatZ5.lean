/-
  WALKS: each: a list is gone through, and the first error that is told of an element is thrown.
-/
import Derived.Test.YtilemieknfdjnaaGreatZ4
namespace Go.Proofs.YtilemieknfdjnaaGreat
open Go Go.RowKit Go.Sort
set_option linter.unusedVariables false
/-- what is asked of each element, by a function value -/
structure Asks {α : Type} (w : World) (F : FuncId) (caps : Array Value) (V : α → Value) (l : List α) (one : Nat → α → Out) : Prop where
  enters : ∀ args X, Sem.run Tryz.prog (callFunc F args) X = .ok (.enter F args) X
  call : ∀ X, Below w.heap.size w X → ∀ (k : Nat) q, l[k]? = some q → Calls Tryz.prog F (#[.int .i64 k, V q] ++ caps) X (Ends X (one k q))
set_option maxRecDepth 20000 in
set_option maxHeartbeats 3200000 in
theorem each_str (w : World) (hi : Nat) (A : Option Addr) (n c : Nat) (l : List ByteArray) (h : Row w 0 hi 1 A n c (l.flatMap strC)) (hh : hi ≤ w.heap.size) (most : Nat) (hm : most < 1125899906842624) (FW FO : FuncId) (cW cO : Array Value) (pl : Nat → Fa) (one : Nat → ByteArray → Out) (HW : Wher w FW cW pl) (HO : Asks w FO cO (fun q : ByteArray => Value.string q) l one) :
    Calls Tryz.prog 44 #[.slice A n c, .int .i64 most, .func (.func FW) #[] cW, .func (.func FO) #[] cO] w (Comes' w (eachV most pl one 0 l)) := by
  have hc := h.2.2.1
  have hnc := h.2.1
  have hln : l.length = n := by have := h.1; rw [flatN_len (f := strC) (s := 1) (fun _ => rfl)] at this; omega
  have HL := Lib.hid hln
  unfold maxLen at hc
  have henW := HW.enters
  have henO := HO.enters
  have HOO := Lib.hid HO
  have HWW := Lib.hid HW
  clear hln HO HW
  go_enter Tryz.func44, Tryz.ntmps44
  go_wp2_with fail
  go_loopw [13] (fun i wr => ∃ k : Nat, k ≤ n ∧ i = .int .i64 k ∧ Hid (Below w.heap.size w wr) ∧ Hid (goodTo most pl one l k)) (fun i _ => n - (intOf i).toNat)
  case atStart => exact ⟨0, Nat.zero_le _, rfl, Lib.hid (Below.refl _ _), Lib.hid goodTo_zero⟩
  case round =>
    obtain ⟨k, hk, rfl, HB, HT⟩ := hrel
    rename World => wr
    by_cases hlt : k < n
    · have hkm : k ≤ most := HT.out.1
      obtain ⟨b, o, rfl, _, hb, hcell⟩ := h.at_ (by omega)
      obtain ⟨q, hq⟩ : ∃ q, l[k]? = some q := ⟨l[k]'(by have := HL.out; omega), List.getElem?_eq_getElem _⟩
      have c0 := (HB.out.cell (p := ⟨b, _, none⟩) (Nat.lt_of_lt_of_le hb hh)).trans (hcell (k * 1 + 0) _ ((flatN_get (f := strC) (s := 1) (fun _ => rfl) l k q hq 0 (by omega)).trans rfl))
      simp only [Nat.mul_one, Nat.add_zero] at c0
      have HQ := Lib.hid hq
      have HWC : Hid (∀ X, Below w.heap.size w X → Calls Tryz.prog FW (#[.int .i64 k] ++ cW) X (Ret X (faV (pl k)))) := Lib.hid fun X hX => HWW.out.call X hX k (by omega)
      clear hcell hq h
      by_cases hke : k = most
      · have HX : Hid (eachV most pl one 0 l = some { pl k with err := 4 }) := Lib.hid (eachV_at HT.out HQ.out (by rw [if_pos hke]))
        have d1 : ((k : Int) == (most : Int)) = true := by rw [beq_iff_eq]; omega
        have HBA := Lib.hid (HB.out)
        clear hke hkm
        rw [HX.out]
        go_wp2_with (first | ((with_reducible refine (HWC.out _ HBA.out).mono ?_); go_must (rintro e w3 ⟨rfl, hb3⟩; have HB3 := Lib.hid ((HBA.out).trans (hb3.mono (HBA.out).size)); clear hb3)) | (go_at_call 43; go_must (refine (throw_any _ _ _).mono ?_; rintro e w4 ⟨rfl, hb4⟩; have HB4 := Lib.hid (HB3.out.trans (hb4.mono HB3.out.size)); clear hb4)))
        exact ⟨rfl, rfl, HB4.out⟩
      · have d1 : ((k : Int) == (most : Int)) = false := by rw [beq_eq_false_iff_ne]; omega
        have HOC : Hid (∀ X, Below w.heap.size w X → Calls Tryz.prog FO (#[.int .i64 k, Value.string q] ++ cO) X (Ends X (one k q))) := Lib.hid fun X hX => HOO.out.call X hX k q HQ.out
        have HBA := Lib.hid (HB.out)
        have HKE := Lib.hid hke
        clear hke hkm
        cases ho : one k q with
        | thr f =>
          have HX : Hid (eachV most pl one 0 l = some f) := Lib.hid (eachV_at HT.out HQ.out (by rw [if_neg HKE.out, ho]; rfl))
          have HO2 : Hid (Calls Tryz.prog FO (#[.int .i64 k, Value.string q] ++ cO) (wr) (Threw (wr) f)) := Lib.hid (by have := HOC.out _ HBA.out; rw [ho] at this; exact this)
          clear ho
          rw [HX.out]
          go_wp2_with ((with_reducible refine HO2.out.mono ?_); go_must (rintro e w3 ⟨rfl, hb3⟩; have HB3 := Lib.hid (HBA.out.trans (hb3.mono HBA.out.size)); clear hb3))
          exact ⟨rfl, rfl, HB3.out⟩
        | ret j =>
          have HO2 : Hid (Calls Tryz.prog FO (#[.int .i64 k, Value.string q] ++ cO) (wr) (Ret (wr) (.int .i64 j))) := Lib.hid (by have := HOC.out _ HBA.out; rw [ho] at this; exact this)
          have HO3 := Lib.hid ho
          clear ho
          cases hj : (j == 0) with
          | true =>
            have HX : Hid (goodTo most pl one l (k + 1)) := Lib.hid (goodTo_next HT.out HKE.out HQ.out (by rw [HO3.out]; exact if_pos (beq_iff_eq.1 hj)))
            go_wp2_with ((with_reducible refine HO2.out.mono ?_); go_must (rintro e w3 ⟨rfl, hb3⟩; have HB3 := Lib.hid (HBA.out.trans (hb3.mono HBA.out.size)); clear hb3))
            go_roundw
            case measure => simp only [intOf]; omega
            case rel => exact ⟨k + 1, by omega, by simp, HB3, HX⟩
          | false =>
            have HX : Hid (eachV most pl one 0 l = some { pl k with err := j }) := Lib.hid (eachV_at HT.out HQ.out (by rw [if_neg HKE.out, HO3.out]; exact if_neg (beq_eq_false_iff_ne.1 hj)))
            rw [HX.out]
            go_wp2_with (first | ((with_reducible refine HO2.out.mono ?_); go_must (rintro e w2 ⟨rfl, hb2⟩; have HB2 := Lib.hid (HBA.out.trans (hb2.mono HBA.out.size)); clear hb2)) | ((with_reducible refine (HWC.out _ HB2.out).mono ?_); go_must (rintro e w3 ⟨rfl, hb3⟩; have HB3 := Lib.hid ((HB2.out).trans (hb3.mono (HB2.out).size)); clear hb3)) | (go_at_call 43; go_must (refine (throw_any _ _ _).mono ?_; rintro e w4 ⟨rfl, hb4⟩; have HB4 := Lib.hid (HB3.out.trans (hb4.mono HB3.out.size)); clear hb4)))
            exact ⟨rfl, rfl, HB4.out⟩
    · have HX : Hid (eachV most pl one 0 l = none) := Lib.hid (eachV_end HT.out (by have := HL.out; omega))
      have hkn : k = n := by omega
      subst hkn
      clear h
      rw [HX.out]
      go_wp2_with fail
      (try simp only [Exit.inBlock, Exit.then])
      refine bodyPost_end (results_none (by kernel_rfl) _ _ _) rfl ?_
      exact ⟨rfl, HB.out⟩
set_option maxRecDepth 20000 in
set_option maxHeartbeats 3200000 in
theorem each_con (w : World) (hi : Nat) (A : Option Addr) (n c : Nat) (l : List (ConD × Leaf)) (h : Row w 0 hi 6 A n c (l.flatMap conC)) (hh : hi ≤ w.heap.size) (most : Nat) (hm : most < 1125899906842624) (FW FO : FuncId) (cW cO : Array Value) (pl : Nat → Fa) (one : Nat → (ConD × Leaf) → Out) (HW : Wher w FW cW pl) (HO : Asks w FO cO (fun q : (ConD × Leaf) => .agg #[.string q.1.name, .string q.1.super, .bool q.1.abs, .slice q.2.p.A q.2.p.n q.2.p.c, .slice q.2.k.A q.2.k.n q.2.k.c, .slice q.2.r.A q.2.r.n q.2.r.c]) l one) :
    Calls Tryz.prog 48 #[.slice A n c, .int .i64 most, .func (.func FW) #[] cW, .func (.func FO) #[] cO] w (Comes' w (eachV most pl one 0 l)) := by
  have hc := h.2.2.1
  have hnc := h.2.1
  have hln : l.length = n := by have := h.1; rw [flatN_len (f := conC) (s := 6) (fun _ => rfl)] at this; omega
  have HL := Lib.hid hln
  unfold maxLen at hc
  have henW := HW.enters
  have henO := HO.enters
  have HOO := Lib.hid HO
  have HWW := Lib.hid HW
  clear hln HO HW
  go_enter Tryz.func48, Tryz.ntmps48
  go_wp2_with fail
  go_loopw [13] (fun i wr => ∃ k : Nat, k ≤ n ∧ i = .int .i64 k ∧ Hid (Below w.heap.size w wr) ∧ Hid (goodTo most pl one l k)) (fun i _ => n - (intOf i).toNat)
  case atStart => exact ⟨0, Nat.zero_le _, rfl, Lib.hid (Below.refl _ _), Lib.hid goodTo_zero⟩
  case round =>
    obtain ⟨k, hk, rfl, HB, HT⟩ := hrel
    rename World => wr
    by_cases hlt : k < n
    · have hkm : k ≤ most := HT.out.1
      obtain ⟨b, o, rfl, _, hb, hcell⟩ := h.at_ (by omega)
      obtain ⟨q, hq⟩ : ∃ q, l[k]? = some q := ⟨l[k]'(by have := HL.out; omega), List.getElem?_eq_getElem _⟩
      have c0 := (HB.out.cell (p := ⟨b, _, none⟩) (Nat.lt_of_lt_of_le hb hh)).trans (hcell (k * 6 + 0) _ ((flatN_get (f := conC) (s := 6) (fun _ => rfl) l k q hq 0 (by omega)).trans rfl))
      simp only [Nat.add_zero] at c0
      have c1 := (HB.out.cell (p := ⟨b, _, none⟩) (Nat.lt_of_lt_of_le hb hh)).trans (hcell (k * 6 + 1) _ ((flatN_get (f := conC) (s := 6) (fun _ => rfl) l k q hq 1 (by omega)).trans rfl))
      rw [show o + (k * 6 + 1) = o + k * 6 + 1 from by omega] at c1
      have c2 := (HB.out.cell (p := ⟨b, _, none⟩) (Nat.lt_of_lt_of_le hb hh)).trans (hcell (k * 6 + 2) _ ((flatN_get (f := conC) (s := 6) (fun _ => rfl) l k q hq 2 (by omega)).trans rfl))
      rw [show o + (k * 6 + 2) = o + k * 6 + 2 from by omega] at c2
      have c3 := (HB.out.cell (p := ⟨b, _, none⟩) (Nat.lt_of_lt_of_le hb hh)).trans (hcell (k * 6 + 3) _ ((flatN_get (f := conC) (s := 6) (fun _ => rfl) l k q hq 3 (by omega)).trans rfl))
      rw [show o + (k * 6 + 3) = o + k * 6 + 3 from by omega] at c3
      have c4 := (HB.out.cell (p := ⟨b, _, none⟩) (Nat.lt_of_lt_of_le hb hh)).trans (hcell (k * 6 + 4) _ ((flatN_get (f := conC) (s := 6) (fun _ => rfl) l k q hq 4 (by omega)).trans rfl))
      rw [show o + (k * 6 + 4) = o + k * 6 + 4 from by omega] at c4
      have c5 := (HB.out.cell (p := ⟨b, _, none⟩) (Nat.lt_of_lt_of_le hb hh)).trans (hcell (k * 6 + 5) _ ((flatN_get (f := conC) (s := 6) (fun _ => rfl) l k q hq 5 (by omega)).trans rfl))
      rw [show o + (k * 6 + 5) = o + k * 6 + 5 from by omega] at c5
      have HQ := Lib.hid hq
      have HWC : Hid (∀ X, Below w.heap.size w X → Calls Tryz.prog FW (#[.int .i64 k] ++ cW) X (Ret X (faV (pl k)))) := Lib.hid fun X hX => HWW.out.call X hX k (by omega)
      clear hcell hq h
      by_cases hke : k = most
      · have HX : Hid (eachV most pl one 0 l = some { pl k with err := 4 }) := Lib.hid (eachV_at HT.out HQ.out (by rw [if_pos hke]))
        have d1 : ((k : Int) == (most : Int)) = true := by rw [beq_iff_eq]; omega
        have HBA := Lib.hid (below_more HB.out (.cells #[.string q.1.name, .string q.1.super, .bool q.1.abs, .slice q.2.p.A q.2.p.n q.2.p.c, .slice q.2.k.A q.2.k.n q.2.k.c, .slice q.2.r.A q.2.r.n q.2.r.c] 47))
        clear hke hkm
        rw [HX.out]
        go_wp2_with (first | ((with_reducible refine (HWC.out _ HBA.out).mono ?_); go_must (rintro e w3 ⟨rfl, hb3⟩; have HB3 := Lib.hid ((HBA.out).trans (hb3.mono (HBA.out).size)); clear hb3)) | (go_at_call 43; go_must (refine (throw_any _ _ _).mono ?_; rintro e w4 ⟨rfl, hb4⟩; have HB4 := Lib.hid (HB3.out.trans (hb4.mono HB3.out.size)); clear hb4)))
        exact ⟨rfl, rfl, HB4.out⟩
      · have d1 : ((k : Int) == (most : Int)) = false := by rw [beq_eq_false_iff_ne]; omega
        have HOC : Hid (∀ X, Below w.heap.size w X → Calls Tryz.prog FO (#[.int .i64 k, .agg #[.string q.1.name, .string q.1.super, .bool q.1.abs, .slice q.2.p.A q.2.p.n q.2.p.c, .slice q.2.k.A q.2.k.n q.2.k.c, .slice q.2.r.A q.2.r.n q.2.r.c]] ++ cO) X (Ends X (one k q))) := Lib.hid fun X hX => HOO.out.call X hX k q HQ.out
        have HBA := Lib.hid (below_more HB.out (.cells #[.string q.1.name, .string q.1.super, .bool q.1.abs, .slice q.2.p.A q.2.p.n q.2.p.c, .slice q.2.k.A q.2.k.n q.2.k.c, .slice q.2.r.A q.2.r.n q.2.r.c] 47))
        have HKE := Lib.hid hke
        clear hke hkm
        cases ho : one k q with
        | thr f =>
          have HX : Hid (eachV most pl one 0 l = some f) := Lib.hid (eachV_at HT.out HQ.out (by rw [if_neg HKE.out, ho]; rfl))
          have HO2 : Hid (Calls Tryz.prog FO (#[.int .i64 k, .agg #[.string q.1.name, .string q.1.super, .bool q.1.abs, .slice q.2.p.A q.2.p.n q.2.p.c, .slice q.2.k.A q.2.k.n q.2.k.c, .slice q.2.r.A q.2.r.n q.2.r.c]] ++ cO) (wr.alloc (.cells #[.string q.1.name, .string q.1.super, .bool q.1.abs, .slice q.2.p.A q.2.p.n q.2.p.c, .slice q.2.k.A q.2.k.n q.2.k.c, .slice q.2.r.A q.2.r.n q.2.r.c] 47)) (Threw (wr.alloc (.cells #[.string q.1.name, .string q.1.super, .bool q.1.abs, .slice q.2.p.A q.2.p.n q.2.p.c, .slice q.2.k.A q.2.k.n q.2.k.c, .slice q.2.r.A q.2.r.n q.2.r.c] 47)) f)) := Lib.hid (by have := HOC.out _ HBA.out; rw [ho] at this; exact this)
          clear ho
          rw [HX.out]
          go_wp2_with ((with_reducible refine HO2.out.mono ?_); go_must (rintro e w3 ⟨rfl, hb3⟩; have HB3 := Lib.hid (HBA.out.trans (hb3.mono HBA.out.size)); clear hb3))
          exact ⟨rfl, rfl, HB3.out⟩
        | ret j =>
          have HO2 : Hid (Calls Tryz.prog FO (#[.int .i64 k, .agg #[.string q.1.name, .string q.1.super, .bool q.1.abs, .slice q.2.p.A q.2.p.n q.2.p.c, .slice q.2.k.A q.2.k.n q.2.k.c, .slice q.2.r.A q.2.r.n q.2.r.c]] ++ cO) (wr.alloc (.cells #[.string q.1.name, .string q.1.super, .bool q.1.abs, .slice q.2.p.A q.2.p.n q.2.p.c, .slice q.2.k.A q.2.k.n q.2.k.c, .slice q.2.r.A q.2.r.n q.2.r.c] 47)) (Ret (wr.alloc (.cells #[.string q.1.name, .string q.1.super, .bool q.1.abs, .slice q.2.p.A q.2.p.n q.2.p.c, .slice q.2.k.A q.2.k.n q.2.k.c, .slice q.2.r.A q.2.r.n q.2.r.c] 47)) (.int .i64 j))) := Lib.hid (by have := HOC.out _ HBA.out; rw [ho] at this; exact this)
          have HO3 := Lib.hid ho
          clear ho
          cases hj : (j == 0) with
          | true =>
            have HX : Hid (goodTo most pl one l (k + 1)) := Lib.hid (goodTo_next HT.out HKE.out HQ.out (by rw [HO3.out]; exact if_pos (beq_iff_eq.1 hj)))
            go_wp2_with ((with_reducible refine HO2.out.mono ?_); go_must (rintro e w3 ⟨rfl, hb3⟩; have HB3 := Lib.hid (HBA.out.trans (hb3.mono HBA.out.size)); clear hb3))
            go_roundw
            case measure => simp only [intOf]; omega
            case rel => exact ⟨k + 1, by omega, by simp, HB3, HX⟩
          | false =>
            have HX : Hid (eachV most pl one 0 l = some { pl k with err := j }) := Lib.hid (eachV_at HT.out HQ.out (by rw [if_neg HKE.out, HO3.out]; exact if_neg (beq_eq_false_iff_ne.1 hj)))
            rw [HX.out]
            go_wp2_with (first | ((with_reducible refine HO2.out.mono ?_); go_must (rintro e w2 ⟨rfl, hb2⟩; have HB2 := Lib.hid (HBA.out.trans (hb2.mono HBA.out.size)); clear hb2)) | ((with_reducible refine (HWC.out _ HB2.out).mono ?_); go_must (rintro e w3 ⟨rfl, hb3⟩; have HB3 := Lib.hid ((HB2.out).trans (hb3.mono (HB2.out).size)); clear hb3)) | (go_at_call 43; go_must (refine (throw_any _ _ _).mono ?_; rintro e w4 ⟨rfl, hb4⟩; have HB4 := Lib.hid (HB3.out.trans (hb4.mono HB3.out.size)); clear hb4)))
            exact ⟨rfl, rfl, HB4.out⟩
    · have HX : Hid (eachV most pl one 0 l = none) := Lib.hid (eachV_end HT.out (by have := HL.out; omega))
      have hkn : k = n := by omega
      subst hkn
      clear h
      rw [HX.out]
      go_wp2_with fail
      (try simp only [Exit.inBlock, Exit.then])
      refine bodyPost_end (results_none (by kernel_rfl) _ _ _) rfl ?_
      exact ⟨rfl, HB.out⟩
set_option maxRecDepth 20000 in
set_option maxHeartbeats 3200000 in
theorem each_pd (w : World) (hi : Nat) (A : Option Addr) (n c : Nat) (l : List PropD) (h : Row w 0 hi 2 A n c (l.flatMap pdC)) (hh : hi ≤ w.heap.size) (most : Nat) (hm : most < 1125899906842624) (FW FO : FuncId) (cW cO : Array Value) (pl : Nat → Fa) (one : Nat → PropD → Out) (HW : Wher w FW cW pl) (HO : Asks w FO cO (fun q : PropD => .agg #[.string q.name, .int .i64 q.typ]) l one) :
    Calls Tryz.prog 92 #[.slice A n c, .int .i64 most, .func (.func FW) #[] cW, .func (.func FO) #[] cO] w (Comes' w (eachV most pl one 0 l)) := by
  have hc := h.2.2.1
  have hnc := h.2.1
  have hln : l.length = n := by have := h.1; rw [flatN_len (f := pdC) (s := 2) (fun _ => rfl)] at this; omega
  have HL := Lib.hid hln
  unfold maxLen at hc
  have henW := HW.enters
  have henO := HO.enters
  have HOO := Lib.hid HO
  have HWW := Lib.hid HW
  clear hln HO HW
  go_enter Tryz.func92, Tryz.ntmps92
  go_wp2_with fail
  go_loopw [13] (fun i wr => ∃ k : Nat, k ≤ n ∧ i = .int .i64 k ∧ Hid (Below w.heap.size w wr) ∧ Hid (goodTo most pl one l k)) (fun i _ => n - (intOf i).toNat)
  case atStart => exact ⟨0, Nat.zero_le _, rfl, Lib.hid (Below.refl _ _), Lib.hid goodTo_zero⟩
  case round =>
    obtain ⟨k, hk, rfl, HB, HT⟩ := hrel
    rename World => wr
    by_cases hlt : k < n
    · have hkm : k ≤ most := HT.out.1
      obtain ⟨b, o, rfl, _, hb, hcell⟩ := h.at_ (by omega)
      obtain ⟨q, hq⟩ : ∃ q, l[k]? = some q := ⟨l[k]'(by have := HL.out; omega), List.getElem?_eq_getElem _⟩
      have c0 := (HB.out.cell (p := ⟨b, _, none⟩) (Nat.lt_of_lt_of_le hb hh)).trans (hcell (k * 2 + 0) _ ((flatN_get (f := pdC) (s := 2) (fun _ => rfl) l k q hq 0 (by omega)).trans rfl))
      simp only [Nat.add_zero] at c0
      have c1 := (HB.out.cell (p := ⟨b, _, none⟩) (Nat.lt_of_lt_of_le hb hh)).trans (hcell (k * 2 + 1) _ ((flatN_get (f := pdC) (s := 2) (fun _ => rfl) l k q hq 1 (by omega)).trans rfl))
      rw [show o + (k * 2 + 1) = o + k * 2 + 1 from by omega] at c1
      have HQ := Lib.hid hq
      have HWC : Hid (∀ X, Below w.heap.size w X → Calls Tryz.prog FW (#[.int .i64 k] ++ cW) X (Ret X (faV (pl k)))) := Lib.hid fun X hX => HWW.out.call X hX k (by omega)
      clear hcell hq h
      by_cases hke : k = most
      · have HX : Hid (eachV most pl one 0 l = some { pl k with err := 4 }) := Lib.hid (eachV_at HT.out HQ.out (by rw [if_pos hke]))
        have d1 : ((k : Int) == (most : Int)) = true := by rw [beq_iff_eq]; omega
        have HBA := Lib.hid (below_more HB.out (.cells #[.string q.name, .int .i64 q.typ] 85))
        clear hke hkm
        rw [HX.out]
        go_wp2_with (first | ((with_reducible refine (HWC.out _ HBA.out).mono ?_); go_must (rintro e w3 ⟨rfl, hb3⟩; have HB3 := Lib.hid ((HBA.out).trans (hb3.mono (HBA.out).size)); clear hb3)) | (go_at_call 43; go_must (refine (throw_any _ _ _).mono ?_; rintro e w4 ⟨rfl, hb4⟩; have HB4 := Lib.hid (HB3.out.trans (hb4.mono HB3.out.size)); clear hb4)))
        exact ⟨rfl, rfl, HB4.out⟩
      · have d1 : ((k : Int) == (most : Int)) = false := by rw [beq_eq_false_iff_ne]; omega
        have HOC : Hid (∀ X, Below w.heap.size w X → Calls Tryz.prog FO (#[.int .i64 k, .agg #[.string q.name, .int .i64 q.typ]] ++ cO) X (Ends X (one k q))) := Lib.hid fun X hX => HOO.out.call X hX k q HQ.out
        have HBA := Lib.hid (below_more HB.out (.cells #[.string q.name, .int .i64 q.typ] 85))
        have HKE := Lib.hid hke
        clear hke hkm
        cases ho : one k q with
        | thr f =>
          have HX : Hid (eachV most pl one 0 l = some f) := Lib.hid (eachV_at HT.out HQ.out (by rw [if_neg HKE.out, ho]; rfl))
          have HO2 : Hid (Calls Tryz.prog FO (#[.int .i64 k, .agg #[.string q.name, .int .i64 q.typ]] ++ cO) (wr.alloc (.cells #[.string q.name, .int .i64 q.typ] 85)) (Threw (wr.alloc (.cells #[.string q.name, .int .i64 q.typ] 85)) f)) := Lib.hid (by have := HOC.out _ HBA.out; rw [ho] at this; exact this)
          clear ho
          rw [HX.out]
          go_wp2_with ((with_reducible refine HO2.out.mono ?_); go_must (rintro e w3 ⟨rfl, hb3⟩; have HB3 := Lib.hid (HBA.out.trans (hb3.mono HBA.out.size)); clear hb3))
          exact ⟨rfl, rfl, HB3.out⟩
        | ret j =>
          have HO2 : Hid (Calls Tryz.prog FO (#[.int .i64 k, .agg #[.string q.name, .int .i64 q.typ]] ++ cO) (wr.alloc (.cells #[.string q.name, .int .i64 q.typ] 85)) (Ret (wr.alloc (.cells #[.string q.name, .int .i64 q.typ] 85)) (.int .i64 j))) := Lib.hid (by have := HOC.out _ HBA.out; rw [ho] at this; exact this)
          have HO3 := Lib.hid ho
          clear ho
          cases hj : (j == 0) with
          | true =>
            have HX : Hid (goodTo most pl one l (k + 1)) := Lib.hid (goodTo_next HT.out HKE.out HQ.out (by rw [HO3.out]; exact if_pos (beq_iff_eq.1 hj)))
            go_wp2_with ((with_reducible refine HO2.out.mono ?_); go_must (rintro e w3 ⟨rfl, hb3⟩; have HB3 := Lib.hid (HBA.out.trans (hb3.mono HBA.out.size)); clear hb3))
            go_roundw
            case measure => simp only [intOf]; omega
            case rel => exact ⟨k + 1, by omega, by simp, HB3, HX⟩
          | false =>
            have HX : Hid (eachV most pl one 0 l = some { pl k with err := j }) := Lib.hid (eachV_at HT.out HQ.out (by rw [if_neg HKE.out, HO3.out]; exact if_neg (beq_eq_false_iff_ne.1 hj)))
            rw [HX.out]
            go_wp2_with (first | ((with_reducible refine HO2.out.mono ?_); go_must (rintro e w2 ⟨rfl, hb2⟩; have HB2 := Lib.hid (HBA.out.trans (hb2.mono HBA.out.size)); clear hb2)) | ((with_reducible refine (HWC.out _ HB2.out).mono ?_); go_must (rintro e w3 ⟨rfl, hb3⟩; have HB3 := Lib.hid ((HB2.out).trans (hb3.mono (HB2.out).size)); clear hb3)) | (go_at_call 43; go_must (refine (throw_any _ _ _).mono ?_; rintro e w4 ⟨rfl, hb4⟩; have HB4 := Lib.hid (HB3.out.trans (hb4.mono HB3.out.size)); clear hb4)))
            exact ⟨rfl, rfl, HB4.out⟩
    · have HX : Hid (eachV most pl one 0 l = none) := Lib.hid (eachV_end HT.out (by have := HL.out; omega))
      have hkn : k = n := by omega
      subst hkn
      clear h
      rw [HX.out]
      go_wp2_with fail
      (try simp only [Exit.inBlock, Exit.then])
      refine bodyPost_end (results_none (by kernel_rfl) _ _ _) rfl ?_
      exact ⟨rfl, HB.out⟩
set_option maxRecDepth 20000 in
set_option maxHeartbeats 3200000 in
theorem each_kd (w : World) (hi : Nat) (A : Option Addr) (n c : Nat) (l : List KidD) (h : Row w 0 hi 4 A n c (l.flatMap kdC)) (hh : hi ≤ w.heap.size) (most : Nat) (hm : most < 1125899906842624) (FW FO : FuncId) (cW cO : Array Value) (pl : Nat → Fa) (one : Nat → KidD → Out) (HW : Wher w FW cW pl) (HO : Asks w FO cO (fun q : KidD => .agg #[.string q.role, .string q.con, .int .i64 q.min, .int .i64 q.max]) l one) :
    Calls Tryz.prog 98 #[.slice A n c, .int .i64 most, .func (.func FW) #[] cW, .func (.func FO) #[] cO] w (Comes' w (eachV most pl one 0 l)) := by
  have hc := h.2.2.1
  have hnc := h.2.1
  have hln : l.length = n := by have := h.1; rw [flatN_len (f := kdC) (s := 4) (fun _ => rfl)] at this; omega
  have HL := Lib.hid hln
  unfold maxLen at hc
  have henW := HW.enters
  have henO := HO.enters
  have HOO := Lib.hid HO
  have HWW := Lib.hid HW
  clear hln HO HW
  go_enter Tryz.func98, Tryz.ntmps98
  go_wp2_with fail
  go_loopw [13] (fun i wr => ∃ k : Nat, k ≤ n ∧ i = .int .i64 k ∧ Hid (Below w.heap.size w wr) ∧ Hid (goodTo most pl one l k)) (fun i _ => n - (intOf i).toNat)
  case atStart => exact ⟨0, Nat.zero_le _, rfl, Lib.hid (Below.refl _ _), Lib.hid goodTo_zero⟩
  case round =>
    obtain ⟨k, hk, rfl, HB, HT⟩ := hrel
    rename World => wr
    by_cases hlt : k < n
    · have hkm : k ≤ most := HT.out.1
      obtain ⟨b, o, rfl, _, hb, hcell⟩ := h.at_ (by omega)
      obtain ⟨q, hq⟩ : ∃ q, l[k]? = some q := ⟨l[k]'(by have := HL.out; omega), List.getElem?_eq_getElem _⟩
      have c0 := (HB.out.cell (p := ⟨b, _, none⟩) (Nat.lt_of_lt_of_le hb hh)).trans (hcell (k * 4 + 0) _ ((flatN_get (f := kdC) (s := 4) (fun _ => rfl) l k q hq 0 (by omega)).trans rfl))
      simp only [Nat.add_zero] at c0
      have c1 := (HB.out.cell (p := ⟨b, _, none⟩) (Nat.lt_of_lt_of_le hb hh)).trans (hcell (k * 4 + 1) _ ((flatN_get (f := kdC) (s := 4) (fun _ => rfl) l k q hq 1 (by omega)).trans rfl))
      rw [show o + (k * 4 + 1) = o + k * 4 + 1 from by omega] at c1
      have c2 := (HB.out.cell (p := ⟨b, _, none⟩) (Nat.lt_of_lt_of_le hb hh)).trans (hcell (k * 4 + 2) _ ((flatN_get (f := kdC) (s := 4) (fun _ => rfl) l k q hq 2 (by omega)).trans rfl))
      rw [show o + (k * 4 + 2) = o + k * 4 + 2 from by omega] at c2
      have c3 := (HB.out.cell (p := ⟨b, _, none⟩) (Nat.lt_of_lt_of_le hb hh)).trans (hcell (k * 4 + 3) _ ((flatN_get (f := kdC) (s := 4) (fun _ => rfl) l k q hq 3 (by omega)).trans rfl))
      rw [show o + (k * 4 + 3) = o + k * 4 + 3 from by omega] at c3
      have HQ := Lib.hid hq
      have HWC : Hid (∀ X, Below w.heap.size w X → Calls Tryz.prog FW (#[.int .i64 k] ++ cW) X (Ret X (faV (pl k)))) := Lib.hid fun X hX => HWW.out.call X hX k (by omega)
      clear hcell hq h
      by_cases hke : k = most
      · have HX : Hid (eachV most pl one 0 l = some { pl k with err := 4 }) := Lib.hid (eachV_at HT.out HQ.out (by rw [if_pos hke]))
        have d1 : ((k : Int) == (most : Int)) = true := by rw [beq_iff_eq]; omega
        have HBA := Lib.hid (below_more HB.out (.cells #[.string q.role, .string q.con, .int .i64 q.min, .int .i64 q.max] 62))
        clear hke hkm
        rw [HX.out]
        go_wp2_with (first | ((with_reducible refine (HWC.out _ HBA.out).mono ?_); go_must (rintro e w3 ⟨rfl, hb3⟩; have HB3 := Lib.hid ((HBA.out).trans (hb3.mono (HBA.out).size)); clear hb3)) | (go_at_call 43; go_must (refine (throw_any _ _ _).mono ?_; rintro e w4 ⟨rfl, hb4⟩; have HB4 := Lib.hid (HB3.out.trans (hb4.mono HB3.out.size)); clear hb4)))
        exact ⟨rfl, rfl, HB4.out⟩
      · have d1 : ((k : Int) == (most : Int)) = false := by rw [beq_eq_false_iff_ne]; omega
        have HOC : Hid (∀ X, Below w.heap.size w X → Calls Tryz.prog FO (#[.int .i64 k, .agg #[.string q.role, .string q.con, .int .i64 q.min, .int .i64 q.max]] ++ cO) X (Ends X (one k q))) := Lib.hid fun X hX => HOO.out.call X hX k q HQ.out
        have HBA := Lib.hid (below_more HB.out (.cells #[.string q.role, .string q.con, .int .i64 q.min, .int .i64 q.max] 62))
        have HKE := Lib.hid hke
        clear hke hkm
        cases ho : one k q with
        | thr f =>
          have HX : Hid (eachV most pl one 0 l = some f) := Lib.hid (eachV_at HT.out HQ.out (by rw [if_neg HKE.out, ho]; rfl))
          have HO2 : Hid (Calls Tryz.prog FO (#[.int .i64 k, .agg #[.string q.role, .string q.con, .int .i64 q.min, .int .i64 q.max]] ++ cO) (wr.alloc (.cells #[.string q.role, .string q.con, .int .i64 q.min, .int .i64 q.max] 62)) (Threw (wr.alloc (.cells #[.string q.role, .string q.con, .int .i64 q.min, .int .i64 q.max] 62)) f)) := Lib.hid (by have := HOC.out _ HBA.out; rw [ho] at this; exact this)
          clear ho
          rw [HX.out]
          go_wp2_with ((with_reducible refine HO2.out.mono ?_); go_must (rintro e w3 ⟨rfl, hb3⟩; have HB3 := Lib.hid (HBA.out.trans (hb3.mono HBA.out.size)); clear hb3))
          exact ⟨rfl, rfl, HB3.out⟩
        | ret j =>
          have HO2 : Hid (Calls Tryz.prog FO (#[.int .i64 k, .agg #[.string q.role, .string q.con, .int .i64 q.min, .int .i64 q.max]] ++ cO) (wr.alloc (.cells #[.string q.role, .string q.con, .int .i64 q.min, .int .i64 q.max] 62)) (Ret (wr.alloc (.cells #[.string q.role, .string q.con, .int .i64 q.min, .int .i64 q.max] 62)) (.int .i64 j))) := Lib.hid (by have := HOC.out _ HBA.out; rw [ho] at this; exact this)
          have HO3 := Lib.hid ho
          clear ho
          cases hj : (j == 0) with
          | true =>
            have HX : Hid (goodTo most pl one l (k + 1)) := Lib.hid (goodTo_next HT.out HKE.out HQ.out (by rw [HO3.out]; exact if_pos (beq_iff_eq.1 hj)))
            go_wp2_with ((with_reducible refine HO2.out.mono ?_); go_must (rintro e w3 ⟨rfl, hb3⟩; have HB3 := Lib.hid (HBA.out.trans (hb3.mono HBA.out.size)); clear hb3))
            go_roundw
            case measure => simp only [intOf]; omega
            case rel => exact ⟨k + 1, by omega, by simp, HB3, HX⟩
          | false =>
            have HX : Hid (eachV most pl one 0 l = some { pl k with err := j }) := Lib.hid (eachV_at HT.out HQ.out (by rw [if_neg HKE.out, HO3.out]; exact if_neg (beq_eq_false_iff_ne.1 hj)))
            rw [HX.out]
            go_wp2_with (first | ((with_reducible refine HO2.out.mono ?_); go_must (rintro e w2 ⟨rfl, hb2⟩; have HB2 := Lib.hid (HBA.out.trans (hb2.mono HBA.out.size)); clear hb2)) | ((with_reducible refine (HWC.out _ HB2.out).mono ?_); go_must (rintro e w3 ⟨rfl, hb3⟩; have HB3 := Lib.hid ((HB2.out).trans (hb3.mono (HB2.out).size)); clear hb3)) | (go_at_call 43; go_must (refine (throw_any _ _ _).mono ?_; rintro e w4 ⟨rfl, hb4⟩; have HB4 := Lib.hid (HB3.out.trans (hb4.mono HB3.out.size)); clear hb4)))
            exact ⟨rfl, rfl, HB4.out⟩
    · have HX : Hid (eachV most pl one 0 l = none) := Lib.hid (eachV_end HT.out (by have := HL.out; omega))
      have hkn : k = n := by omega
      subst hkn
      clear h
      rw [HX.out]
      go_wp2_with fail
      (try simp only [Exit.inBlock, Exit.then])
      refine bodyPost_end (results_none (by kernel_rfl) _ _ _) rfl ?_
      exact ⟨rfl, HB.out⟩
set_option maxRecDepth 20000 in
set_option maxHeartbeats 3200000 in
theorem each_rd (w : World) (hi : Nat) (A : Option Addr) (n c : Nat) (l : List RefD) (h : Row w 0 hi 3 A n c (l.flatMap rdC)) (hh : hi ≤ w.heap.size) (most : Nat) (hm : most < 1125899906842624) (FW FO : FuncId) (cW cO : Array Value) (pl : Nat → Fa) (one : Nat → RefD → Out) (HW : Wher w FW cW pl) (HO : Asks w FO cO (fun q : RefD => .agg #[.string q.role, .string q.con, .bool q.need]) l one) :
    Calls Tryz.prog 102 #[.slice A n c, .int .i64 most, .func (.func FW) #[] cW, .func (.func FO) #[] cO] w (Comes' w (eachV most pl one 0 l)) := by
  have hc := h.2.2.1
  have hnc := h.2.1
  have hln : l.length = n := by have := h.1; rw [flatN_len (f := rdC) (s := 3) (fun _ => rfl)] at this; omega
  have HL := Lib.hid hln
  unfold maxLen at hc
  have henW := HW.enters
  have henO := HO.enters
  have HOO := Lib.hid HO
  have HWW := Lib.hid HW
  clear hln HO HW
  go_enter Tryz.func102, Tryz.ntmps102
  go_wp2_with fail
  go_loopw [13] (fun i wr => ∃ k : Nat, k ≤ n ∧ i = .int .i64 k ∧ Hid (Below w.heap.size w wr) ∧ Hid (goodTo most pl one l k)) (fun i _ => n - (intOf i).toNat)
  case atStart => exact ⟨0, Nat.zero_le _, rfl, Lib.hid (Below.refl _ _), Lib.hid goodTo_zero⟩
  case round =>
    obtain ⟨k, hk, rfl, HB, HT⟩ := hrel
    rename World => wr
    by_cases hlt : k < n
    · have hkm : k ≤ most := HT.out.1
      obtain ⟨b, o, rfl, _, hb, hcell⟩ := h.at_ (by omega)
      obtain ⟨q, hq⟩ : ∃ q, l[k]? = some q := ⟨l[k]'(by have := HL.out; omega), List.getElem?_eq_getElem _⟩
      have c0 := (HB.out.cell (p := ⟨b, _, none⟩) (Nat.lt_of_lt_of_le hb hh)).trans (hcell (k * 3 + 0) _ ((flatN_get (f := rdC) (s := 3) (fun _ => rfl) l k q hq 0 (by omega)).trans rfl))
      simp only [Nat.add_zero] at c0
      have c1 := (HB.out.cell (p := ⟨b, _, none⟩) (Nat.lt_of_lt_of_le hb hh)).trans (hcell (k * 3 + 1) _ ((flatN_get (f := rdC) (s := 3) (fun _ => rfl) l k q hq 1 (by omega)).trans rfl))
      rw [show o + (k * 3 + 1) = o + k * 3 + 1 from by omega] at c1
      have c2 := (HB.out.cell (p := ⟨b, _, none⟩) (Nat.lt_of_lt_of_le hb hh)).trans (hcell (k * 3 + 2) _ ((flatN_get (f := rdC) (s := 3) (fun _ => rfl) l k q hq 2 (by omega)).trans rfl))
      rw [show o + (k * 3 + 2) = o + k * 3 + 2 from by omega] at c2
      have HQ := Lib.hid hq
      have HWC : Hid (∀ X, Below w.heap.size w X → Calls Tryz.prog FW (#[.int .i64 k] ++ cW) X (Ret X (faV (pl k)))) := Lib.hid fun X hX => HWW.out.call X hX k (by omega)
      clear hcell hq h
      by_cases hke : k = most
      · have HX : Hid (eachV most pl one 0 l = some { pl k with err := 4 }) := Lib.hid (eachV_at HT.out HQ.out (by rw [if_pos hke]))
        have d1 : ((k : Int) == (most : Int)) = true := by rw [beq_iff_eq]; omega
        have HBA := Lib.hid (below_more HB.out (.cells #[.string q.role, .string q.con, .bool q.need] 87))
        clear hke hkm
        rw [HX.out]
        go_wp2_with (first | ((with_reducible refine (HWC.out _ HBA.out).mono ?_); go_must (rintro e w3 ⟨rfl, hb3⟩; have HB3 := Lib.hid ((HBA.out).trans (hb3.mono (HBA.out).size)); clear hb3)) | (go_at_call 43; go_must (refine (throw_any _ _ _).mono ?_; rintro e w4 ⟨rfl, hb4⟩; have HB4 := Lib.hid (HB3.out.trans (hb4.mono HB3.out.size)); clear hb4)))
        exact ⟨rfl, rfl, HB4.out⟩
      · have d1 : ((k : Int) == (most : Int)) = false := by rw [beq_eq_false_iff_ne]; omega
        have HOC : Hid (∀ X, Below w.heap.size w X → Calls Tryz.prog FO (#[.int .i64 k, .agg #[.string q.role, .string q.con, .bool q.need]] ++ cO) X (Ends X (one k q))) := Lib.hid fun X hX => HOO.out.call X hX k q HQ.out
        have HBA := Lib.hid (below_more HB.out (.cells #[.string q.role, .string q.con, .bool q.need] 87))
        have HKE := Lib.hid hke
        clear hke hkm
        cases ho : one k q with
        | thr f =>
          have HX : Hid (eachV most pl one 0 l = some f) := Lib.hid (eachV_at HT.out HQ.out (by rw [if_neg HKE.out, ho]; rfl))
          have HO2 : Hid (Calls Tryz.prog FO (#[.int .i64 k, .agg #[.string q.role, .string q.con, .bool q.need]] ++ cO) (wr.alloc (.cells #[.string q.role, .string q.con, .bool q.need] 87)) (Threw (wr.alloc (.cells #[.string q.role, .string q.con, .bool q.need] 87)) f)) := Lib.hid (by have := HOC.out _ HBA.out; rw [ho] at this; exact this)
          clear ho
          rw [HX.out]
          go_wp2_with ((with_reducible refine HO2.out.mono ?_); go_must (rintro e w3 ⟨rfl, hb3⟩; have HB3 := Lib.hid (HBA.out.trans (hb3.mono HBA.out.size)); clear hb3))
          exact ⟨rfl, rfl, HB3.out⟩
        | ret j =>
          have HO2 : Hid (Calls Tryz.prog FO (#[.int .i64 k, .agg #[.string q.role, .string q.con, .bool q.need]] ++ cO) (wr.alloc (.cells #[.string q.role, .string q.con, .bool q.need] 87)) (Ret (wr.alloc (.cells #[.string q.role, .string q.con, .bool q.need] 87)) (.int .i64 j))) := Lib.hid (by have := HOC.out _ HBA.out; rw [ho] at this; exact this)
          have HO3 := Lib.hid ho
          clear ho
          cases hj : (j == 0) with
          | true =>
            have HX : Hid (goodTo most pl one l (k + 1)) := Lib.hid (goodTo_next HT.out HKE.out HQ.out (by rw [HO3.out]; exact if_pos (beq_iff_eq.1 hj)))
            go_wp2_with ((with_reducible refine HO2.out.mono ?_); go_must (rintro e w3 ⟨rfl, hb3⟩; have HB3 := Lib.hid (HBA.out.trans (hb3.mono HBA.out.size)); clear hb3))
            go_roundw
            case measure => simp only [intOf]; omega
            case rel => exact ⟨k + 1, by omega, by simp, HB3, HX⟩
          | false =>
            have HX : Hid (eachV most pl one 0 l = some { pl k with err := j }) := Lib.hid (eachV_at HT.out HQ.out (by rw [if_neg HKE.out, HO3.out]; exact if_neg (beq_eq_false_iff_ne.1 hj)))
            rw [HX.out]
            go_wp2_with (first | ((with_reducible refine HO2.out.mono ?_); go_must (rintro e w2 ⟨rfl, hb2⟩; have HB2 := Lib.hid (HBA.out.trans (hb2.mono HBA.out.size)); clear hb2)) | ((with_reducible refine (HWC.out _ HB2.out).mono ?_); go_must (rintro e w3 ⟨rfl, hb3⟩; have HB3 := Lib.hid ((HB2.out).trans (hb3.mono (HB2.out).size)); clear hb3)) | (go_at_call 43; go_must (refine (throw_any _ _ _).mono ?_; rintro e w4 ⟨rfl, hb4⟩; have HB4 := Lib.hid (HB3.out.trans (hb4.mono HB3.out.size)); clear hb4)))
            exact ⟨rfl, rfl, HB4.out⟩
    · have HX : Hid (eachV most pl one 0 l = none) := Lib.hid (eachV_end HT.out (by have := HL.out; omega))
      have hkn : k = n := by omega
      subst hkn
      clear h
      rw [HX.out]
      go_wp2_with fail
      (try simp only [Exit.inBlock, Exit.then])
      refine bodyPost_end (results_none (by kernel_rfl) _ _ _) rfl ?_
      exact ⟨rfl, HB.out⟩
set_option maxRecDepth 20000 in
set_option maxHeartbeats 3200000 in
theorem each_ru (w : World) (hi : Nat) (A : Option Addr) (n c : Nat) (l : List RuleD) (h : Row w 0 hi 4 A n c (l.flatMap ruC)) (hh : hi ≤ w.heap.size) (most : Nat) (hm : most < 1125899906842624) (FW FO : FuncId) (cW cO : Array Value) (pl : Nat → Fa) (one : Nat → RuleD → Out) (HW : Wher w FW cW pl) (HO : Asks w FO cO (fun q : RuleD => .agg #[.string q.con, .string q.name, .bool q.scope, .string q.expr]) l one) :
    Calls Tryz.prog 56 #[.slice A n c, .int .i64 most, .func (.func FW) #[] cW, .func (.func FO) #[] cO] w (Comes' w (eachV most pl one 0 l)) := by
  have hc := h.2.2.1
  have hnc := h.2.1
  have hln : l.length = n := by have := h.1; rw [flatN_len (f := ruC) (s := 4) (fun _ => rfl)] at this; omega
  have HL := Lib.hid hln
  unfold maxLen at hc
  have henW := HW.enters
  have henO := HO.enters
  have HOO := Lib.hid HO
  have HWW := Lib.hid HW
  clear hln HO HW
  go_enter Tryz.func56, Tryz.ntmps56
  go_wp2_with fail
  go_loopw [13] (fun i wr => ∃ k : Nat, k ≤ n ∧ i = .int .i64 k ∧ Hid (Below w.heap.size w wr) ∧ Hid (goodTo most pl one l k)) (fun i _ => n - (intOf i).toNat)
  case atStart => exact ⟨0, Nat.zero_le _, rfl, Lib.hid (Below.refl _ _), Lib.hid goodTo_zero⟩
  case round =>
    obtain ⟨k, hk, rfl, HB, HT⟩ := hrel
    rename World => wr
    by_cases hlt : k < n
    · have hkm : k ≤ most := HT.out.1
      obtain ⟨b, o, rfl, _, hb, hcell⟩ := h.at_ (by omega)
      obtain ⟨q, hq⟩ : ∃ q, l[k]? = some q := ⟨l[k]'(by have := HL.out; omega), List.getElem?_eq_getElem _⟩
      have c0 := (HB.out.cell (p := ⟨b, _, none⟩) (Nat.lt_of_lt_of_le hb hh)).trans (hcell (k * 4 + 0) _ ((flatN_get (f := ruC) (s := 4) (fun _ => rfl) l k q hq 0 (by omega)).trans rfl))
      simp only [Nat.add_zero] at c0
      have c1 := (HB.out.cell (p := ⟨b, _, none⟩) (Nat.lt_of_lt_of_le hb hh)).trans (hcell (k * 4 + 1) _ ((flatN_get (f := ruC) (s := 4) (fun _ => rfl) l k q hq 1 (by omega)).trans rfl))
      rw [show o + (k * 4 + 1) = o + k * 4 + 1 from by omega] at c1
      have c2 := (HB.out.cell (p := ⟨b, _, none⟩) (Nat.lt_of_lt_of_le hb hh)).trans (hcell (k * 4 + 2) _ ((flatN_get (f := ruC) (s := 4) (fun _ => rfl) l k q hq 2 (by omega)).trans rfl))
      rw [show o + (k * 4 + 2) = o + k * 4 + 2 from by omega] at c2
      have c3 := (HB.out.cell (p := ⟨b, _, none⟩) (Nat.lt_of_lt_of_le hb hh)).trans (hcell (k * 4 + 3) _ ((flatN_get (f := ruC) (s := 4) (fun _ => rfl) l k q hq 3 (by omega)).trans rfl))
      rw [show o + (k * 4 + 3) = o + k * 4 + 3 from by omega] at c3
      have HQ := Lib.hid hq
      have HWC : Hid (∀ X, Below w.heap.size w X → Calls Tryz.prog FW (#[.int .i64 k] ++ cW) X (Ret X (faV (pl k)))) := Lib.hid fun X hX => HWW.out.call X hX k (by omega)
      clear hcell hq h
      by_cases hke : k = most
      · have HX : Hid (eachV most pl one 0 l = some { pl k with err := 4 }) := Lib.hid (eachV_at HT.out HQ.out (by rw [if_pos hke]))
        have d1 : ((k : Int) == (most : Int)) = true := by rw [beq_iff_eq]; omega
        have HBA := Lib.hid (below_more HB.out (.cells #[.string q.con, .string q.name, .bool q.scope, .string q.expr] 49))
        clear hke hkm
        rw [HX.out]
        go_wp2_with (first | ((with_reducible refine (HWC.out _ HBA.out).mono ?_); go_must (rintro e w3 ⟨rfl, hb3⟩; have HB3 := Lib.hid ((HBA.out).trans (hb3.mono (HBA.out).size)); clear hb3)) | (go_at_call 43; go_must (refine (throw_any _ _ _).mono ?_; rintro e w4 ⟨rfl, hb4⟩; have HB4 := Lib.hid (HB3.out.trans (hb4.mono HB3.out.size)); clear hb4)))
        exact ⟨rfl, rfl, HB4.out⟩
      · have d1 : ((k : Int) == (most : Int)) = false := by rw [beq_eq_false_iff_ne]; omega
        have HOC : Hid (∀ X, Below w.heap.size w X → Calls Tryz.prog FO (#[.int .i64 k, .agg #[.string q.con, .string q.name, .bool q.scope, .string q.expr]] ++ cO) X (Ends X (one k q))) := Lib.hid fun X hX => HOO.out.call X hX k q HQ.out
        have HBA := Lib.hid (below_more HB.out (.cells #[.string q.con, .string q.name, .bool q.scope, .string q.expr] 49))
        have HKE := Lib.hid hke
        clear hke hkm
        cases ho : one k q with
        | thr f =>
          have HX : Hid (eachV most pl one 0 l = some f) := Lib.hid (eachV_at HT.out HQ.out (by rw [if_neg HKE.out, ho]; rfl))
          have HO2 : Hid (Calls Tryz.prog FO (#[.int .i64 k, .agg #[.string q.con, .string q.name, .bool q.scope, .string q.expr]] ++ cO) (wr.alloc (.cells #[.string q.con, .string q.name, .bool q.scope, .string q.expr] 49)) (Threw (wr.alloc (.cells #[.string q.con, .string q.name, .bool q.scope, .string q.expr] 49)) f)) := Lib.hid (by have := HOC.out _ HBA.out; rw [ho] at this; exact this)
          clear ho
          rw [HX.out]
          go_wp2_with ((with_reducible refine HO2.out.mono ?_); go_must (rintro e w3 ⟨rfl, hb3⟩; have HB3 := Lib.hid (HBA.out.trans (hb3.mono HBA.out.size)); clear hb3))
          exact ⟨rfl, rfl, HB3.out⟩
        | ret j =>
          have HO2 : Hid (Calls Tryz.prog FO (#[.int .i64 k, .agg #[.string q.con, .string q.name, .bool q.scope, .string q.expr]] ++ cO) (wr.alloc (.cells #[.string q.con, .string q.name, .bool q.scope, .string q.expr] 49)) (Ret (wr.alloc (.cells #[.string q.con, .string q.name, .bool q.scope, .string q.expr] 49)) (.int .i64 j))) := Lib.hid (by have := HOC.out _ HBA.out; rw [ho] at this; exact this)
          have HO3 := Lib.hid ho
          clear ho
          cases hj : (j == 0) with
          | true =>
            have HX : Hid (goodTo most pl one l (k + 1)) := Lib.hid (goodTo_next HT.out HKE.out HQ.out (by rw [HO3.out]; exact if_pos (beq_iff_eq.1 hj)))
            go_wp2_with ((with_reducible refine HO2.out.mono ?_); go_must (rintro e w3 ⟨rfl, hb3⟩; have HB3 := Lib.hid (HBA.out.trans (hb3.mono HBA.out.size)); clear hb3))
            go_roundw
            case measure => simp only [intOf]; omega
            case rel => exact ⟨k + 1, by omega, by simp, HB3, HX⟩
          | false =>
            have HX : Hid (eachV most pl one 0 l = some { pl k with err := j }) := Lib.hid (eachV_at HT.out HQ.out (by rw [if_neg HKE.out, HO3.out]; exact if_neg (beq_eq_false_iff_ne.1 hj)))
            rw [HX.out]
            go_wp2_with (first | ((with_reducible refine HO2.out.mono ?_); go_must (rintro e w2 ⟨rfl, hb2⟩; have HB2 := Lib.hid (HBA.out.trans (hb2.mono HBA.out.size)); clear hb2)) | ((with_reducible refine (HWC.out _ HB2.out).mono ?_); go_must (rintro e w3 ⟨rfl, hb3⟩; have HB3 := Lib.hid ((HB2.out).trans (hb3.mono (HB2.out).size)); clear hb3)) | (go_at_call 43; go_must (refine (throw_any _ _ _).mono ?_; rintro e w4 ⟨rfl, hb4⟩; have HB4 := Lib.hid (HB3.out.trans (hb4.mono HB3.out.size)); clear hb4)))
            exact ⟨rfl, rfl, HB4.out⟩
    · have HX : Hid (eachV most pl one 0 l = none) := Lib.hid (eachV_end HT.out (by have := HL.out; omega))
      have hkn : k = n := by omega
      subst hkn
      clear h
      rw [HX.out]
      go_wp2_with fail
      (try simp only [Exit.inBlock, Exit.then])
      refine bodyPost_end (results_none (by kernel_rfl) _ _ _) rfl ?_
      exact ⟨rfl, HB.out⟩
set_option maxRecDepth 20000 in
set_option maxHeartbeats 3200000 in
theorem each_eq (w : World) (hi : Nat) (A : Option Addr) (n c : Nat) (l : List EqM) (h : Row w 0 hi 3 A n c (l.flatMap eqC)) (hh : hi ≤ w.heap.size) (most : Nat) (hm : most < 1125899906842624) (FW FO : FuncId) (cW cO : Array Value) (pl : Nat → Fa) (one : Nat → EqM → Out) (HW : Wher w FW cW pl) (HO : Asks w FO cO (fun q : EqM => .agg #[.string q.con, .slice q.L.A q.L.n q.L.c, .slice q.R.A q.R.n q.R.c]) l one) :
    Calls Tryz.prog 60 #[.slice A n c, .int .i64 most, .func (.func FW) #[] cW, .func (.func FO) #[] cO] w (Comes' w (eachV most pl one 0 l)) := by
  have hc := h.2.2.1
  have hnc := h.2.1
  have hln : l.length = n := by have := h.1; rw [flatN_len (f := eqC) (s := 3) (fun _ => rfl)] at this; omega
  have HL := Lib.hid hln
  unfold maxLen at hc
  have henW := HW.enters
  have henO := HO.enters
  have HOO := Lib.hid HO
  have HWW := Lib.hid HW
  clear hln HO HW
  go_enter Tryz.func60, Tryz.ntmps60
  go_wp2_with fail
  go_loopw [13] (fun i wr => ∃ k : Nat, k ≤ n ∧ i = .int .i64 k ∧ Hid (Below w.heap.size w wr) ∧ Hid (goodTo most pl one l k)) (fun i _ => n - (intOf i).toNat)
  case atStart => exact ⟨0, Nat.zero_le _, rfl, Lib.hid (Below.refl _ _), Lib.hid goodTo_zero⟩
  case round =>
    obtain ⟨k, hk, rfl, HB, HT⟩ := hrel
    rename World => wr
    by_cases hlt : k < n
    · have hkm : k ≤ most := HT.out.1
      obtain ⟨b, o, rfl, _, hb, hcell⟩ := h.at_ (by omega)
      obtain ⟨q, hq⟩ : ∃ q, l[k]? = some q := ⟨l[k]'(by have := HL.out; omega), List.getElem?_eq_getElem _⟩
      have c0 := (HB.out.cell (p := ⟨b, _, none⟩) (Nat.lt_of_lt_of_le hb hh)).trans (hcell (k * 3 + 0) _ ((flatN_get (f := eqC) (s := 3) (fun _ => rfl) l k q hq 0 (by omega)).trans rfl))
      simp only [Nat.add_zero] at c0
      have c1 := (HB.out.cell (p := ⟨b, _, none⟩) (Nat.lt_of_lt_of_le hb hh)).trans (hcell (k * 3 + 1) _ ((flatN_get (f := eqC) (s := 3) (fun _ => rfl) l k q hq 1 (by omega)).trans rfl))
      rw [show o + (k * 3 + 1) = o + k * 3 + 1 from by omega] at c1
      have c2 := (HB.out.cell (p := ⟨b, _, none⟩) (Nat.lt_of_lt_of_le hb hh)).trans (hcell (k * 3 + 2) _ ((flatN_get (f := eqC) (s := 3) (fun _ => rfl) l k q hq 2 (by omega)).trans rfl))
      rw [show o + (k * 3 + 2) = o + k * 3 + 2 from by omega] at c2
      have HQ := Lib.hid hq
      have HWC : Hid (∀ X, Below w.heap.size w X → Calls Tryz.prog FW (#[.int .i64 k] ++ cW) X (Ret X (faV (pl k)))) := Lib.hid fun X hX => HWW.out.call X hX k (by omega)
      clear hcell hq h
      by_cases hke : k = most
      · have HX : Hid (eachV most pl one 0 l = some { pl k with err := 4 }) := Lib.hid (eachV_at HT.out HQ.out (by rw [if_pos hke]))
        have d1 : ((k : Int) == (most : Int)) = true := by rw [beq_iff_eq]; omega
        have HBA := Lib.hid (below_more HB.out (.cells #[.string q.con, .slice q.L.A q.L.n q.L.c, .slice q.R.A q.R.n q.R.c] 52))
        clear hke hkm
        rw [HX.out]
        go_wp2_with (first | ((with_reducible refine (HWC.out _ HBA.out).mono ?_); go_must (rintro e w3 ⟨rfl, hb3⟩; have HB3 := Lib.hid ((HBA.out).trans (hb3.mono (HBA.out).size)); clear hb3)) | (go_at_call 43; go_must (refine (throw_any _ _ _).mono ?_; rintro e w4 ⟨rfl, hb4⟩; have HB4 := Lib.hid (HB3.out.trans (hb4.mono HB3.out.size)); clear hb4)))
        exact ⟨rfl, rfl, HB4.out⟩
      · have d1 : ((k : Int) == (most : Int)) = false := by rw [beq_eq_false_iff_ne]; omega
        have HOC : Hid (∀ X, Below w.heap.size w X → Calls Tryz.prog FO (#[.int .i64 k, .agg #[.string q.con, .slice q.L.A q.L.n q.L.c, .slice q.R.A q.R.n q.R.c]] ++ cO) X (Ends X (one k q))) := Lib.hid fun X hX => HOO.out.call X hX k q HQ.out
        have HBA := Lib.hid (below_more HB.out (.cells #[.string q.con, .slice q.L.A q.L.n q.L.c, .slice q.R.A q.R.n q.R.c] 52))
        have HKE := Lib.hid hke
        clear hke hkm
        cases ho : one k q with
        | thr f =>
          have HX : Hid (eachV most pl one 0 l = some f) := Lib.hid (eachV_at HT.out HQ.out (by rw [if_neg HKE.out, ho]; rfl))
          have HO2 : Hid (Calls Tryz.prog FO (#[.int .i64 k, .agg #[.string q.con, .slice q.L.A q.L.n q.L.c, .slice q.R.A q.R.n q.R.c]] ++ cO) (wr.alloc (.cells #[.string q.con, .slice q.L.A q.L.n q.L.c, .slice q.R.A q.R.n q.R.c] 52)) (Threw (wr.alloc (.cells #[.string q.con, .slice q.L.A q.L.n q.L.c, .slice q.R.A q.R.n q.R.c] 52)) f)) := Lib.hid (by have := HOC.out _ HBA.out; rw [ho] at this; exact this)
          clear ho
          rw [HX.out]
          go_wp2_with ((with_reducible refine HO2.out.mono ?_); go_must (rintro e w3 ⟨rfl, hb3⟩; have HB3 := Lib.hid (HBA.out.trans (hb3.mono HBA.out.size)); clear hb3))
          exact ⟨rfl, rfl, HB3.out⟩
        | ret j =>
          have HO2 : Hid (Calls Tryz.prog FO (#[.int .i64 k, .agg #[.string q.con, .slice q.L.A q.L.n q.L.c, .slice q.R.A q.R.n q.R.c]] ++ cO) (wr.alloc (.cells #[.string q.con, .slice q.L.A q.L.n q.L.c, .slice q.R.A q.R.n q.R.c] 52)) (Ret (wr.alloc (.cells #[.string q.con, .slice q.L.A q.L.n q.L.c, .slice q.R.A q.R.n q.R.c] 52)) (.int .i64 j))) := Lib.hid (by have := HOC.out _ HBA.out; rw [ho] at this; exact this)
          have HO3 := Lib.hid ho
          clear ho
          cases hj : (j == 0) with
          | true =>
            have HX : Hid (goodTo most pl one l (k + 1)) := Lib.hid (goodTo_next HT.out HKE.out HQ.out (by rw [HO3.out]; exact if_pos (beq_iff_eq.1 hj)))
            go_wp2_with ((with_reducible refine HO2.out.mono ?_); go_must (rintro e w3 ⟨rfl, hb3⟩; have HB3 := Lib.hid (HBA.out.trans (hb3.mono HBA.out.size)); clear hb3))
            go_roundw
            case measure => simp only [intOf]; omega
            case rel => exact ⟨k + 1, by omega, by simp, HB3, HX⟩
          | false =>
            have HX : Hid (eachV most pl one 0 l = some { pl k with err := j }) := Lib.hid (eachV_at HT.out HQ.out (by rw [if_neg HKE.out, HO3.out]; exact if_neg (beq_eq_false_iff_ne.1 hj)))
            rw [HX.out]
            go_wp2_with (first | ((with_reducible refine HO2.out.mono ?_); go_must (rintro e w2 ⟨rfl, hb2⟩; have HB2 := Lib.hid (HBA.out.trans (hb2.mono HBA.out.size)); clear hb2)) | ((with_reducible refine (HWC.out _ HB2.out).mono ?_); go_must (rintro e w3 ⟨rfl, hb3⟩; have HB3 := Lib.hid ((HB2.out).trans (hb3.mono (HB2.out).size)); clear hb3)) | (go_at_call 43; go_must (refine (throw_any _ _ _).mono ?_; rintro e w4 ⟨rfl, hb4⟩; have HB4 := Lib.hid (HB3.out.trans (hb4.mono HB3.out.size)); clear hb4)))
            exact ⟨rfl, rfl, HB4.out⟩
    · have HX : Hid (eachV most pl one 0 l = none) := Lib.hid (eachV_end HT.out (by have := HL.out; omega))
      have hkn : k = n := by omega
      subst hkn
      clear h
      rw [HX.out]
      go_wp2_with fail
      (try simp only [Exit.inBlock, Exit.then])
      refine bodyPost_end (results_none (by kernel_rfl) _ _ _) rfl ?_
      exact ⟨rfl, HB.out⟩
set_option maxRecDepth 20000 in
set_option maxHeartbeats 3200000 in
theorem each_ls (w : World) (hi : Nat) (A : Option Addr) (n c : Nat) (l : List (Sl × List (SideD × Sl))) (h : Row w 0 hi 1 A n c (l.flatMap lsC)) (hh : hi ≤ w.heap.size) (most : Nat) (hm : most < 1125899906842624) (FW FO : FuncId) (cW cO : Array Value) (pl : Nat → Fa) (one : Nat → (Sl × List (SideD × Sl)) → Out) (HW : Wher w FW cW pl) (HO : Asks w FO cO (fun q : (Sl × List (SideD × Sl)) => .slice q.1.A q.1.n q.1.c) l one) :
    Calls Tryz.prog 62 #[.slice A n c, .int .i64 most, .func (.func FW) #[] cW, .func (.func FO) #[] cO] w (Comes' w (eachV most pl one 0 l)) := by
  have hc := h.2.2.1
  have hnc := h.2.1
  have hln : l.length = n := by have := h.1; rw [flatN_len (f := lsC) (s := 1) (fun _ => rfl)] at this; omega
  have HL := Lib.hid hln
  unfold maxLen at hc
  have henW := HW.enters
  have henO := HO.enters
  have HOO := Lib.hid HO
  have HWW := Lib.hid HW
  clear hln HO HW
  go_enter Tryz.func62, Tryz.ntmps62
  go_wp2_with fail
  go_loopw [13] (fun i wr => ∃ k : Nat, k ≤ n ∧ i = .int .i64 k ∧ Hid (Below w.heap.size w wr) ∧ Hid (goodTo most pl one l k)) (fun i _ => n - (intOf i).toNat)
  case atStart => exact ⟨0, Nat.zero_le _, rfl, Lib.hid (Below.refl _ _), Lib.hid goodTo_zero⟩
  case round =>
    obtain ⟨k, hk, rfl, HB, HT⟩ := hrel
    rename World => wr
    by_cases hlt : k < n
    · have hkm : k ≤ most := HT.out.1
      obtain ⟨b, o, rfl, _, hb, hcell⟩ := h.at_ (by omega)
      obtain ⟨q, hq⟩ : ∃ q, l[k]? = some q := ⟨l[k]'(by have := HL.out; omega), List.getElem?_eq_getElem _⟩
      have c0 := (HB.out.cell (p := ⟨b, _, none⟩) (Nat.lt_of_lt_of_le hb hh)).trans (hcell (k * 1 + 0) _ ((flatN_get (f := lsC) (s := 1) (fun _ => rfl) l k q hq 0 (by omega)).trans rfl))
      simp only [Nat.mul_one, Nat.add_zero] at c0
      have HQ := Lib.hid hq
      have HWC : Hid (∀ X, Below w.heap.size w X → Calls Tryz.prog FW (#[.int .i64 k] ++ cW) X (Ret X (faV (pl k)))) := Lib.hid fun X hX => HWW.out.call X hX k (by omega)
      clear hcell hq h
      by_cases hke : k = most
      · have HX : Hid (eachV most pl one 0 l = some { pl k with err := 4 }) := Lib.hid (eachV_at HT.out HQ.out (by rw [if_pos hke]))
        have d1 : ((k : Int) == (most : Int)) = true := by rw [beq_iff_eq]; omega
        have HBA := Lib.hid (HB.out)
        clear hke hkm
        rw [HX.out]
        go_wp2_with (first | ((with_reducible refine (HWC.out _ HBA.out).mono ?_); go_must (rintro e w3 ⟨rfl, hb3⟩; have HB3 := Lib.hid ((HBA.out).trans (hb3.mono (HBA.out).size)); clear hb3)) | (go_at_call 43; go_must (refine (throw_any _ _ _).mono ?_; rintro e w4 ⟨rfl, hb4⟩; have HB4 := Lib.hid (HB3.out.trans (hb4.mono HB3.out.size)); clear hb4)))
        exact ⟨rfl, rfl, HB4.out⟩
      · have d1 : ((k : Int) == (most : Int)) = false := by rw [beq_eq_false_iff_ne]; omega
        have HOC : Hid (∀ X, Below w.heap.size w X → Calls Tryz.prog FO (#[.int .i64 k, .slice q.1.A q.1.n q.1.c] ++ cO) X (Ends X (one k q))) := Lib.hid fun X hX => HOO.out.call X hX k q HQ.out
        have HBA := Lib.hid (HB.out)
        have HKE := Lib.hid hke
        clear hke hkm
        cases ho : one k q with
        | thr f =>
          have HX : Hid (eachV most pl one 0 l = some f) := Lib.hid (eachV_at HT.out HQ.out (by rw [if_neg HKE.out, ho]; rfl))
          have HO2 : Hid (Calls Tryz.prog FO (#[.int .i64 k, .slice q.1.A q.1.n q.1.c] ++ cO) (wr) (Threw (wr) f)) := Lib.hid (by have := HOC.out _ HBA.out; rw [ho] at this; exact this)
          clear ho
          rw [HX.out]
          go_wp2_with ((with_reducible refine HO2.out.mono ?_); go_must (rintro e w3 ⟨rfl, hb3⟩; have HB3 := Lib.hid (HBA.out.trans (hb3.mono HBA.out.size)); clear hb3))
          exact ⟨rfl, rfl, HB3.out⟩
        | ret j =>
          have HO2 : Hid (Calls Tryz.prog FO (#[.int .i64 k, .slice q.1.A q.1.n q.1.c] ++ cO) (wr) (Ret (wr) (.int .i64 j))) := Lib.hid (by have := HOC.out _ HBA.out; rw [ho] at this; exact this)
          have HO3 := Lib.hid ho
          clear ho
          cases hj : (j == 0) with
          | true =>
            have HX : Hid (goodTo most pl one l (k + 1)) := Lib.hid (goodTo_next HT.out HKE.out HQ.out (by rw [HO3.out]; exact if_pos (beq_iff_eq.1 hj)))
            go_wp2_with ((with_reducible refine HO2.out.mono ?_); go_must (rintro e w3 ⟨rfl, hb3⟩; have HB3 := Lib.hid (HBA.out.trans (hb3.mono HBA.out.size)); clear hb3))
            go_roundw
            case measure => simp only [intOf]; omega
            case rel => exact ⟨k + 1, by omega, by simp, HB3, HX⟩
          | false =>
            have HX : Hid (eachV most pl one 0 l = some { pl k with err := j }) := Lib.hid (eachV_at HT.out HQ.out (by rw [if_neg HKE.out, HO3.out]; exact if_neg (beq_eq_false_iff_ne.1 hj)))
            rw [HX.out]
            go_wp2_with (first | ((with_reducible refine HO2.out.mono ?_); go_must (rintro e w2 ⟨rfl, hb2⟩; have HB2 := Lib.hid (HBA.out.trans (hb2.mono HBA.out.size)); clear hb2)) | ((with_reducible refine (HWC.out _ HB2.out).mono ?_); go_must (rintro e w3 ⟨rfl, hb3⟩; have HB3 := Lib.hid ((HB2.out).trans (hb3.mono (HB2.out).size)); clear hb3)) | (go_at_call 43; go_must (refine (throw_any _ _ _).mono ?_; rintro e w4 ⟨rfl, hb4⟩; have HB4 := Lib.hid (HB3.out.trans (hb4.mono HB3.out.size)); clear hb4)))
            exact ⟨rfl, rfl, HB4.out⟩
    · have HX : Hid (eachV most pl one 0 l = none) := Lib.hid (eachV_end HT.out (by have := HL.out; omega))
      have hkn : k = n := by omega
      subst hkn
      clear h
      rw [HX.out]
      go_wp2_with fail
      (try simp only [Exit.inBlock, Exit.then])
      refine bodyPost_end (results_none (by kernel_rfl) _ _ _) rfl ?_
      exact ⟨rfl, HB.out⟩
set_option maxRecDepth 20000 in
set_option maxHeartbeats 3200000 in
theorem each_ed (w : World) (hi : Nat) (A : Option Addr) (n c : Nat) (l : List (RowD × Sl)) (h : Row w 0 hi 2 A n c (l.flatMap rowC)) (hh : hi ≤ w.heap.size) (most : Nat) (hm : most < 1125899906842624) (FW FO : FuncId) (cW cO : Array Value) (pl : Nat → Fa) (one : Nat → (RowD × Sl) → Out) (HW : Wher w FW cW pl) (HO : Asks w FO cO (fun q : (RowD × Sl) => .agg #[.string q.1.con, .slice q.2.A q.2.n q.2.c]) l one) :
    Calls Tryz.prog 65 #[.slice A n c, .int .i64 most, .func (.func FW) #[] cW, .func (.func FO) #[] cO] w (Comes' w (eachV most pl one 0 l)) := by
  have hc := h.2.2.1
  have hnc := h.2.1
  have hln : l.length = n := by have := h.1; rw [flatN_len (f := rowC) (s := 2) (fun _ => rfl)] at this; omega
  have HL := Lib.hid hln
  unfold maxLen at hc
  have henW := HW.enters
  have henO := HO.enters
  have HOO := Lib.hid HO
  have HWW := Lib.hid HW
  clear hln HO HW
  go_enter Tryz.func65, Tryz.ntmps65
  go_wp2_with fail
  go_loopw [13] (fun i wr => ∃ k : Nat, k ≤ n ∧ i = .int .i64 k ∧ Hid (Below w.heap.size w wr) ∧ Hid (goodTo most pl one l k)) (fun i _ => n - (intOf i).toNat)
  case atStart => exact ⟨0, Nat.zero_le _, rfl, Lib.hid (Below.refl _ _), Lib.hid goodTo_zero⟩
  case round =>
    obtain ⟨k, hk, rfl, HB, HT⟩ := hrel
    rename World => wr
    by_cases hlt : k < n
    · have hkm : k ≤ most := HT.out.1
      obtain ⟨b, o, rfl, _, hb, hcell⟩ := h.at_ (by omega)
      obtain ⟨q, hq⟩ : ∃ q, l[k]? = some q := ⟨l[k]'(by have := HL.out; omega), List.getElem?_eq_getElem _⟩
      have c0 := (HB.out.cell (p := ⟨b, _, none⟩) (Nat.lt_of_lt_of_le hb hh)).trans (hcell (k * 2 + 0) _ ((flatN_get (f := rowC) (s := 2) (fun _ => rfl) l k q hq 0 (by omega)).trans rfl))
      simp only [Nat.add_zero] at c0
      have c1 := (HB.out.cell (p := ⟨b, _, none⟩) (Nat.lt_of_lt_of_le hb hh)).trans (hcell (k * 2 + 1) _ ((flatN_get (f := rowC) (s := 2) (fun _ => rfl) l k q hq 1 (by omega)).trans rfl))
      rw [show o + (k * 2 + 1) = o + k * 2 + 1 from by omega] at c1
      have HQ := Lib.hid hq
      have HWC : Hid (∀ X, Below w.heap.size w X → Calls Tryz.prog FW (#[.int .i64 k] ++ cW) X (Ret X (faV (pl k)))) := Lib.hid fun X hX => HWW.out.call X hX k (by omega)
      clear hcell hq h
      by_cases hke : k = most
      · have HX : Hid (eachV most pl one 0 l = some { pl k with err := 4 }) := Lib.hid (eachV_at HT.out HQ.out (by rw [if_pos hke]))
        have d1 : ((k : Int) == (most : Int)) = true := by rw [beq_iff_eq]; omega
        have HBA := Lib.hid (below_more HB.out (.cells #[.string q.1.con, .slice q.2.A q.2.n q.2.c] 55))
        clear hke hkm
        rw [HX.out]
        go_wp2_with (first | ((with_reducible refine (HWC.out _ HBA.out).mono ?_); go_must (rintro e w3 ⟨rfl, hb3⟩; have HB3 := Lib.hid ((HBA.out).trans (hb3.mono (HBA.out).size)); clear hb3)) | (go_at_call 43; go_must (refine (throw_any _ _ _).mono ?_; rintro e w4 ⟨rfl, hb4⟩; have HB4 := Lib.hid (HB3.out.trans (hb4.mono HB3.out.size)); clear hb4)))
        exact ⟨rfl, rfl, HB4.out⟩
      · have d1 : ((k : Int) == (most : Int)) = false := by rw [beq_eq_false_iff_ne]; omega
        have HOC : Hid (∀ X, Below w.heap.size w X → Calls Tryz.prog FO (#[.int .i64 k, .agg #[.string q.1.con, .slice q.2.A q.2.n q.2.c]] ++ cO) X (Ends X (one k q))) := Lib.hid fun X hX => HOO.out.call X hX k q HQ.out
        have HBA := Lib.hid (below_more HB.out (.cells #[.string q.1.con, .slice q.2.A q.2.n q.2.c] 55))
        have HKE := Lib.hid hke
        clear hke hkm
        cases ho : one k q with
        | thr f =>
          have HX : Hid (eachV most pl one 0 l = some f) := Lib.hid (eachV_at HT.out HQ.out (by rw [if_neg HKE.out, ho]; rfl))
          have HO2 : Hid (Calls Tryz.prog FO (#[.int .i64 k, .agg #[.string q.1.con, .slice q.2.A q.2.n q.2.c]] ++ cO) (wr.alloc (.cells #[.string q.1.con, .slice q.2.A q.2.n q.2.c] 55)) (Threw (wr.alloc (.cells #[.string q.1.con, .slice q.2.A q.2.n q.2.c] 55)) f)) := Lib.hid (by have := HOC.out _ HBA.out; rw [ho] at this; exact this)
          clear ho
          rw [HX.out]
          go_wp2_with ((with_reducible refine HO2.out.mono ?_); go_must (rintro e w3 ⟨rfl, hb3⟩; have HB3 := Lib.hid (HBA.out.trans (hb3.mono HBA.out.size)); clear hb3))
          exact ⟨rfl, rfl, HB3.out⟩
        | ret j =>
          have HO2 : Hid (Calls Tryz.prog FO (#[.int .i64 k, .agg #[.string q.1.con, .slice q.2.A q.2.n q.2.c]] ++ cO) (wr.alloc (.cells #[.string q.1.con, .slice q.2.A q.2.n q.2.c] 55)) (Ret (wr.alloc (.cells #[.string q.1.con, .slice q.2.A q.2.n q.2.c] 55)) (.int .i64 j))) := Lib.hid (by have := HOC.out _ HBA.out; rw [ho] at this; exact this)
          have HO3 := Lib.hid ho
          clear ho
          cases hj : (j == 0) with
          | true =>
            have HX : Hid (goodTo most pl one l (k + 1)) := Lib.hid (goodTo_next HT.out HKE.out HQ.out (by rw [HO3.out]; exact if_pos (beq_iff_eq.1 hj)))
            go_wp2_with ((with_reducible refine HO2.out.mono ?_); go_must (rintro e w3 ⟨rfl, hb3⟩; have HB3 := Lib.hid (HBA.out.trans (hb3.mono HBA.out.size)); clear hb3))
            go_roundw
            case measure => simp only [intOf]; omega
            case rel => exact ⟨k + 1, by omega, by simp, HB3, HX⟩
          | false =>
            have HX : Hid (eachV most pl one 0 l = some { pl k with err := j }) := Lib.hid (eachV_at HT.out HQ.out (by rw [if_neg HKE.out, HO3.out]; exact if_neg (beq_eq_false_iff_ne.1 hj)))
            rw [HX.out]
            go_wp2_with (first | ((with_reducible refine HO2.out.mono ?_); go_must (rintro e w2 ⟨rfl, hb2⟩; have HB2 := Lib.hid (HBA.out.trans (hb2.mono HBA.out.size)); clear hb2)) | ((with_reducible refine (HWC.out _ HB2.out).mono ?_); go_must (rintro e w3 ⟨rfl, hb3⟩; have HB3 := Lib.hid ((HB2.out).trans (hb3.mono (HB2.out).size)); clear hb3)) | (go_at_call 43; go_must (refine (throw_any _ _ _).mono ?_; rintro e w4 ⟨rfl, hb4⟩; have HB4 := Lib.hid (HB3.out.trans (hb4.mono HB3.out.size)); clear hb4)))
            exact ⟨rfl, rfl, HB4.out⟩
    · have HX : Hid (eachV most pl one 0 l = none) := Lib.hid (eachV_end HT.out (by have := HL.out; omega))
      have hkn : k = n := by omega
      subst hkn
      clear h
      rw [HX.out]
      go_wp2_with fail
      (try simp only [Exit.inBlock, Exit.then])
      refine bodyPost_end (results_none (by kernel_rfl) _ _ _) rfl ?_
      exact ⟨rfl, HB.out⟩
set_option maxRecDepth 20000 in
set_option maxHeartbeats 3200000 in
theorem each_te (w : World) (hi : Nat) (A : Option Addr) (n c : Nat) (l : List (RowD × Sl)) (h : Row w 0 hi 2 A n c (l.flatMap rowC)) (hh : hi ≤ w.heap.size) (most : Nat) (hm : most < 1125899906842624) (FW FO : FuncId) (cW cO : Array Value) (pl : Nat → Fa) (one : Nat → (RowD × Sl) → Out) (HW : Wher w FW cW pl) (HO : Asks w FO cO (fun q : (RowD × Sl) => .agg #[.string q.1.con, .slice q.2.A q.2.n q.2.c]) l one) :
    Calls Tryz.prog 72 #[.slice A n c, .int .i64 most, .func (.func FW) #[] cW, .func (.func FO) #[] cO] w (Comes' w (eachV most pl one 0 l)) := by
  have hc := h.2.2.1
  have hnc := h.2.1
  have hln : l.length = n := by have := h.1; rw [flatN_len (f := rowC) (s := 2) (fun _ => rfl)] at this; omega
  have HL := Lib.hid hln
  unfold maxLen at hc
  have henW := HW.enters
  have henO := HO.enters
  have HOO := Lib.hid HO
  have HWW := Lib.hid HW
  clear hln HO HW
  go_enter Tryz.func72, Tryz.ntmps72
  go_wp2_with fail
  go_loopw [13] (fun i wr => ∃ k : Nat, k ≤ n ∧ i = .int .i64 k ∧ Hid (Below w.heap.size w wr) ∧ Hid (goodTo most pl one l k)) (fun i _ => n - (intOf i).toNat)
  case atStart => exact ⟨0, Nat.zero_le _, rfl, Lib.hid (Below.refl _ _), Lib.hid goodTo_zero⟩
  case round =>
    obtain ⟨k, hk, rfl, HB, HT⟩ := hrel
    rename World => wr
    by_cases hlt : k < n
    · have hkm : k ≤ most := HT.out.1
      obtain ⟨b, o, rfl, _, hb, hcell⟩ := h.at_ (by omega)
      obtain ⟨q, hq⟩ : ∃ q, l[k]? = some q := ⟨l[k]'(by have := HL.out; omega), List.getElem?_eq_getElem _⟩
      have c0 := (HB.out.cell (p := ⟨b, _, none⟩) (Nat.lt_of_lt_of_le hb hh)).trans (hcell (k * 2 + 0) _ ((flatN_get (f := rowC) (s := 2) (fun _ => rfl) l k q hq 0 (by omega)).trans rfl))
      simp only [Nat.add_zero] at c0
      have c1 := (HB.out.cell (p := ⟨b, _, none⟩) (Nat.lt_of_lt_of_le hb hh)).trans (hcell (k * 2 + 1) _ ((flatN_get (f := rowC) (s := 2) (fun _ => rfl) l k q hq 1 (by omega)).trans rfl))
      rw [show o + (k * 2 + 1) = o + k * 2 + 1 from by omega] at c1
      have HQ := Lib.hid hq
      have HWC : Hid (∀ X, Below w.heap.size w X → Calls Tryz.prog FW (#[.int .i64 k] ++ cW) X (Ret X (faV (pl k)))) := Lib.hid fun X hX => HWW.out.call X hX k (by omega)
      clear hcell hq h
      by_cases hke : k = most
      · have HX : Hid (eachV most pl one 0 l = some { pl k with err := 4 }) := Lib.hid (eachV_at HT.out HQ.out (by rw [if_pos hke]))
        have d1 : ((k : Int) == (most : Int)) = true := by rw [beq_iff_eq]; omega
        have HBA := Lib.hid (below_more HB.out (.cells #[.string q.1.con, .slice q.2.A q.2.n q.2.c] 58))
        clear hke hkm
        rw [HX.out]
        go_wp2_with (first | ((with_reducible refine (HWC.out _ HBA.out).mono ?_); go_must (rintro e w3 ⟨rfl, hb3⟩; have HB3 := Lib.hid ((HBA.out).trans (hb3.mono (HBA.out).size)); clear hb3)) | (go_at_call 43; go_must (refine (throw_any _ _ _).mono ?_; rintro e w4 ⟨rfl, hb4⟩; have HB4 := Lib.hid (HB3.out.trans (hb4.mono HB3.out.size)); clear hb4)))
        exact ⟨rfl, rfl, HB4.out⟩
      · have d1 : ((k : Int) == (most : Int)) = false := by rw [beq_eq_false_iff_ne]; omega
        have HOC : Hid (∀ X, Below w.heap.size w X → Calls Tryz.prog FO (#[.int .i64 k, .agg #[.string q.1.con, .slice q.2.A q.2.n q.2.c]] ++ cO) X (Ends X (one k q))) := Lib.hid fun X hX => HOO.out.call X hX k q HQ.out
        have HBA := Lib.hid (below_more HB.out (.cells #[.string q.1.con, .slice q.2.A q.2.n q.2.c] 58))
        have HKE := Lib.hid hke
        clear hke hkm
        cases ho : one k q with
        | thr f =>
          have HX : Hid (eachV most pl one 0 l = some f) := Lib.hid (eachV_at HT.out HQ.out (by rw [if_neg HKE.out, ho]; rfl))
          have HO2 : Hid (Calls Tryz.prog FO (#[.int .i64 k, .agg #[.string q.1.con, .slice q.2.A q.2.n q.2.c]] ++ cO) (wr.alloc (.cells #[.string q.1.con, .slice q.2.A q.2.n q.2.c] 58)) (Threw (wr.alloc (.cells #[.string q.1.con, .slice q.2.A q.2.n q.2.c] 58)) f)) := Lib.hid (by have := HOC.out _ HBA.out; rw [ho] at this; exact this)
          clear ho
          rw [HX.out]
          go_wp2_with ((with_reducible refine HO2.out.mono ?_); go_must (rintro e w3 ⟨rfl, hb3⟩; have HB3 := Lib.hid (HBA.out.trans (hb3.mono HBA.out.size)); clear hb3))
          exact ⟨rfl, rfl, HB3.out⟩
        | ret j =>
          have HO2 : Hid (Calls Tryz.prog FO (#[.int .i64 k, .agg #[.string q.1.con, .slice q.2.A q.2.n q.2.c]] ++ cO) (wr.alloc (.cells #[.string q.1.con, .slice q.2.A q.2.n q.2.c] 58)) (Ret (wr.alloc (.cells #[.string q.1.con, .slice q.2.A q.2.n q.2.c] 58)) (.int .i64 j))) := Lib.hid (by have := HOC.out _ HBA.out; rw [ho] at this; exact this)
          have HO3 := Lib.hid ho
          clear ho
          cases hj : (j == 0) with
          | true =>
            have HX : Hid (goodTo most pl one l (k + 1)) := Lib.hid (goodTo_next HT.out HKE.out HQ.out (by rw [HO3.out]; exact if_pos (beq_iff_eq.1 hj)))
            go_wp2_with ((with_reducible refine HO2.out.mono ?_); go_must (rintro e w3 ⟨rfl, hb3⟩; have HB3 := Lib.hid (HBA.out.trans (hb3.mono HBA.out.size)); clear hb3))
            go_roundw
            case measure => simp only [intOf]; omega
            case rel => exact ⟨k + 1, by omega, by simp, HB3, HX⟩
          | false =>
            have HX : Hid (eachV most pl one 0 l = some { pl k with err := j }) := Lib.hid (eachV_at HT.out HQ.out (by rw [if_neg HKE.out, HO3.out]; exact if_neg (beq_eq_false_iff_ne.1 hj)))
            rw [HX.out]
            go_wp2_with (first | ((with_reducible refine HO2.out.mono ?_); go_must (rintro e w2 ⟨rfl, hb2⟩; have HB2 := Lib.hid (HBA.out.trans (hb2.mono HBA.out.size)); clear hb2)) | ((with_reducible refine (HWC.out _ HB2.out).mono ?_); go_must (rintro e w3 ⟨rfl, hb3⟩; have HB3 := Lib.hid ((HB2.out).trans (hb3.mono (HB2.out).size)); clear hb3)) | (go_at_call 43; go_must (refine (throw_any _ _ _).mono ?_; rintro e w4 ⟨rfl, hb4⟩; have HB4 := Lib.hid (HB3.out.trans (hb4.mono HB3.out.size)); clear hb4)))
            exact ⟨rfl, rfl, HB4.out⟩
    · have HX : Hid (eachV most pl one 0 l = none) := Lib.hid (eachV_end HT.out (by have := HL.out; omega))
      have hkn : k = n := by omega
      subst hkn
      clear h
      rw [HX.out]
      go_wp2_with fail
      (try simp only [Exit.inBlock, Exit.then])
      refine bodyPost_end (results_none (by kernel_rfl) _ _ _) rfl ?_
      exact ⟨rfl, HB.out⟩
set_option maxRecDepth 20000 in
set_option maxHeartbeats 3200000 in
theorem each_ce (w : World) (hi : Nat) (A : Option Addr) (n c : Nat) (l : List CellD) (h : Row w 0 hi 3 A n c (l.flatMap ceC)) (hh : hi ≤ w.heap.size) (most : Nat) (hm : most < 1125899906842624) (FW FO : FuncId) (cW cO : Array Value) (pl : Nat → Fa) (one : Nat → CellD → Out) (HW : Wher w FW cW pl) (HO : Asks w FO cO (fun q : CellD => .agg #[.int .i64 q.kind, .string q.text, .string q.mark]) l one) :
    Calls Tryz.prog 69 #[.slice A n c, .int .i64 most, .func (.func FW) #[] cW, .func (.func FO) #[] cO] w (Comes' w (eachV most pl one 0 l)) := by
  have hc := h.2.2.1
  have hnc := h.2.1
  have hln : l.length = n := by have := h.1; rw [flatN_len (f := ceC) (s := 3) (fun _ => rfl)] at this; omega
  have HL := Lib.hid hln
  unfold maxLen at hc
  have henW := HW.enters
  have henO := HO.enters
  have HOO := Lib.hid HO
  have HWW := Lib.hid HW
  clear hln HO HW
  go_enter Tryz.func69, Tryz.ntmps69
  go_wp2_with fail
  go_loopw [13] (fun i wr => ∃ k : Nat, k ≤ n ∧ i = .int .i64 k ∧ Hid (Below w.heap.size w wr) ∧ Hid (goodTo most pl one l k)) (fun i _ => n - (intOf i).toNat)
  case atStart => exact ⟨0, Nat.zero_le _, rfl, Lib.hid (Below.refl _ _), Lib.hid goodTo_zero⟩
  case round =>
    obtain ⟨k, hk, rfl, HB, HT⟩ := hrel
    rename World => wr
    by_cases hlt : k < n
    · have hkm : k ≤ most := HT.out.1
      obtain ⟨b, o, rfl, _, hb, hcell⟩ := h.at_ (by omega)
      obtain ⟨q, hq⟩ : ∃ q, l[k]? = some q := ⟨l[k]'(by have := HL.out; omega), List.getElem?_eq_getElem _⟩
      have c0 := (HB.out.cell (p := ⟨b, _, none⟩) (Nat.lt_of_lt_of_le hb hh)).trans (hcell (k * 3 + 0) _ ((flatN_get (f := ceC) (s := 3) (fun _ => rfl) l k q hq 0 (by omega)).trans rfl))
      simp only [Nat.add_zero] at c0
      have c1 := (HB.out.cell (p := ⟨b, _, none⟩) (Nat.lt_of_lt_of_le hb hh)).trans (hcell (k * 3 + 1) _ ((flatN_get (f := ceC) (s := 3) (fun _ => rfl) l k q hq 1 (by omega)).trans rfl))
      rw [show o + (k * 3 + 1) = o + k * 3 + 1 from by omega] at c1
      have c2 := (HB.out.cell (p := ⟨b, _, none⟩) (Nat.lt_of_lt_of_le hb hh)).trans (hcell (k * 3 + 2) _ ((flatN_get (f := ceC) (s := 3) (fun _ => rfl) l k q hq 2 (by omega)).trans rfl))
      rw [show o + (k * 3 + 2) = o + k * 3 + 2 from by omega] at c2
      have HQ := Lib.hid hq
      have HWC : Hid (∀ X, Below w.heap.size w X → Calls Tryz.prog FW (#[.int .i64 k] ++ cW) X (Ret X (faV (pl k)))) := Lib.hid fun X hX => HWW.out.call X hX k (by omega)
      clear hcell hq h
      by_cases hke : k = most
      · have HX : Hid (eachV most pl one 0 l = some { pl k with err := 4 }) := Lib.hid (eachV_at HT.out HQ.out (by rw [if_pos hke]))
        have d1 : ((k : Int) == (most : Int)) = true := by rw [beq_iff_eq]; omega
        have HBA := Lib.hid (below_more HB.out (.cells #[.int .i64 q.kind, .string q.text, .string q.mark] 74))
        clear hke hkm
        rw [HX.out]
        go_wp2_with (first | ((with_reducible refine (HWC.out _ HBA.out).mono ?_); go_must (rintro e w3 ⟨rfl, hb3⟩; have HB3 := Lib.hid ((HBA.out).trans (hb3.mono (HBA.out).size)); clear hb3)) | (go_at_call 43; go_must (refine (throw_any _ _ _).mono ?_; rintro e w4 ⟨rfl, hb4⟩; have HB4 := Lib.hid (HB3.out.trans (hb4.mono HB3.out.size)); clear hb4)))
        exact ⟨rfl, rfl, HB4.out⟩
      · have d1 : ((k : Int) == (most : Int)) = false := by rw [beq_eq_false_iff_ne]; omega
        have HOC : Hid (∀ X, Below w.heap.size w X → Calls Tryz.prog FO (#[.int .i64 k, .agg #[.int .i64 q.kind, .string q.text, .string q.mark]] ++ cO) X (Ends X (one k q))) := Lib.hid fun X hX => HOO.out.call X hX k q HQ.out
        have HBA := Lib.hid (below_more HB.out (.cells #[.int .i64 q.kind, .string q.text, .string q.mark] 74))
        have HKE := Lib.hid hke
        clear hke hkm
        cases ho : one k q with
        | thr f =>
          have HX : Hid (eachV most pl one 0 l = some f) := Lib.hid (eachV_at HT.out HQ.out (by rw [if_neg HKE.out, ho]; rfl))
          have HO2 : Hid (Calls Tryz.prog FO (#[.int .i64 k, .agg #[.int .i64 q.kind, .string q.text, .string q.mark]] ++ cO) (wr.alloc (.cells #[.int .i64 q.kind, .string q.text, .string q.mark] 74)) (Threw (wr.alloc (.cells #[.int .i64 q.kind, .string q.text, .string q.mark] 74)) f)) := Lib.hid (by have := HOC.out _ HBA.out; rw [ho] at this; exact this)
          clear ho
          rw [HX.out]
          go_wp2_with ((with_reducible refine HO2.out.mono ?_); go_must (rintro e w3 ⟨rfl, hb3⟩; have HB3 := Lib.hid (HBA.out.trans (hb3.mono HBA.out.size)); clear hb3))
          exact ⟨rfl, rfl, HB3.out⟩
        | ret j =>
          have HO2 : Hid (Calls Tryz.prog FO (#[.int .i64 k, .agg #[.int .i64 q.kind, .string q.text, .string q.mark]] ++ cO) (wr.alloc (.cells #[.int .i64 q.kind, .string q.text, .string q.mark] 74)) (Ret (wr.alloc (.cells #[.int .i64 q.kind, .string q.text, .string q.mark] 74)) (.int .i64 j))) := Lib.hid (by have := HOC.out _ HBA.out; rw [ho] at this; exact this)
          have HO3 := Lib.hid ho
          clear ho
          cases hj : (j == 0) with
          | true =>
            have HX : Hid (goodTo most pl one l (k + 1)) := Lib.hid (goodTo_next HT.out HKE.out HQ.out (by rw [HO3.out]; exact if_pos (beq_iff_eq.1 hj)))
            go_wp2_with ((with_reducible refine HO2.out.mono ?_); go_must (rintro e w3 ⟨rfl, hb3⟩; have HB3 := Lib.hid (HBA.out.trans (hb3.mono HBA.out.size)); clear hb3))
            go_roundw
            case measure => simp only [intOf]; omega
            case rel => exact ⟨k + 1, by omega, by simp, HB3, HX⟩
          | false =>
            have HX : Hid (eachV most pl one 0 l = some { pl k with err := j }) := Lib.hid (eachV_at HT.out HQ.out (by rw [if_neg HKE.out, HO3.out]; exact if_neg (beq_eq_false_iff_ne.1 hj)))
            rw [HX.out]
            go_wp2_with (first | ((with_reducible refine HO2.out.mono ?_); go_must (rintro e w2 ⟨rfl, hb2⟩; have HB2 := Lib.hid (HBA.out.trans (hb2.mono HBA.out.size)); clear hb2)) | ((with_reducible refine (HWC.out _ HB2.out).mono ?_); go_must (rintro e w3 ⟨rfl, hb3⟩; have HB3 := Lib.hid ((HB2.out).trans (hb3.mono (HB2.out).size)); clear hb3)) | (go_at_call 43; go_must (refine (throw_any _ _ _).mono ?_; rintro e w4 ⟨rfl, hb4⟩; have HB4 := Lib.hid (HB3.out.trans (hb4.mono HB3.out.size)); clear hb4)))
            exact ⟨rfl, rfl, HB4.out⟩
    · have HX : Hid (eachV most pl one 0 l = none) := Lib.hid (eachV_end HT.out (by have := HL.out; omega))
      have hkn : k = n := by omega
      subst hkn
      clear h
      rw [HX.out]
      go_wp2_with fail
      (try simp only [Exit.inBlock, Exit.then])
      refine bodyPost_end (results_none (by kernel_rfl) _ _ _) rfl ?_
      exact ⟨rfl, HB.out⟩
set_option maxRecDepth 20000 in
set_option maxHeartbeats 3200000 in
theorem each_pe (w : World) (hi : Nat) (A : Option Addr) (n c : Nat) (l : List CellD) (h : Row w 0 hi 3 A n c (l.flatMap ceC)) (hh : hi ≤ w.heap.size) (most : Nat) (hm : most < 1125899906842624) (FW FO : FuncId) (cW cO : Array Value) (pl : Nat → Fa) (one : Nat → CellD → Out) (HW : Wher w FW cW pl) (HO : Asks w FO cO (fun q : CellD => .agg #[.int .i64 q.kind, .string q.text, .string q.mark]) l one) :
    Calls Tryz.prog 76 #[.slice A n c, .int .i64 most, .func (.func FW) #[] cW, .func (.func FO) #[] cO] w (Comes' w (eachV most pl one 0 l)) := by
  have hc := h.2.2.1
  have hnc := h.2.1
  have hln : l.length = n := by have := h.1; rw [flatN_len (f := ceC) (s := 3) (fun _ => rfl)] at this; omega
  have HL := Lib.hid hln
  unfold maxLen at hc
  have henW := HW.enters
  have henO := HO.enters
  have HOO := Lib.hid HO
  have HWW := Lib.hid HW
  clear hln HO HW
  go_enter Tryz.func76, Tryz.ntmps76
  go_wp2_with fail
  go_loopw [13] (fun i wr => ∃ k : Nat, k ≤ n ∧ i = .int .i64 k ∧ Hid (Below w.heap.size w wr) ∧ Hid (goodTo most pl one l k)) (fun i _ => n - (intOf i).toNat)
  case atStart => exact ⟨0, Nat.zero_le _, rfl, Lib.hid (Below.refl _ _), Lib.hid goodTo_zero⟩
  case round =>
    obtain ⟨k, hk, rfl, HB, HT⟩ := hrel
    rename World => wr
    by_cases hlt : k < n
    · have hkm : k ≤ most := HT.out.1
      obtain ⟨b, o, rfl, _, hb, hcell⟩ := h.at_ (by omega)
      obtain ⟨q, hq⟩ : ∃ q, l[k]? = some q := ⟨l[k]'(by have := HL.out; omega), List.getElem?_eq_getElem _⟩
      have c0 := (HB.out.cell (p := ⟨b, _, none⟩) (Nat.lt_of_lt_of_le hb hh)).trans (hcell (k * 3 + 0) _ ((flatN_get (f := ceC) (s := 3) (fun _ => rfl) l k q hq 0 (by omega)).trans rfl))
      simp only [Nat.add_zero] at c0
      have c1 := (HB.out.cell (p := ⟨b, _, none⟩) (Nat.lt_of_lt_of_le hb hh)).trans (hcell (k * 3 + 1) _ ((flatN_get (f := ceC) (s := 3) (fun _ => rfl) l k q hq 1 (by omega)).trans rfl))
      rw [show o + (k * 3 + 1) = o + k * 3 + 1 from by omega] at c1
      have c2 := (HB.out.cell (p := ⟨b, _, none⟩) (Nat.lt_of_lt_of_le hb hh)).trans (hcell (k * 3 + 2) _ ((flatN_get (f := ceC) (s := 3) (fun _ => rfl) l k q hq 2 (by omega)).trans rfl))
      rw [show o + (k * 3 + 2) = o + k * 3 + 2 from by omega] at c2
      have HQ := Lib.hid hq
      have HWC : Hid (∀ X, Below w.heap.size w X → Calls Tryz.prog FW (#[.int .i64 k] ++ cW) X (Ret X (faV (pl k)))) := Lib.hid fun X hX => HWW.out.call X hX k (by omega)
      clear hcell hq h
      by_cases hke : k = most
      · have HX : Hid (eachV most pl one 0 l = some { pl k with err := 4 }) := Lib.hid (eachV_at HT.out HQ.out (by rw [if_pos hke]))
        have d1 : ((k : Int) == (most : Int)) = true := by rw [beq_iff_eq]; omega
        have HBA := Lib.hid (below_more HB.out (.cells #[.int .i64 q.kind, .string q.text, .string q.mark] 77))
        clear hke hkm
        rw [HX.out]
        go_wp2_with (first | ((with_reducible refine (HWC.out _ HBA.out).mono ?_); go_must (rintro e w3 ⟨rfl, hb3⟩; have HB3 := Lib.hid ((HBA.out).trans (hb3.mono (HBA.out).size)); clear hb3)) | (go_at_call 43; go_must (refine (throw_any _ _ _).mono ?_; rintro e w4 ⟨rfl, hb4⟩; have HB4 := Lib.hid (HB3.out.trans (hb4.mono HB3.out.size)); clear hb4)))
        exact ⟨rfl, rfl, HB4.out⟩
      · have d1 : ((k : Int) == (most : Int)) = false := by rw [beq_eq_false_iff_ne]; omega
        have HOC : Hid (∀ X, Below w.heap.size w X → Calls Tryz.prog FO (#[.int .i64 k, .agg #[.int .i64 q.kind, .string q.text, .string q.mark]] ++ cO) X (Ends X (one k q))) := Lib.hid fun X hX => HOO.out.call X hX k q HQ.out
        have HBA := Lib.hid (below_more HB.out (.cells #[.int .i64 q.kind, .string q.text, .string q.mark] 77))
        have HKE := Lib.hid hke
        clear hke hkm
        cases ho : one k q with
        | thr f =>
          have HX : Hid (eachV most pl one 0 l = some f) := Lib.hid (eachV_at HT.out HQ.out (by rw [if_neg HKE.out, ho]; rfl))
          have HO2 : Hid (Calls Tryz.prog FO (#[.int .i64 k, .agg #[.int .i64 q.kind, .string q.text, .string q.mark]] ++ cO) (wr.alloc (.cells #[.int .i64 q.kind, .string q.text, .string q.mark] 77)) (Threw (wr.alloc (.cells #[.int .i64 q.kind, .string q.text, .string q.mark] 77)) f)) := Lib.hid (by have := HOC.out _ HBA.out; rw [ho] at this; exact this)
          clear ho
          rw [HX.out]
          go_wp2_with ((with_reducible refine HO2.out.mono ?_); go_must (rintro e w3 ⟨rfl, hb3⟩; have HB3 := Lib.hid (HBA.out.trans (hb3.mono HBA.out.size)); clear hb3))
          exact ⟨rfl, rfl, HB3.out⟩
        | ret j =>
          have HO2 : Hid (Calls Tryz.prog FO (#[.int .i64 k, .agg #[.int .i64 q.kind, .string q.text, .string q.mark]] ++ cO) (wr.alloc (.cells #[.int .i64 q.kind, .string q.text, .string q.mark] 77)) (Ret (wr.alloc (.cells #[.int .i64 q.kind, .string q.text, .string q.mark] 77)) (.int .i64 j))) := Lib.hid (by have := HOC.out _ HBA.out; rw [ho] at this; exact this)
          have HO3 := Lib.hid ho
          clear ho
          cases hj : (j == 0) with
          | true =>
            have HX : Hid (goodTo most pl one l (k + 1)) := Lib.hid (goodTo_next HT.out HKE.out HQ.out (by rw [HO3.out]; exact if_pos (beq_iff_eq.1 hj)))
            go_wp2_with ((with_reducible refine HO2.out.mono ?_); go_must (rintro e w3 ⟨rfl, hb3⟩; have HB3 := Lib.hid (HBA.out.trans (hb3.mono HBA.out.size)); clear hb3))
            go_roundw
            case measure => simp only [intOf]; omega
            case rel => exact ⟨k + 1, by omega, by simp, HB3, HX⟩
          | false =>
            have HX : Hid (eachV most pl one 0 l = some { pl k with err := j }) := Lib.hid (eachV_at HT.out HQ.out (by rw [if_neg HKE.out, HO3.out]; exact if_neg (beq_eq_false_iff_ne.1 hj)))
            rw [HX.out]
            go_wp2_with (first | ((with_reducible refine HO2.out.mono ?_); go_must (rintro e w2 ⟨rfl, hb2⟩; have HB2 := Lib.hid (HBA.out.trans (hb2.mono HBA.out.size)); clear hb2)) | ((with_reducible refine (HWC.out _ HB2.out).mono ?_); go_must (rintro e w3 ⟨rfl, hb3⟩; have HB3 := Lib.hid ((HB2.out).trans (hb3.mono (HB2.out).size)); clear hb3)) | (go_at_call 43; go_must (refine (throw_any _ _ _).mono ?_; rintro e w4 ⟨rfl, hb4⟩; have HB4 := Lib.hid (HB3.out.trans (hb4.mono HB3.out.size)); clear hb4)))
            exact ⟨rfl, rfl, HB4.out⟩
    · have HX : Hid (eachV most pl one 0 l = none) := Lib.hid (eachV_end HT.out (by have := HL.out; omega))
      have hkn : k = n := by omega
      subst hkn
      clear h
      rw [HX.out]
      go_wp2_with fail
      (try simp only [Exit.inBlock, Exit.then])
      refine bodyPost_end (results_none (by kernel_rfl) _ _ _) rfl ?_
      exact ⟨rfl, HB.out⟩
end Go.Proofs.YtilemieknfdjnaaGreat

/-
  WALKS: the document's Int.
-/
import Derived.Test.YtinhlemebnlijaaDoorN4
namespace Go.Proofs.YtinhlemebnlijaaDoor
open Go Go.RowKit
set_option linter.unusedVariables false
/-- a number told, or none, the world as it was -/
def NumSame (w : World) (r : Option Int) (e : Ending) (w' : World) : Prop := e = .returned (.tuple #[.int .i64 (r.getD 0), .int .i64 (if r.isSome then 0 else 2)]) ∧ w = w'
theorem numSame_none {w : World} {r : Option Int} (h : r = none) : NumSame w r (.returned (.tuple #[.int .i64 0, .int .i64 2])) w := by rw [h]; exact ⟨rfl, rfl⟩
theorem numSame_some {w : World} {r : Option Int} {v x : Int} (h : r = some v) (e : x = v) : NumSame w r (.returned (.tuple #[.int .i64 x, .int .i64 0])) w := by rw [h, e]; exact ⟨rfl, rfl⟩
theorem refD_none {neg : Bool} {d : List UInt8} (h : d.length = 0) : refD neg d = none := by
  rw [List.length_eq_zero_iff.1 h]; rfl
theorem refD_long {neg : Bool} {d : List UInt8} (h : 19 < d.length) : refD neg d = none := by
  cases d with
  | nil => rfl
  | cons c r => simp only [refD]; rw [if_pos h]
theorem refD_nought {neg : Bool} {x : ByteArray} (h0 : 0 < x.size) (h : x[0].toNat = 48) (hb : neg = true ∨ 1 < x.size) : refD neg x.data.toList = none := by
  have e : x.data.toList = x[0] :: x.data.toList.drop 1 := by have := drop_get' x 0 h0; simpa using this
  have hl := toList_eq x
  rw [e] at hl
  rw [e]
  simp only [refD]
  split
  · rfl
  · rw [if_pos ⟨h, by
      rcases hb with hb | hb
      · exact .inl hb
      · right; intro he; rw [he] at hl; simp at hl; omega⟩]
theorem refD_other {neg : Bool} {d : List UInt8} (h : d.all isDg = false) : refD neg d = none := by
  cases d with
  | nil => rfl
  | cons c r =>
    simp only [refD]
    rw [h]
    split
    · rfl
    · split
      · rfl
      · rfl
def pickD (neg : Bool) (V : Nat) : Option Int := if (if neg then 9223372036854775808 else 9223372036854775807) < V then none else some (if neg then -(V : Int) else V)
theorem pick_over {neg : Bool} {V : Nat} (h : (if neg then 9223372036854775808 else 9223372036854775807) < V) : pickD neg V = none := by unfold pickD; rw [if_pos h]
theorem pick_neg {V : Nat} (h : V ≤ 9223372036854775808) : pickD true V = some (-(V : Int)) := by unfold pickD; rw [if_neg (by simp; omega)]; rfl
theorem pick_pos {V : Nat} (h : V ≤ 9223372036854775807) : pickD false V = some (V : Int) := by unfold pickD; rw [if_neg (by simp; omega)]; rfl
theorem neg_back {V : Nat} (h1 : 1 ≤ V) (h : V ≤ 9223372036854775808) : wrap64 (wrap64 (-wrap64 (IntKind.u64.wrap ((V : Int) - 1))) - 1) = -(V : Int) := by
  rw [IntWalk.u64_in _ (by omega)]
  rw [IntWalk.wrap64_in ((V : Int) - 1) (by omega), IntWalk.wrap64_in (-((V : Int) - 1)) (by omega), IntWalk.wrap64_in _ (by omega)]
  omega
theorem refD_is {neg : Bool} {x : ByteArray} (h0 : 0 < x.size) (h19 : x.size ≤ 19) (hn : ¬ (x[0].toNat = 48 ∧ (neg = true ∨ 1 < x.size))) (ha : x.data.toList.all isDg = true) :
    refD neg x.data.toList = pickD neg (valD 0 x.data.toList) := by
  have e : x.data.toList = x[0] :: x.data.toList.drop 1 := by have := drop_get' x 0 h0; simpa using this
  have hl := toList_eq x
  rw [e] at hl ha
  rw [e]
  simp only [refD, pickD]
  rw [if_neg (by omega), if_neg, if_pos ha]
  rintro ⟨a, b⟩
  refine hn ⟨a, ?_⟩
  rcases b with b | b
  · exact .inl b
  · right
    rw [List.length_cons] at hl
    have : 0 < (x.data.toList.drop 1).length := List.length_pos_iff.2 b
    omega
theorem first_pos {x : ByteArray} (h0 : 0 < x.size) (h48 : x[0].toNat ≠ 48) (ha : x.data.toList.all isDg = true) : 1 ≤ valD 0 x.data.toList := by
  have e : x.data.toList = x[0] :: x.data.toList.drop 1 := by have := drop_get' x 0 h0; simpa using this
  rw [e] at ha ⊢
  rw [List.all_cons, Bool.and_eq_true] at ha
  exact valD_pos ha.1 h48
theorem digB_is (c : UInt8) : digB (c.toNat : Int) = isDg c := by
  unfold digB isDg; rw [Bool.eq_iff_iff]; simp; omega
theorem all_stop {l : List UInt8} {c : UInt8} (h : c ∈ l) (hd : isDg c = false) : l.all isDg = false := by
  rw [Bool.eq_false_iff]; intro ha; rw [List.all_eq_true] at ha; rw [ha c h] at hd; cases hd
/-- so far: k digits, their number -/
structure Sofar (x : ByteArray) (k : Nat) : Prop where
  all : (x.data.toList.take k).all isDg = true
  small : valD 0 (x.data.toList.take k) < 10 ^ k
def sofar (x : ByteArray) (k : Nat) : Nat := valD 0 (x.data.toList.take k)
theorem take_get (x : ByteArray) (k : Nat) (h : k < x.size) : x.data.toList.take (k + 1) = x.data.toList.take k ++ [x[k]] := by
  rw [List.take_succ_eq_append_getElem (by simpa using h)]; rfl
theorem Sofar.step {x : ByteArray} {k : Nat} (h : Sofar x k) (hk : k < x.size) (hd : isDg x[k] = true) : Sofar x (k + 1) ∧ sofar x (k + 1) = sofar x k * 10 + (x[k].toNat - 48) := by
  have hc : 48 ≤ x[k].toNat ∧ x[k].toNat ≤ 57 := by simpa [isDg] using hd
  have e : sofar x (k + 1) = sofar x k * 10 + (x[k].toNat - 48) := by unfold sofar; rw [take_get x k hk, valD_snoc]
  have hs := h.small
  refine ⟨⟨by rw [take_get x k hk, List.all_append, h.all]; simp [hd], ?_⟩, e⟩
  show sofar x (k + 1) < _
  rw [e, Nat.pow_succ]
  unfold sofar
  omega
theorem sofar_zero (x : ByteArray) : Sofar x 0 ∧ sofar x 0 = 0 := ⟨⟨rfl, by simp [valD_nil]⟩, by simp [sofar, valD_nil]⟩
theorem sofar_small {x : ByteArray} {k : Nat} (h : Sofar x k) (hk : k ≤ 19) : sofar x k < 10000000000000000000 := by
  have := h.small
  have := Nat.pow_le_pow_right (n := 10) (by omega) hk
  unfold sofar
  omega
theorem sofar_next {x : ByteArray} {k : Nat} (h : Sofar x k) (hk : k < x.size) (h19 : x.size ≤ 19) (hd : isDg x[k] = true) :
    IntKind.u64.wrap (IntKind.u64.wrap (10 * (sofar x k : Int)) + ((x[k].toNat : Int) - 48)) = ((sofar x (k + 1) : Nat) : Int) := by
  have hc : 48 ≤ x[k].toNat ∧ x[k].toNat ≤ 57 := by simpa [isDg] using hd
  have a := (h.step hk hd).2
  have b := sofar_small (h.step hk hd).1 (by omega)
  have i1 := IntWalk.u64_in (10 * (sofar x k : Int)) (by omega)
  rw [i1, IntWalk.u64_in _ (by omega)]
  omega
theorem sofar_all (x : ByteArray) : sofar x x.size = valD 0 x.data.toList := by
  unfold sofar; rw [List.take_of_length_le (by rw [toList_eq]; omega)]
theorem Sofar.whole {x : ByteArray} (h : Sofar x x.size) : x.data.toList.all isDg = true := by
  have := h.all; rwa [List.take_of_length_le (by rw [toList_eq]; omega)] at this
set_option maxHeartbeats 800000 in
theorem refInt_neg (s : ByteArray) (w : World) (hs : s.size ≤ maxLen) (h0s : 0 < s.size) (h45 : s[0].toNat = 45) : Calls Tryd.prog 58 #[.string s] w (NumSame w (refI s.data.toList)) := by
  unfold maxLen at hs
  have e45 : ((s[0].toNat : Int) == 45) = true := by rw [beq_iff_eq]; omega
  have hp : (0 : Int) < (s.size : Int) := by omega
  have hI : refI s.data.toList = refD true (s.extract 1 s.size).data.toList := by
    have e : s.data.toList = s[0] :: s.data.toList.drop 1 := by have := drop_get' s 0 h0s; simpa using this
    rw [behind1]
    conv => lhs; rw [e]
    simp only [refI]; rw [if_pos h45]
  obtain ⟨x, hx⟩ : ∃ x, s.extract 1 s.size = x := ⟨_, rfl⟩
  have hxs : x.size + 1 = s.size := by rw [← hx, ← toList_eq, behind1, List.length_drop, toList_eq]; omega
  rw [hx] at hI
  have HI := Lib.hid hI
  have hxb : x.size ≤ 2 ^ 63 - 1 := by omega
  clear hI hxs h45
  have h0 : 0 < x.size ∨ x.size = 0 := by omega
  rcases h0 with h0 | h0
  · have d0 : ((x.size : Int) == 0) = false := by rw [beq_eq_false_iff_ne]; omega
    by_cases h19 : x.size ≤ 19
    · have d1 : decide ((19 : Int) < (x.size : Int)) = false := by simp; omega
      by_cases hno : x[0].toNat = 48 ∧ (true = true ∨ 1 < x.size)
      · have HR : Hid (refI s.data.toList = none) := Lib.hid (by rw [HI.out, refD_nought h0 hno.1 hno.2])
        have d2 : ((x[0].toNat : Int) == 48) = true := by rw [beq_iff_eq]; omega
        have d3 : True := trivial
        clear hno
        go_enter Tryd.func58, Tryd.ntmps58
        go_wp2_with fail
        go_ret2
        exact numSame_none HR.out
      · have HIS : Hid (x.data.toList.all isDg = true → refD true x.data.toList = pickD true (valD 0 x.data.toList)) := Lib.hid (refD_is h0 h19 hno)
        have HP : Hid (x.data.toList.all isDg = true → 1 ≤ valD 0 x.data.toList) := Lib.hid (first_pos h0 (fun e => hno ⟨e, .inl rfl⟩))
        have d2 : ((x[0].toNat : Int) == 48) = false := by rw [beq_eq_false_iff_ne]; intro e; exact hno ⟨by omega, .inl rfl⟩
        all_goals
          clear hno
          go_enter Tryd.func58, Tryd.ntmps58
          go_wp2_with fail
          go_loop [7, 8] (fun n i => ∃ k : Nat, k ≤ x.size ∧ i = .int .i64 k ∧ n = .int .u64 (sofar x k) ∧ Sofar x k) (fun _ i => x.size - (intOf i).toNat)
          case atStart => exact ⟨0, by omega, rfl, by rw [(sofar_zero x).2]; rfl, (sofar_zero x).1⟩
          case round =>
            obtain ⟨k, hk, rfl, rfl, hso⟩ := hrel
            by_cases hlt : k < x.size
            · cases hd : isDg x[k] with
              | true =>
                have hc : 48 ≤ (x[k].toNat : Int) ∧ (x[k].toNat : Int) ≤ 57 := by
                  have : 48 ≤ x[k].toNat ∧ x[k].toNat ≤ 57 := by simpa [isDg] using hd
                  omega
                obtain ⟨hc1, hc2⟩ := hc
                have HB : Hid (digB (x[k].toNat : Int) = true) := Lib.hid (by rw [digB_is, hd])
                have HN := (hso.step hlt hd).1
                have HV := Lib.hid (sofar_next hso hlt h19 hd)
                clear hd
                go_wp2_with (go_at_call 59; refine (among_figures _ _).mono ?_; rintro e w' ⟨rfl, rfl⟩; rw [HB.out])
                exact ⟨⟨k + 1, by omega, by go_num, by rw [HV.out], HN⟩, by simp [intOf]; omega⟩
              | false =>
                have HB : Hid (digB (x[k].toNat : Int) = false) := Lib.hid (by rw [digB_is, hd])
                have HR : Hid (refI s.data.toList = none) := Lib.hid (by rw [HI.out, refD_other (all_stop (c := x[k]) (by rw [← List.mem_toArray]; exact Array.getElem_mem _) hd)])
                clear hd
                go_wp2_with (go_at_call 59; refine (among_figures _ _).mono ?_; rintro e w' ⟨rfl, rfl⟩; rw [HB.out])
                go_ret2
                exact numSame_none HR.out
            · obtain rfl : k = x.size := by omega
              go_wp2_with fail
              · have hv : (9223372036854775808 : Int) < (sofar x x.size : Int) := by assumption
                go_ret2
                exact numSame_none (by rw [HI.out, HIS.out hso.whole, ← sofar_all]; exact pick_over (by simp; omega))
              · have hv : (sofar x x.size : Int) ≤ 9223372036854775808 := by assumption
                go_ret2
                exact numSame_some (by rw [HI.out, HIS.out hso.whole, ← sofar_all]; exact pick_neg (by omega)) (neg_back (by rw [sofar_all]; exact HP.out hso.whole) (by omega))
    · have d1 : decide ((19 : Int) < (x.size : Int)) = true := by simp; omega
      have HR : Hid (refI s.data.toList = none) := Lib.hid (by rw [HI.out, refD_long (by rw [toList_eq]; omega)])
      go_enter Tryd.func58, Tryd.ntmps58
      go_wp2_with fail
      go_ret2
      exact numSame_none HR.out
  · have d0 : ((x.size : Int) == 0) = true := by rw [beq_iff_eq]; omega
    have HR : Hid (refI s.data.toList = none) := Lib.hid (by rw [HI.out, refD_none (by rw [toList_eq]; exact h0)])
    clear h0
    go_enter Tryd.func58, Tryd.ntmps58
    go_wp2_with fail
    go_ret2
    exact numSame_none HR.out
set_option maxHeartbeats 800000 in
theorem refInt_pos (x : ByteArray) (w : World) (hs : x.size ≤ maxLen) (h45 : ∀ h : 0 < x.size, x[0].toNat ≠ 45) : Calls Tryd.prog 58 #[.string x] w (NumSame w (refI x.data.toList)) := by
  unfold maxLen at hs
  have hI : refI x.data.toList = refD false x.data.toList := by
    by_cases h : 0 < x.size
    · have e : x.data.toList = x[0] :: x.data.toList.drop 1 := by have := drop_get' x 0 h; simpa using this
      rw [e]; simp only [refI]; rw [if_neg (h45 h)]
    · have : x.data.toList = [] := List.length_eq_zero_iff.1 (by rw [toList_eq]; omega)
      rw [this]; rfl
  have HI := Lib.hid hI
  clear hI
  have h0 : 0 < x.size ∨ x.size = 0 := by omega
  rcases h0 with h0 | h0
  · have e45 : ((x[0].toNat : Int) == 45) = false := by rw [beq_eq_false_iff_ne]; have := h45 h0; omega
    have hp : (0 : Int) < (x.size : Int) := by omega
    clear h45
    have d0 : ((x.size : Int) == 0) = false := by rw [beq_eq_false_iff_ne]; omega
    by_cases h19 : x.size ≤ 19
    · have d1 : decide ((19 : Int) < (x.size : Int)) = false := by simp; omega
      by_cases hno : x[0].toNat = 48 ∧ (false = true ∨ 1 < x.size)
      · have HR : Hid (refI x.data.toList = none) := Lib.hid (by rw [HI.out, refD_nought h0 hno.1 hno.2])
        have d2 : ((x[0].toNat : Int) == 48) = true := by rw [beq_iff_eq]; omega
        have d3 : decide ((1 : Int) < (x.size : Int)) = true := by simp; rcases hno.2 with h | h; cases h; omega
        clear hno
        go_enter Tryd.func58, Tryd.ntmps58
        go_wp2_with fail
        go_ret2
        exact numSame_none HR.out
      · have HIS : Hid (x.data.toList.all isDg = true → refD false x.data.toList = pickD false (valD 0 x.data.toList)) := Lib.hid (refD_is h0 h19 hno)
        have hcs : ((x[0].toNat : Int) == 48) = false ∨ (((x[0].toNat : Int) == 48) = true ∧ decide ((1 : Int) < (x.size : Int)) = false) := by
          by_cases h : x[0].toNat = 48
          · right; exact ⟨by rw [beq_iff_eq]; omega, by simp; have : ¬ 1 < x.size := fun h1 => hno ⟨h, .inr h1⟩; omega⟩
          · left; rw [beq_eq_false_iff_ne]; omega
        rcases hcs with d2 | ⟨d2, d3⟩
        all_goals
          clear hno
          go_enter Tryd.func58, Tryd.ntmps58
          go_wp2_with fail
          go_loop [7, 8] (fun n i => ∃ k : Nat, k ≤ x.size ∧ i = .int .i64 k ∧ n = .int .u64 (sofar x k) ∧ Sofar x k) (fun _ i => x.size - (intOf i).toNat)
          case atStart => exact ⟨0, by omega, rfl, by rw [(sofar_zero x).2]; rfl, (sofar_zero x).1⟩
          case round =>
            obtain ⟨k, hk, rfl, rfl, hso⟩ := hrel
            by_cases hlt : k < x.size
            · cases hd : isDg x[k] with
              | true =>
                have hc : 48 ≤ (x[k].toNat : Int) ∧ (x[k].toNat : Int) ≤ 57 := by
                  have : 48 ≤ x[k].toNat ∧ x[k].toNat ≤ 57 := by simpa [isDg] using hd
                  omega
                obtain ⟨hc1, hc2⟩ := hc
                have HB : Hid (digB (x[k].toNat : Int) = true) := Lib.hid (by rw [digB_is, hd])
                have HN := (hso.step hlt hd).1
                have HV := Lib.hid (sofar_next hso hlt h19 hd)
                clear hd
                go_wp2_with (go_at_call 59; refine (among_figures _ _).mono ?_; rintro e w' ⟨rfl, rfl⟩; rw [HB.out])
                exact ⟨⟨k + 1, by omega, by go_num, by rw [HV.out], HN⟩, by simp [intOf]; omega⟩
              | false =>
                have HB : Hid (digB (x[k].toNat : Int) = false) := Lib.hid (by rw [digB_is, hd])
                have HR : Hid (refI x.data.toList = none) := Lib.hid (by rw [HI.out, refD_other (all_stop (c := x[k]) (by rw [← List.mem_toArray]; exact Array.getElem_mem _) hd)])
                clear hd
                go_wp2_with (go_at_call 59; refine (among_figures _ _).mono ?_; rintro e w' ⟨rfl, rfl⟩; rw [HB.out])
                go_ret2
                exact numSame_none HR.out
            · obtain rfl : k = x.size := by omega
              go_wp2_with fail
              · have hv : (9223372036854775807 : Int) < (sofar x x.size : Int) := by assumption
                go_ret2
                exact numSame_none (by rw [HI.out, HIS.out hso.whole, ← sofar_all]; exact pick_over (by simp; omega))
              · have hv : (sofar x x.size : Int) ≤ 9223372036854775807 := by assumption
                go_ret2
                exact numSame_some (by rw [HI.out, HIS.out hso.whole, ← sofar_all]; exact pick_pos (by omega)) rfl
    · have d1 : decide ((19 : Int) < (x.size : Int)) = true := by simp; omega
      have HR : Hid (refI x.data.toList = none) := Lib.hid (by rw [HI.out, refD_long (by rw [toList_eq]; omega)])
      go_enter Tryd.func58, Tryd.ntmps58
      go_wp2_with fail
      go_ret2
      exact numSame_none HR.out
  · have d0 : ((x.size : Int) == 0) = true := by rw [beq_iff_eq]; omega
    have HR : Hid (refI x.data.toList = none) := Lib.hid (by rw [HI.out, refD_none (by rw [toList_eq]; exact h0)])
    clear h0
    go_enter Tryd.func58, Tryd.ntmps58
    go_wp2_with fail
    go_ret2
    exact numSame_none HR.out
theorem refInt_any (s : ByteArray) (w : World) (hs : s.size ≤ maxLen) : Calls Tryd.prog 58 #[.string s] w (NumSame w (intT s.data.toList)) := by
  rw [← refI_eq]
  by_cases h0 : 0 < s.size
  · by_cases h45 : s[0].toNat = 45
    · exact refInt_neg s w hs h0 h45
    · exact refInt_pos s w hs (fun _ => h45)
  · exact refInt_pos s w hs (fun h => absurd h h0)
end Go.Proofs.YtinhlemebnlijaaDoor

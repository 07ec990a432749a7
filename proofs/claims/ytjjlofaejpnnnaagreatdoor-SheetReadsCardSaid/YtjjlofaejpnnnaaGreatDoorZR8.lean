/-
  WALKS: the document's Int.
  WALKS over the document's sheet: number, word.
-/
import Derived.Test.YtjjlofaejpnnnaaGreatDoorZR7
namespace Go.Proofs.YtjjlofaejpnnnaaGreatDoor
open Go Go.RowKit
set_option linter.unusedVariables false
/-- a number told, or none, the world as it was -/
def NumSame (w : World) (r : Option Int) (e : Ending) (w' : World) : Prop := e = .returned (.tuple #[.int .i64 (r.getD 0), .int .i64 (if r.isSome then 0 else 2)]) ∧ w = w'
theorem numSame_none {w : World} {r : Option Int} (h : r = none) : NumSame w r (.returned (.tuple #[.int .i64 0, .int .i64 2])) w := by rw [h]; exact ⟨rfl, rfl⟩
theorem numSame_some {w : World} {r : Option Int} {v x : Int} (h : r = some v) (e : x = v) : NumSame w r (.returned (.tuple #[.int .i64 x, .int .i64 0])) w := by rw [h, e]; exact ⟨rfl, rfl⟩
theorem refD_none {neg : Bool} {d : List UInt8} (h : d.length = 0) : refD neg d = none := by
  rw [List.length_eq_zero_iff.1 h]; rfl
theorem refD_long {neg : Bool} {d : List UInt8} (h : 19 < d.length) : refD neg d = none := by
  cases d with
  | nil => rfl
  | cons c r => simp only [refD]; rw [if_pos h]
theorem refD_nought {neg : Bool} {x : ByteArray} (h0 : 0 < x.size) (h : x[0].toNat = 48) (hb : neg = true ∨ 1 < x.size) : refD neg x.data.toList = none := by
  have e : x.data.toList = x[0] :: x.data.toList.drop 1 := by have := drop_get'Q x 0 h0; simpa using this
  have hl := toList_eqQ x
  rw [e] at hl
  rw [e]
  simp only [refD]
  split
  · rfl
  · rw [if_pos ⟨h, by
      rcases hb with hb | hb
      · exact .inl hb
      · right; intro he; rw [he] at hl; simp at hl; omega⟩]
theorem refD_other {neg : Bool} {d : List UInt8} (h : d.all isDg = false) : refD neg d = none := by
  cases d with
  | nil => rfl
  | cons c r =>
    simp only [refD]
    rw [h]
    split
    · rfl
    · split
      · rfl
      · rfl
def pickD (neg : Bool) (V : Nat) : Option Int := if (if neg then 9223372036854775808 else 9223372036854775807) < V then none else some (if neg then -(V : Int) else V)
theorem pick_over {neg : Bool} {V : Nat} (h : (if neg then 9223372036854775808 else 9223372036854775807) < V) : pickD neg V = none := by unfold pickD; rw [if_pos h]
theorem pick_neg {V : Nat} (h : V ≤ 9223372036854775808) : pickD true V = some (-(V : Int)) := by unfold pickD; rw [if_neg (by simp; omega)]; rfl
theorem pick_pos {V : Nat} (h : V ≤ 9223372036854775807) : pickD false V = some (V : Int) := by unfold pickD; rw [if_neg (by simp; omega)]; rfl
theorem neg_back {V : Nat} (h1 : 1 ≤ V) (h : V ≤ 9223372036854775808) : wrap64 (wrap64 (-wrap64 (IntKind.u64.wrap ((V : Int) - 1))) - 1) = -(V : Int) := by
  rw [IntWalk.u64_in _ (by omega)]
  rw [IntWalk.wrap64_in ((V : Int) - 1) (by omega), IntWalk.wrap64_in (-((V : Int) - 1)) (by omega), IntWalk.wrap64_in _ (by omega)]
  omega
theorem refD_is {neg : Bool} {x : ByteArray} (h0 : 0 < x.size) (h19 : x.size ≤ 19) (hn : ¬ (x[0].toNat = 48 ∧ (neg = true ∨ 1 < x.size))) (ha : x.data.toList.all isDg = true) :
    refD neg x.data.toList = pickD neg (valD 0 x.data.toList) := by
  have e : x.data.toList = x[0] :: x.data.toList.drop 1 := by have := drop_get'Q x 0 h0; simpa using this
  have hl := toList_eqQ x
  rw [e] at hl ha
  rw [e]
  simp only [refD, pickD]
  rw [if_neg (by omega), if_neg, if_pos ha]
  rintro ⟨a, b⟩
  refine hn ⟨a, ?_⟩
  rcases b with b | b
  · exact .inl b
  · right
    rw [List.length_cons] at hl
    have : 0 < (x.data.toList.drop 1).length := List.length_pos_iff.2 b
    omega
theorem first_pos {x : ByteArray} (h0 : 0 < x.size) (h48 : x[0].toNat ≠ 48) (ha : x.data.toList.all isDg = true) : 1 ≤ valD 0 x.data.toList := by
  have e : x.data.toList = x[0] :: x.data.toList.drop 1 := by have := drop_get'Q x 0 h0; simpa using this
  rw [e] at ha ⊢
  rw [List.all_cons, Bool.and_eq_true] at ha
  exact valD_pos ha.1 h48
theorem digB_is (c : UInt8) : digBQ (c.toNat : Int) = isDg c := by
  unfold digBQ isDg; rw [Bool.eq_iff_iff]; simp; omega
theorem all_stop {l : List UInt8} {c : UInt8} (h : c ∈ l) (hd : isDg c = false) : l.all isDg = false := by
  rw [Bool.eq_false_iff]; intro ha; rw [List.all_eq_true] at ha; rw [ha c h] at hd; cases hd
/-- so far: k digits, their number -/
structure Sofar (x : ByteArray) (k : Nat) : Prop where
  all : (x.data.toList.take k).all isDg = true
  small : valD 0 (x.data.toList.take k) < 10 ^ k
def sofar (x : ByteArray) (k : Nat) : Nat := valD 0 (x.data.toList.take k)
theorem take_get (x : ByteArray) (k : Nat) (h : k < x.size) : x.data.toList.take (k + 1) = x.data.toList.take k ++ [x[k]] := by
  rw [List.take_succ_eq_append_getElem (by simpa using h)]; rfl
theorem Sofar.step {x : ByteArray} {k : Nat} (h : Sofar x k) (hk : k < x.size) (hd : isDg x[k] = true) : Sofar x (k + 1) ∧ sofar x (k + 1) = sofar x k * 10 + (x[k].toNat - 48) := by
  have hc : 48 ≤ x[k].toNat ∧ x[k].toNat ≤ 57 := by simpa [isDg] using hd
  have e : sofar x (k + 1) = sofar x k * 10 + (x[k].toNat - 48) := by unfold sofar; rw [take_get x k hk, valD_snoc]
  have hs := h.small
  refine ⟨⟨by rw [take_get x k hk, List.all_append, h.all]; simp [hd], ?_⟩, e⟩
  show sofar x (k + 1) < _
  rw [e, Nat.pow_succ]
  unfold sofar
  omega
theorem sofar_zero (x : ByteArray) : Sofar x 0 ∧ sofar x 0 = 0 := ⟨⟨rfl, by simp [valD_nil]⟩, by simp [sofar, valD_nil]⟩
theorem sofar_small {x : ByteArray} {k : Nat} (h : Sofar x k) (hk : k ≤ 19) : sofar x k < 10000000000000000000 := by
  have := h.small
  have := Nat.pow_le_pow_right (n := 10) (by omega) hk
  unfold sofar
  omega
theorem sofar_next {x : ByteArray} {k : Nat} (h : Sofar x k) (hk : k < x.size) (h19 : x.size ≤ 19) (hd : isDg x[k] = true) :
    IntKind.u64.wrap (IntKind.u64.wrap (10 * (sofar x k : Int)) + ((x[k].toNat : Int) - 48)) = ((sofar x (k + 1) : Nat) : Int) := by
  have hc : 48 ≤ x[k].toNat ∧ x[k].toNat ≤ 57 := by simpa [isDg] using hd
  have a := (h.step hk hd).2
  have b := sofar_small (h.step hk hd).1 (by omega)
  have i1 := IntWalk.u64_in (10 * (sofar x k : Int)) (by omega)
  rw [i1, IntWalk.u64_in _ (by omega)]
  omega
theorem sofar_all (x : ByteArray) : sofar x x.size = valD 0 x.data.toList := by
  unfold sofar; rw [List.take_of_length_le (by rw [toList_eqQ]; omega)]
theorem Sofar.whole {x : ByteArray} (h : Sofar x x.size) : x.data.toList.all isDg = true := by
  have := h.all; rwa [List.take_of_length_le (by rw [toList_eqQ]; omega)] at this
set_option maxHeartbeats 800000 in
theorem refInt_neg (s : ByteArray) (w : World) (hs : s.size ≤ maxLen) (h0s : 0 < s.size) (h45 : s[0].toNat = 45) : Calls Tryz.prog 90 #[.string s] w (NumSame w (refI s.data.toList)) := by
  unfold maxLen at hs
  have e45 : ((s[0].toNat : Int) == 45) = true := by rw [beq_iff_eq]; omega
  have hp : (0 : Int) < (s.size : Int) := by omega
  have hI : refI s.data.toList = refD true (s.extract 1 s.size).data.toList := by
    have e : s.data.toList = s[0] :: s.data.toList.drop 1 := by have := drop_get'Q s 0 h0s; simpa using this
    rw [behind1Q]
    conv => lhs; rw [e]
    simp only [refI]; rw [if_pos h45]
  obtain ⟨x, hx⟩ : ∃ x, s.extract 1 s.size = x := ⟨_, rfl⟩
  have hxs : x.size + 1 = s.size := by rw [← hx, ← toList_eqQ, behind1Q, List.length_drop, toList_eqQ]; omega
  rw [hx] at hI
  have HI := Lib.hid hI
  have hxb : x.size ≤ 2 ^ 63 - 1 := by omega
  clear hI hxs h45
  have h0 : 0 < x.size ∨ x.size = 0 := by omega
  rcases h0 with h0 | h0
  · have d0 : ((x.size : Int) == 0) = false := by rw [beq_eq_false_iff_ne]; omega
    by_cases h19 : x.size ≤ 19
    · have d1 : decide ((19 : Int) < (x.size : Int)) = false := by simp; omega
      by_cases hno : x[0].toNat = 48 ∧ (true = true ∨ 1 < x.size)
      · have HR : Hid (refI s.data.toList = none) := Lib.hid (by rw [HI.out, refD_nought h0 hno.1 hno.2])
        have d2 : ((x[0].toNat : Int) == 48) = true := by rw [beq_iff_eq]; omega
        have d3 : True := trivial
        clear hno
        go_enter Tryz.func90, Tryz.ntmps90
        go_wp2_with fail
        go_ret2
        exact numSame_none HR.out
      · have HIS : Hid (x.data.toList.all isDg = true → refD true x.data.toList = pickD true (valD 0 x.data.toList)) := Lib.hid (refD_is h0 h19 hno)
        have HP : Hid (x.data.toList.all isDg = true → 1 ≤ valD 0 x.data.toList) := Lib.hid (first_pos h0 (fun e => hno ⟨e, .inl rfl⟩))
        have d2 : ((x[0].toNat : Int) == 48) = false := by rw [beq_eq_false_iff_ne]; intro e; exact hno ⟨by omega, .inl rfl⟩
        all_goals
          clear hno
          go_enter Tryz.func90, Tryz.ntmps90
          go_wp2_with fail
          go_loop [7, 8] (fun n i => ∃ k : Nat, k ≤ x.size ∧ i = .int .i64 k ∧ n = .int .u64 (sofar x k) ∧ Sofar x k) (fun _ i => x.size - (intOf i).toNat)
          case atStart => exact ⟨0, by omega, rfl, by rw [(sofar_zero x).2]; rfl, (sofar_zero x).1⟩
          case round =>
            obtain ⟨k, hk, rfl, rfl, hso⟩ := hrel
            by_cases hlt : k < x.size
            · cases hd : isDg x[k] with
              | true =>
                have hc : 48 ≤ (x[k].toNat : Int) ∧ (x[k].toNat : Int) ≤ 57 := by
                  have : 48 ≤ x[k].toNat ∧ x[k].toNat ≤ 57 := by simpa [isDg] using hd
                  omega
                obtain ⟨hc1, hc2⟩ := hc
                have HB : Hid (digBQ (x[k].toNat : Int) = true) := Lib.hid (by rw [digB_is, hd])
                have HN := (hso.step hlt hd).1
                have HV := Lib.hid (sofar_next hso hlt h19 hd)
                clear hd
                go_wp2_with (go_at_call 122; refine (among_figures _ _).mono ?_; rintro e w' ⟨rfl, rfl⟩; rw [HB.out])
                exact ⟨⟨k + 1, by omega, by go_num, by rw [HV.out], HN⟩, by simp [intOf]; omega⟩
              | false =>
                have HB : Hid (digBQ (x[k].toNat : Int) = false) := Lib.hid (by rw [digB_is, hd])
                have HR : Hid (refI s.data.toList = none) := Lib.hid (by rw [HI.out, refD_other (all_stop (c := x[k]) (by rw [← List.mem_toArray]; exact Array.getElem_mem _) hd)])
                clear hd
                go_wp2_with (go_at_call 122; refine (among_figures _ _).mono ?_; rintro e w' ⟨rfl, rfl⟩; rw [HB.out])
                go_ret2
                exact numSame_none HR.out
            · obtain rfl : k = x.size := by omega
              go_wp2_with fail
              · have hv : (9223372036854775808 : Int) < (sofar x x.size : Int) := by assumption
                go_ret2
                exact numSame_none (by rw [HI.out, HIS.out hso.whole, ← sofar_all]; exact pick_over (by simp; omega))
              · have hv : (sofar x x.size : Int) ≤ 9223372036854775808 := by assumption
                go_ret2
                exact numSame_some (by rw [HI.out, HIS.out hso.whole, ← sofar_all]; exact pick_neg (by omega)) (neg_back (by rw [sofar_all]; exact HP.out hso.whole) (by omega))
    · have d1 : decide ((19 : Int) < (x.size : Int)) = true := by simp; omega
      have HR : Hid (refI s.data.toList = none) := Lib.hid (by rw [HI.out, refD_long (by rw [toList_eqQ]; omega)])
      go_enter Tryz.func90, Tryz.ntmps90
      go_wp2_with fail
      go_ret2
      exact numSame_none HR.out
  · have d0 : ((x.size : Int) == 0) = true := by rw [beq_iff_eq]; omega
    have HR : Hid (refI s.data.toList = none) := Lib.hid (by rw [HI.out, refD_none (by rw [toList_eqQ]; exact h0)])
    clear h0
    go_enter Tryz.func90, Tryz.ntmps90
    go_wp2_with fail
    go_ret2
    exact numSame_none HR.out
set_option maxHeartbeats 800000 in
theorem refInt_pos (x : ByteArray) (w : World) (hs : x.size ≤ maxLen) (h45 : ∀ h : 0 < x.size, x[0].toNat ≠ 45) : Calls Tryz.prog 90 #[.string x] w (NumSame w (refI x.data.toList)) := by
  unfold maxLen at hs
  have hI : refI x.data.toList = refD false x.data.toList := by
    by_cases h : 0 < x.size
    · have e : x.data.toList = x[0] :: x.data.toList.drop 1 := by have := drop_get'Q x 0 h; simpa using this
      rw [e]; simp only [refI]; rw [if_neg (h45 h)]
    · have : x.data.toList = [] := List.length_eq_zero_iff.1 (by rw [toList_eqQ]; omega)
      rw [this]; rfl
  have HI := Lib.hid hI
  clear hI
  have h0 : 0 < x.size ∨ x.size = 0 := by omega
  rcases h0 with h0 | h0
  · have e45 : ((x[0].toNat : Int) == 45) = false := by rw [beq_eq_false_iff_ne]; have := h45 h0; omega
    have hp : (0 : Int) < (x.size : Int) := by omega
    clear h45
    have d0 : ((x.size : Int) == 0) = false := by rw [beq_eq_false_iff_ne]; omega
    by_cases h19 : x.size ≤ 19
    · have d1 : decide ((19 : Int) < (x.size : Int)) = false := by simp; omega
      by_cases hno : x[0].toNat = 48 ∧ (false = true ∨ 1 < x.size)
      · have HR : Hid (refI x.data.toList = none) := Lib.hid (by rw [HI.out, refD_nought h0 hno.1 hno.2])
        have d2 : ((x[0].toNat : Int) == 48) = true := by rw [beq_iff_eq]; omega
        have d3 : decide ((1 : Int) < (x.size : Int)) = true := by simp; rcases hno.2 with h | h; cases h; omega
        clear hno
        go_enter Tryz.func90, Tryz.ntmps90
        go_wp2_with fail
        go_ret2
        exact numSame_none HR.out
      · have HIS : Hid (x.data.toList.all isDg = true → refD false x.data.toList = pickD false (valD 0 x.data.toList)) := Lib.hid (refD_is h0 h19 hno)
        have hcs : ((x[0].toNat : Int) == 48) = false ∨ (((x[0].toNat : Int) == 48) = true ∧ decide ((1 : Int) < (x.size : Int)) = false) := by
          by_cases h : x[0].toNat = 48
          · right; exact ⟨by rw [beq_iff_eq]; omega, by simp; have : ¬ 1 < x.size := fun h1 => hno ⟨h, .inr h1⟩; omega⟩
          · left; rw [beq_eq_false_iff_ne]; omega
        rcases hcs with d2 | ⟨d2, d3⟩
        all_goals
          clear hno
          go_enter Tryz.func90, Tryz.ntmps90
          go_wp2_with fail
          go_loop [7, 8] (fun n i => ∃ k : Nat, k ≤ x.size ∧ i = .int .i64 k ∧ n = .int .u64 (sofar x k) ∧ Sofar x k) (fun _ i => x.size - (intOf i).toNat)
          case atStart => exact ⟨0, by omega, rfl, by rw [(sofar_zero x).2]; rfl, (sofar_zero x).1⟩
          case round =>
            obtain ⟨k, hk, rfl, rfl, hso⟩ := hrel
            by_cases hlt : k < x.size
            · cases hd : isDg x[k] with
              | true =>
                have hc : 48 ≤ (x[k].toNat : Int) ∧ (x[k].toNat : Int) ≤ 57 := by
                  have : 48 ≤ x[k].toNat ∧ x[k].toNat ≤ 57 := by simpa [isDg] using hd
                  omega
                obtain ⟨hc1, hc2⟩ := hc
                have HB : Hid (digBQ (x[k].toNat : Int) = true) := Lib.hid (by rw [digB_is, hd])
                have HN := (hso.step hlt hd).1
                have HV := Lib.hid (sofar_next hso hlt h19 hd)
                clear hd
                go_wp2_with (go_at_call 122; refine (among_figures _ _).mono ?_; rintro e w' ⟨rfl, rfl⟩; rw [HB.out])
                exact ⟨⟨k + 1, by omega, by go_num, by rw [HV.out], HN⟩, by simp [intOf]; omega⟩
              | false =>
                have HB : Hid (digBQ (x[k].toNat : Int) = false) := Lib.hid (by rw [digB_is, hd])
                have HR : Hid (refI x.data.toList = none) := Lib.hid (by rw [HI.out, refD_other (all_stop (c := x[k]) (by rw [← List.mem_toArray]; exact Array.getElem_mem _) hd)])
                clear hd
                go_wp2_with (go_at_call 122; refine (among_figures _ _).mono ?_; rintro e w' ⟨rfl, rfl⟩; rw [HB.out])
                go_ret2
                exact numSame_none HR.out
            · obtain rfl : k = x.size := by omega
              go_wp2_with fail
              · have hv : (9223372036854775807 : Int) < (sofar x x.size : Int) := by assumption
                go_ret2
                exact numSame_none (by rw [HI.out, HIS.out hso.whole, ← sofar_all]; exact pick_over (by simp; omega))
              · have hv : (sofar x x.size : Int) ≤ 9223372036854775807 := by assumption
                go_ret2
                exact numSame_some (by rw [HI.out, HIS.out hso.whole, ← sofar_all]; exact pick_pos (by omega)) rfl
    · have d1 : decide ((19 : Int) < (x.size : Int)) = true := by simp; omega
      have HR : Hid (refI x.data.toList = none) := Lib.hid (by rw [HI.out, refD_long (by rw [toList_eqQ]; omega)])
      go_enter Tryz.func90, Tryz.ntmps90
      go_wp2_with fail
      go_ret2
      exact numSame_none HR.out
  · have d0 : ((x.size : Int) == 0) = true := by rw [beq_iff_eq]; omega
    have HR : Hid (refI x.data.toList = none) := Lib.hid (by rw [HI.out, refD_none (by rw [toList_eqQ]; exact h0)])
    clear h0
    go_enter Tryz.func90, Tryz.ntmps90
    go_wp2_with fail
    go_ret2
    exact numSame_none HR.out
theorem refInt_any (s : ByteArray) (w : World) (hs : s.size ≤ maxLen) : Calls Tryz.prog 90 #[.string s] w (NumSame w (intT s.data.toList)) := by
  rw [← refI_eq]
  by_cases h0 : 0 < s.size
  · by_cases h45 : s[0].toNat = 45
    · exact refInt_neg s w hs h0 h45
    · exact refInt_pos s w hs (fun _ => h45)
  · exact refInt_pos s w hs (fun h => absurd h h0)
end Go.Proofs.YtjjlofaejpnnnaaGreatDoor
namespace Go.Proofs.YtjjlofaejpnnnaaGreatDoor
open Go Go.RowKit
set_option linter.unusedVariables false
/-- a number, or none; nothing else -/
def NumQ (w : World) (r : Option Int) (e : Ending) (w' : World) : Prop := e = .returned (.tuple #[.int .i64 (r.getD 0), .bool r.isSome]) ∧ w = w'
theorem dint_none {s : ByteArray} {w : World} (hs : s.size ≤ maxLen) (h : intT s.data.toList = none) : Calls Tryz.prog 90 #[.string s] w fun e w' => e = .returned (.tuple #[.int .i64 0, .int .i64 2]) ∧ w = w' := by
  have := refInt_any s w hs
  rw [h] at this
  exact this
theorem dint_some {s : ByteArray} {w : World} {n : Int} (hs : s.size ≤ maxLen) (h : intT s.data.toList = some n) : Calls Tryz.prog 90 #[.string s] w fun e w' => e = .returned (.tuple #[.int .i64 n, .int .i64 0]) ∧ w = w' := by
  have := refInt_any s w hs
  rw [h] at this
  exact this
set_option maxHeartbeats 800000 in
theorem numberD_any (s : ByteArray) (bound : Int) (w : World) (hs : s.size ≤ maxLen) : Calls Tryz.prog 50 #[.string s, .int .i64 bound] w (NumQ w (numberV s.data.toList bound)) := by
  cases hi : intT s.data.toList with
  | none =>
    have HI := Lib.hid (dint_none (w := w) hs hi)
    have HR : Hid (numberV s.data.toList bound = none) := Lib.hid (by unfold numberV; rw [hi])
    clear hi hs
    rw [HR.out]
    go_enter Tryz.func50, Tryz.ntmps50
    go_wp2_with (go_at_call 90; refine HI.out.mono ?_; rintro e w' ⟨rfl, rfl⟩)
    go_ret2
    exact ⟨rfl, rfl⟩
  | some n =>
    have HI := Lib.hid (dint_some (w := w) hs hi)
    by_cases h1 : n < 1
    · have HR : Hid (numberV s.data.toList bound = none) := Lib.hid (by unfold numberV; rw [hi]; simp only; rw [if_neg (by omega)])
      clear hi hs
      rw [HR.out]
      go_enter Tryz.func50, Tryz.ntmps50
      go_wp2_with (go_at_call 90; refine HI.out.mono ?_; rintro e w' ⟨rfl, rfl⟩)
      go_ret2
      exact ⟨rfl, rfl⟩
    · by_cases h2 : bound ≤ n
      · have HR : Hid (numberV s.data.toList bound = none) := Lib.hid (by unfold numberV; rw [hi]; simp only; rw [if_neg (by omega)])
        clear hi hs
        rw [HR.out]
        go_enter Tryz.func50, Tryz.ntmps50
        go_wp2_with (go_at_call 90; refine HI.out.mono ?_; rintro e w' ⟨rfl, rfl⟩)
        go_ret2
        exact ⟨rfl, rfl⟩
      · have HR : Hid (numberV s.data.toList bound = some n) := Lib.hid (by unfold numberV; rw [hi]; simp only; rw [if_pos (by omega)])
        clear hi hs
        rw [HR.out]
        go_enter Tryz.func50, Tryz.ntmps50
        go_wp2_with (go_at_call 90; refine HI.out.mono ?_; rintro e w' ⟨rfl, rfl⟩)
        go_ret2
        exact ⟨rfl, rfl⟩
/-- the word from a place on -/
def wordAt (s : ByteArray) (i : Nat) : ByteArray := s.extract i (i + (wordP (s.data.toList.drop i)).length)
theorem wordAt_is (s : ByteArray) (i : Nat) : (wordAt s i).data.toList = wordP (s.data.toList.drop i) := by
  unfold wordAt
  rw [Lib.extract_data, Nat.add_sub_cancel_left]
  exact (List.prefix_iff_eq_take.1 (List.takeWhile_prefix _)).symm
theorem wordP_le (l : List UInt8) : (wordP l).length ≤ l.length := (List.takeWhile_prefix _).length_le
theorem wordAt_size (s : ByteArray) (i : Nat) : (wordAt s i).size = (wordP (s.data.toList.drop i)).length := by rw [← toList_eq, wordAt_is]
theorem wordP_go {c : UInt8} {t : List UInt8} (h1 : c ≠ 32) (h2 : c ≠ 61) : (wordP (c :: t)).length = (wordP t).length + 1 := by
  unfold wordP
  rw [List.takeWhile_cons, if_pos (by simp [h1, h2]), List.length_cons]
theorem wordP_stop {c : UInt8} {t : List UInt8} (h : c = 32 ∨ c = 61) : wordP (c :: t) = [] := by
  unfold wordP
  rw [List.takeWhile_cons, if_neg (by rcases h with h | h <;> simp [h])]
def WordQ (s : ByteArray) (i : Nat) (w : World) (e : Ending) (w' : World) : Prop := e = .returned (.string (wordAt s i)) ∧ w = w'
theorem wordQ {s x : ByteArray} {i : Nat} {w : World} (h : x = wordAt s i) : WordQ s i w (.returned (.string x)) w := ⟨by rw [h], rfl⟩
set_option maxHeartbeats 1600000 in
theorem wordD_any (s : ByteArray) (i : Nat) (w : World) (hi : i ≤ s.size) (hs : s.size ≤ 281474976710656) : Calls Tryz.prog 51 #[.string s, .int .i64 i] w (WordQ s i w) := by
  go_enter Tryz.func51, Tryz.ntmps51
  go_wp2_with fail
  go_loop [5] (fun a5 => ∃ n : Nat, a5 = .int .i64 n ∧ i ≤ n ∧ n ≤ s.size ∧ Hid (i + (wordP (s.data.toList.drop i)).length = n + (wordP (s.data.toList.drop n)).length)) (fun a5 => s.size - (intOf a5).toNat)
  case atStart => exact ⟨i, rfl, Nat.le_refl _, hi, Lib.hid rfl⟩
  case round =>
    obtain ⟨n, rfl, hin, hn, HR⟩ := hrel
    by_cases hlt : n < s.size
    · have e0 := drop_get' s n hlt
      by_cases h32 : s[n].toNat = 32
      · have d1 : ((s[n].toNat : Int) != 32) = false := by simp; omega
        have HX : Hid (s.extract i n = wordAt s i) := Lib.hid (by
          unfold wordAt
          rw [HR.out, e0, wordP_stop (Or.inl (UInt8.toNat_inj.1 (by rw [h32]; rfl)))]; rfl)
        clear h32 e0
        go_wp2_with fail
        go_ret
        exact wordQ HX.out
      · have d1 : ((s[n].toNat : Int) != 32) = true := by simp; omega
        by_cases h61 : s[n].toNat = 61
        · have d2 : ((s[n].toNat : Int) != 61) = false := by simp; omega
          have HX : Hid (s.extract i n = wordAt s i) := Lib.hid (by
            unfold wordAt
            rw [HR.out, e0, wordP_stop (Or.inr (UInt8.toNat_inj.1 (by rw [h61]; rfl)))]; rfl)
          clear h32 h61 e0
          go_wp2_with fail
          go_ret
          exact wordQ HX.out
        · have d2 : ((s[n].toNat : Int) != 61) = true := by simp; omega
          have HX : Hid (i + (wordP (s.data.toList.drop i)).length = (n + 1) + (wordP (s.data.toList.drop (n + 1))).length) := Lib.hid (by
            rw [HR.out, e0, wordP_go (fun e => h32 (by rw [e]; rfl)) (fun e => h61 (by rw [e]; rfl))]; omega)
          clear h32 h61 e0
          go_wp2_with fail
          go_round
          case rel => exact ⟨n + 1, by go_num, by omega, by omega, HX⟩
          case measure => simp [intOf]; omega
    · have HX : Hid (s.extract i n = wordAt s i) := Lib.hid (by
        unfold wordAt
        have e1 : s.data.toList.drop n = [] := List.drop_eq_nil_of_le (by rw [toList_eq]; omega)
        rw [HR.out, e1]; rfl)
      have d2 : ¬ (n : Int) < (s.size : Int) := by omega
      go_wp2_with fail
      go_ret
      exact wordQ HX.out
end Go.Proofs.YtjjlofaejpnnnaaGreatDoor

/-
  WALKS: the document's Int.
  WALKS over the document's own answers: two lists that hold the same tokens are alike, At and all; its lists of words and marks; is a text in a list.
-/
import Derived.Test.YtckfcpiedainfaaGreatDoorZE40
import Derived.Deep.QuietTactic
import Derived.BigQuiet
namespace Go.Proofs.YtckfcpiedainfaaGreatDoor
open Go Go.RowKit
set_option linter.unusedVariables false
/-- a number told, or none, the world as it was -/
def NumSame (w : World) (r : Option Int) (e : Ending) (w' : World) : Prop := e = .returned (.tuple #[.int .i64 (r.getD 0), .int .i64 (if r.isSome then 0 else 2)]) ∧ w = w'
theorem numSame_none {w : World} {r : Option Int} (h : r = none) : NumSame w r (.returned (.tuple #[.int .i64 0, .int .i64 2])) w := by rw [h]; exact ⟨rfl, rfl⟩
theorem numSame_some {w : World} {r : Option Int} {v x : Int} (h : r = some v) (e : x = v) : NumSame w r (.returned (.tuple #[.int .i64 x, .int .i64 0])) w := by rw [h, e]; exact ⟨rfl, rfl⟩
theorem refD_none {neg : Bool} {d : List UInt8} (h : d.length = 0) : refD neg d = none := by
  rw [List.length_eq_zero_iff.1 h]; rfl
theorem refD_long {neg : Bool} {d : List UInt8} (h : 19 < d.length) : refD neg d = none := by
  cases d with
  | nil => rfl
  | cons c r => simp only [refD]; rw [if_pos h]
theorem refD_nought {neg : Bool} {x : ByteArray} (h0 : 0 < x.size) (h : x[0].toNat = 48) (hb : neg = true ∨ 1 < x.size) : refD neg x.data.toList = none := by
  have e : x.data.toList = x[0] :: x.data.toList.drop 1 := by have := drop_get' x 0 h0; simpa using this
  have hl := toList_eq x
  rw [e] at hl
  rw [e]
  simp only [refD]
  split
  · rfl
  · rw [if_pos ⟨h, by
      rcases hb with hb | hb
      · exact .inl hb
      · right; intro he; rw [he] at hl; simp at hl; omega⟩]
theorem refD_other {neg : Bool} {d : List UInt8} (h : d.all isDg = false) : refD neg d = none := by
  cases d with
  | nil => rfl
  | cons c r =>
    simp only [refD]
    rw [h]
    split
    · rfl
    · split
      · rfl
      · rfl
def pickD (neg : Bool) (V : Nat) : Option Int := if (if neg then 9223372036854775808 else 9223372036854775807) < V then none else some (if neg then -(V : Int) else V)
theorem pick_over {neg : Bool} {V : Nat} (h : (if neg then 9223372036854775808 else 9223372036854775807) < V) : pickD neg V = none := by unfold pickD; rw [if_pos h]
theorem pick_neg {V : Nat} (h : V ≤ 9223372036854775808) : pickD true V = some (-(V : Int)) := by unfold pickD; rw [if_neg (by simp; omega)]; rfl
theorem pick_pos {V : Nat} (h : V ≤ 9223372036854775807) : pickD false V = some (V : Int) := by unfold pickD; rw [if_neg (by simp; omega)]; rfl
theorem neg_back {V : Nat} (h1 : 1 ≤ V) (h : V ≤ 9223372036854775808) : wrap64 (wrap64 (-wrap64 (IntKind.u64.wrap ((V : Int) - 1))) - 1) = -(V : Int) := by
  rw [IntWalk.u64_in _ (by omega)]
  rw [IntWalk.wrap64_in ((V : Int) - 1) (by omega), IntWalk.wrap64_in (-((V : Int) - 1)) (by omega), IntWalk.wrap64_in _ (by omega)]
  omega
theorem refD_is {neg : Bool} {x : ByteArray} (h0 : 0 < x.size) (h19 : x.size ≤ 19) (hn : ¬ (x[0].toNat = 48 ∧ (neg = true ∨ 1 < x.size))) (ha : x.data.toList.all isDg = true) :
    refD neg x.data.toList = pickD neg (valD 0 x.data.toList) := by
  have e : x.data.toList = x[0] :: x.data.toList.drop 1 := by have := drop_get' x 0 h0; simpa using this
  have hl := toList_eq x
  rw [e] at hl ha
  rw [e]
  simp only [refD, pickD]
  rw [if_neg (by omega), if_neg, if_pos ha]
  rintro ⟨a, b⟩
  refine hn ⟨a, ?_⟩
  rcases b with b | b
  · exact .inl b
  · right
    rw [List.length_cons] at hl
    have : 0 < (x.data.toList.drop 1).length := List.length_pos_iff.2 b
    omega
theorem first_pos {x : ByteArray} (h0 : 0 < x.size) (h48 : x[0].toNat ≠ 48) (ha : x.data.toList.all isDg = true) : 1 ≤ valD 0 x.data.toList := by
  have e : x.data.toList = x[0] :: x.data.toList.drop 1 := by have := drop_get' x 0 h0; simpa using this
  rw [e] at ha ⊢
  rw [List.all_cons, Bool.and_eq_true] at ha
  exact valD_pos ha.1 h48
theorem digB_is (c : UInt8) : digB (c.toNat : Int) = isDg c := by
  unfold digB isDg; rw [Bool.eq_iff_iff]; simp; omega
theorem all_stop {l : List UInt8} {c : UInt8} (h : c ∈ l) (hd : isDg c = false) : l.all isDg = false := by
  rw [Bool.eq_false_iff]; intro ha; rw [List.all_eq_true] at ha; rw [ha c h] at hd; cases hd
/-- so far: k digits, their number -/
structure Sofar (x : ByteArray) (k : Nat) : Prop where
  all : (x.data.toList.take k).all isDg = true
  small : valD 0 (x.data.toList.take k) < 10 ^ k
def sofar (x : ByteArray) (k : Nat) : Nat := valD 0 (x.data.toList.take k)
theorem take_get (x : ByteArray) (k : Nat) (h : k < x.size) : x.data.toList.take (k + 1) = x.data.toList.take k ++ [x[k]] := by
  rw [List.take_succ_eq_append_getElem (by simpa using h)]; rfl
theorem Sofar.step {x : ByteArray} {k : Nat} (h : Sofar x k) (hk : k < x.size) (hd : isDg x[k] = true) : Sofar x (k + 1) ∧ sofar x (k + 1) = sofar x k * 10 + (x[k].toNat - 48) := by
  have hc : 48 ≤ x[k].toNat ∧ x[k].toNat ≤ 57 := by simpa [isDg] using hd
  have e : sofar x (k + 1) = sofar x k * 10 + (x[k].toNat - 48) := by unfold sofar; rw [take_get x k hk, valD_snoc]
  have hs := h.small
  refine ⟨⟨by rw [take_get x k hk, List.all_append, h.all]; simp [hd], ?_⟩, e⟩
  show sofar x (k + 1) < _
  rw [e, Nat.pow_succ]
  unfold sofar
  omega
theorem sofar_zero (x : ByteArray) : Sofar x 0 ∧ sofar x 0 = 0 := ⟨⟨rfl, by simp [valD_nil]⟩, by simp [sofar, valD_nil]⟩
theorem sofar_small {x : ByteArray} {k : Nat} (h : Sofar x k) (hk : k ≤ 19) : sofar x k < 10000000000000000000 := by
  have := h.small
  have := Nat.pow_le_pow_right (n := 10) (by omega) hk
  unfold sofar
  omega
theorem sofar_next {x : ByteArray} {k : Nat} (h : Sofar x k) (hk : k < x.size) (h19 : x.size ≤ 19) (hd : isDg x[k] = true) :
    IntKind.u64.wrap (IntKind.u64.wrap (10 * (sofar x k : Int)) + ((x[k].toNat : Int) - 48)) = ((sofar x (k + 1) : Nat) : Int) := by
  have hc : 48 ≤ x[k].toNat ∧ x[k].toNat ≤ 57 := by simpa [isDg] using hd
  have a := (h.step hk hd).2
  have b := sofar_small (h.step hk hd).1 (by omega)
  have i1 := IntWalk.u64_in (10 * (sofar x k : Int)) (by omega)
  rw [i1, IntWalk.u64_in _ (by omega)]
  omega
theorem sofar_all (x : ByteArray) : sofar x x.size = valD 0 x.data.toList := by
  unfold sofar; rw [List.take_of_length_le (by rw [toList_eq]; omega)]
theorem Sofar.whole {x : ByteArray} (h : Sofar x x.size) : x.data.toList.all isDg = true := by
  have := h.all; rwa [List.take_of_length_le (by rw [toList_eq]; omega)] at this
set_option maxHeartbeats 800000 in
theorem refInt_neg (s : ByteArray) (w : World) (hs : s.size ≤ maxLen) (h0s : 0 < s.size) (h45 : s[0].toNat = 45) : Calls Tryz.prog 82 #[.string s] w (NumSame w (refI s.data.toList)) := by
  unfold maxLen at hs
  have e45 : ((s[0].toNat : Int) == 45) = true := by rw [beq_iff_eq]; omega
  have hp : (0 : Int) < (s.size : Int) := by omega
  have hI : refI s.data.toList = refD true (s.extract 1 s.size).data.toList := by
    have e : s.data.toList = s[0] :: s.data.toList.drop 1 := by have := drop_get' s 0 h0s; simpa using this
    rw [behind1]
    conv => lhs; rw [e]
    simp only [refI]; rw [if_pos h45]
  obtain ⟨x, hx⟩ : ∃ x, s.extract 1 s.size = x := ⟨_, rfl⟩
  have hxs : x.size + 1 = s.size := by rw [← hx, ← toList_eq, behind1, List.length_drop, toList_eq]; omega
  rw [hx] at hI
  have HI := Lib.hid hI
  have hxb : x.size ≤ 2 ^ 63 - 1 := by omega
  clear hI hxs h45
  have h0 : 0 < x.size ∨ x.size = 0 := by omega
  rcases h0 with h0 | h0
  · have d0 : ((x.size : Int) == 0) = false := by rw [beq_eq_false_iff_ne]; omega
    by_cases h19 : x.size ≤ 19
    · have d1 : decide ((19 : Int) < (x.size : Int)) = false := by simp; omega
      by_cases hno : x[0].toNat = 48 ∧ (true = true ∨ 1 < x.size)
      · have HR : Hid (refI s.data.toList = none) := Lib.hid (by rw [HI.out, refD_nought h0 hno.1 hno.2])
        have d2 : ((x[0].toNat : Int) == 48) = true := by rw [beq_iff_eq]; omega
        have d3 : True := trivial
        clear hno
        go_enter Tryz.func82, Tryz.ntmps82
        go_wp2_with fail
        go_ret2
        exact numSame_none HR.out
      · have HIS : Hid (x.data.toList.all isDg = true → refD true x.data.toList = pickD true (valD 0 x.data.toList)) := Lib.hid (refD_is h0 h19 hno)
        have HP : Hid (x.data.toList.all isDg = true → 1 ≤ valD 0 x.data.toList) := Lib.hid (first_pos h0 (fun e => hno ⟨e, .inl rfl⟩))
        have d2 : ((x[0].toNat : Int) == 48) = false := by rw [beq_eq_false_iff_ne]; intro e; exact hno ⟨by omega, .inl rfl⟩
        all_goals
          clear hno
          go_enter Tryz.func82, Tryz.ntmps82
          go_wp2_with fail
          go_loop [7, 8] (fun n i => ∃ k : Nat, k ≤ x.size ∧ i = .int .i64 k ∧ n = .int .u64 (sofar x k) ∧ Sofar x k) (fun _ i => x.size - (intOf i).toNat)
          case atStart => exact ⟨0, by omega, rfl, by rw [(sofar_zero x).2]; rfl, (sofar_zero x).1⟩
          case round =>
            obtain ⟨k, hk, rfl, rfl, hso⟩ := hrel
            by_cases hlt : k < x.size
            · cases hd : isDg x[k] with
              | true =>
                have hc : 48 ≤ (x[k].toNat : Int) ∧ (x[k].toNat : Int) ≤ 57 := by
                  have : 48 ≤ x[k].toNat ∧ x[k].toNat ≤ 57 := by simpa [isDg] using hd
                  omega
                obtain ⟨hc1, hc2⟩ := hc
                have HB : Hid (digB (x[k].toNat : Int) = true) := Lib.hid (by rw [digB_is, hd])
                have HN := (hso.step hlt hd).1
                have HV := Lib.hid (sofar_next hso hlt h19 hd)
                clear hd
                go_wp2_with (go_at_call 83; refine (among_figures _ _).mono ?_; rintro e w' ⟨rfl, rfl⟩; rw [HB.out])
                exact ⟨⟨k + 1, by omega, by go_num, by rw [HV.out], HN⟩, by simp [intOf]; omega⟩
              | false =>
                have HB : Hid (digB (x[k].toNat : Int) = false) := Lib.hid (by rw [digB_is, hd])
                have HR : Hid (refI s.data.toList = none) := Lib.hid (by rw [HI.out, refD_other (all_stop (c := x[k]) (by rw [← List.mem_toArray]; exact Array.getElem_mem _) hd)])
                clear hd
                go_wp2_with (go_at_call 83; refine (among_figures _ _).mono ?_; rintro e w' ⟨rfl, rfl⟩; rw [HB.out])
                go_ret2
                exact numSame_none HR.out
            · obtain rfl : k = x.size := by omega
              go_wp2_with fail
              · have hv : (9223372036854775808 : Int) < (sofar x x.size : Int) := by assumption
                go_ret2
                exact numSame_none (by rw [HI.out, HIS.out hso.whole, ← sofar_all]; exact pick_over (by simp; omega))
              · have hv : (sofar x x.size : Int) ≤ 9223372036854775808 := by assumption
                go_ret2
                exact numSame_some (by rw [HI.out, HIS.out hso.whole, ← sofar_all]; exact pick_neg (by omega)) (neg_back (by rw [sofar_all]; exact HP.out hso.whole) (by omega))
    · have d1 : decide ((19 : Int) < (x.size : Int)) = true := by simp; omega
      have HR : Hid (refI s.data.toList = none) := Lib.hid (by rw [HI.out, refD_long (by rw [toList_eq]; omega)])
      go_enter Tryz.func82, Tryz.ntmps82
      go_wp2_with fail
      go_ret2
      exact numSame_none HR.out
  · have d0 : ((x.size : Int) == 0) = true := by rw [beq_iff_eq]; omega
    have HR : Hid (refI s.data.toList = none) := Lib.hid (by rw [HI.out, refD_none (by rw [toList_eq]; exact h0)])
    clear h0
    go_enter Tryz.func82, Tryz.ntmps82
    go_wp2_with fail
    go_ret2
    exact numSame_none HR.out
set_option maxHeartbeats 800000 in
theorem refInt_pos (x : ByteArray) (w : World) (hs : x.size ≤ maxLen) (h45 : ∀ h : 0 < x.size, x[0].toNat ≠ 45) : Calls Tryz.prog 82 #[.string x] w (NumSame w (refI x.data.toList)) := by
  unfold maxLen at hs
  have hI : refI x.data.toList = refD false x.data.toList := by
    by_cases h : 0 < x.size
    · have e : x.data.toList = x[0] :: x.data.toList.drop 1 := by have := drop_get' x 0 h; simpa using this
      rw [e]; simp only [refI]; rw [if_neg (h45 h)]
    · have : x.data.toList = [] := List.length_eq_zero_iff.1 (by rw [toList_eq]; omega)
      rw [this]; rfl
  have HI := Lib.hid hI
  clear hI
  have h0 : 0 < x.size ∨ x.size = 0 := by omega
  rcases h0 with h0 | h0
  · have e45 : ((x[0].toNat : Int) == 45) = false := by rw [beq_eq_false_iff_ne]; have := h45 h0; omega
    have hp : (0 : Int) < (x.size : Int) := by omega
    clear h45
    have d0 : ((x.size : Int) == 0) = false := by rw [beq_eq_false_iff_ne]; omega
    by_cases h19 : x.size ≤ 19
    · have d1 : decide ((19 : Int) < (x.size : Int)) = false := by simp; omega
      by_cases hno : x[0].toNat = 48 ∧ (false = true ∨ 1 < x.size)
      · have HR : Hid (refI x.data.toList = none) := Lib.hid (by rw [HI.out, refD_nought h0 hno.1 hno.2])
        have d2 : ((x[0].toNat : Int) == 48) = true := by rw [beq_iff_eq]; omega
        have d3 : decide ((1 : Int) < (x.size : Int)) = true := by simp; rcases hno.2 with h | h; cases h; omega
        clear hno
        go_enter Tryz.func82, Tryz.ntmps82
        go_wp2_with fail
        go_ret2
        exact numSame_none HR.out
      · have HIS : Hid (x.data.toList.all isDg = true → refD false x.data.toList = pickD false (valD 0 x.data.toList)) := Lib.hid (refD_is h0 h19 hno)
        have hcs : ((x[0].toNat : Int) == 48) = false ∨ (((x[0].toNat : Int) == 48) = true ∧ decide ((1 : Int) < (x.size : Int)) = false) := by
          by_cases h : x[0].toNat = 48
          · right; exact ⟨by rw [beq_iff_eq]; omega, by simp; have : ¬ 1 < x.size := fun h1 => hno ⟨h, .inr h1⟩; omega⟩
          · left; rw [beq_eq_false_iff_ne]; omega
        rcases hcs with d2 | ⟨d2, d3⟩
        all_goals
          clear hno
          go_enter Tryz.func82, Tryz.ntmps82
          go_wp2_with fail
          go_loop [7, 8] (fun n i => ∃ k : Nat, k ≤ x.size ∧ i = .int .i64 k ∧ n = .int .u64 (sofar x k) ∧ Sofar x k) (fun _ i => x.size - (intOf i).toNat)
          case atStart => exact ⟨0, by omega, rfl, by rw [(sofar_zero x).2]; rfl, (sofar_zero x).1⟩
          case round =>
            obtain ⟨k, hk, rfl, rfl, hso⟩ := hrel
            by_cases hlt : k < x.size
            · cases hd : isDg x[k] with
              | true =>
                have hc : 48 ≤ (x[k].toNat : Int) ∧ (x[k].toNat : Int) ≤ 57 := by
                  have : 48 ≤ x[k].toNat ∧ x[k].toNat ≤ 57 := by simpa [isDg] using hd
                  omega
                obtain ⟨hc1, hc2⟩ := hc
                have HB : Hid (digB (x[k].toNat : Int) = true) := Lib.hid (by rw [digB_is, hd])
                have HN := (hso.step hlt hd).1
                have HV := Lib.hid (sofar_next hso hlt h19 hd)
                clear hd
                go_wp2_with (go_at_call 83; refine (among_figures _ _).mono ?_; rintro e w' ⟨rfl, rfl⟩; rw [HB.out])
                exact ⟨⟨k + 1, by omega, by go_num, by rw [HV.out], HN⟩, by simp [intOf]; omega⟩
              | false =>
                have HB : Hid (digB (x[k].toNat : Int) = false) := Lib.hid (by rw [digB_is, hd])
                have HR : Hid (refI x.data.toList = none) := Lib.hid (by rw [HI.out, refD_other (all_stop (c := x[k]) (by rw [← List.mem_toArray]; exact Array.getElem_mem _) hd)])
                clear hd
                go_wp2_with (go_at_call 83; refine (among_figures _ _).mono ?_; rintro e w' ⟨rfl, rfl⟩; rw [HB.out])
                go_ret2
                exact numSame_none HR.out
            · obtain rfl : k = x.size := by omega
              go_wp2_with fail
              · have hv : (9223372036854775807 : Int) < (sofar x x.size : Int) := by assumption
                go_ret2
                exact numSame_none (by rw [HI.out, HIS.out hso.whole, ← sofar_all]; exact pick_over (by simp; omega))
              · have hv : (sofar x x.size : Int) ≤ 9223372036854775807 := by assumption
                go_ret2
                exact numSame_some (by rw [HI.out, HIS.out hso.whole, ← sofar_all]; exact pick_pos (by omega)) rfl
    · have d1 : decide ((19 : Int) < (x.size : Int)) = true := by simp; omega
      have HR : Hid (refI x.data.toList = none) := Lib.hid (by rw [HI.out, refD_long (by rw [toList_eq]; omega)])
      go_enter Tryz.func82, Tryz.ntmps82
      go_wp2_with fail
      go_ret2
      exact numSame_none HR.out
  · have d0 : ((x.size : Int) == 0) = true := by rw [beq_iff_eq]; omega
    have HR : Hid (refI x.data.toList = none) := Lib.hid (by rw [HI.out, refD_none (by rw [toList_eq]; exact h0)])
    clear h0
    go_enter Tryz.func82, Tryz.ntmps82
    go_wp2_with fail
    go_ret2
    exact numSame_none HR.out
theorem refInt_any (s : ByteArray) (w : World) (hs : s.size ≤ maxLen) : Calls Tryz.prog 82 #[.string s] w (NumSame w (intT s.data.toList)) := by
  rw [← refI_eq]
  by_cases h0 : 0 < s.size
  · by_cases h45 : s[0].toNat = 45
    · exact refInt_neg s w hs h0 h45
    · exact refInt_pos s w hs (fun _ => h45)
  · exact refInt_pos s w hs (fun h => absurd h h0)
end Go.Proofs.YtckfcpiedainfaaGreatDoor
namespace Go.Proofs.YtckfcpiedainfaaGreatDoor
open Go Go.RowKit
set_option linter.unusedVariables false
def strCells (L : List (List UInt8)) : List Value := L.map fun m => .string (ba m)
theorem strCells_len (L : List (List UInt8)) : (strCells L).length = L.length := by simp [strCells]
theorem strCells_get {L : List (List UInt8)} {i : Nat} {m : List UInt8} (h : L[i]? = some m) : (strCells L)[i]? = some (.string (ba m)) := by
  unfold strCells; rw [List.getElem?_map, h]; rfl
/-- a new list of texts -/
def Lists (w : World) (n : Nat) (L : List (List UInt8)) (e : Ending) (w' : World) : Prop :=
  ∃ g, e = .returned (.slice (some ⟨g, 0, none⟩) n n) ∧ Row w' 0 w'.heap.size 1 (some ⟨g, 0, none⟩) n n (strCells L) ∧ Below w.heap.size w w'
theorem lists_new (w : World) (n : Nat) (L : List (List UInt8)) (cs : Array Value) (hc : cs.toList = strCells L) (hn : L.length = n) (hm : n ≤ 100) : Row (w.alloc (.cells cs 9)) 0 (w.alloc (.cells cs 9)).heap.size 1 (some ⟨w.heap.size, 0, none⟩) n n (strCells L) := by
  have hs : cs.size = n := by rw [← Array.length_toList, hc, strCells_len, hn]
  rw [← hc]
  exact (row_blk (Blk.new w 9 cs) (by omega) (Nat.le_refl _) (by unfold maxLen; omega)).mono (Nat.zero_le _) (by simp)
def docMarks : List (List UInt8) := [[45, 62], [33, 33], [33, 61], [61, 61], [60, 61], [46], [35], [94], [63], [40], [41], [43], [45], [42], [60], [58]]
theorem docMarks_has (l : List UInt8) : docMarks.contains l = markB l := by
  unfold markB
  have h1 : ∀ m ∈ docMarks, m ∈ marksL := by decide
  have h2 : ∀ m ∈ marksL, m ∈ docMarks := by decide
  rw [Bool.eq_iff_iff]
  simp only [List.contains_iff_mem]
  exact ⟨h1 l, h2 l⟩
theorem docMarks_beg (l : List UInt8) : docMarks.any (fun m => l.isPrefixOf m) = begM l := by
  unfold begM
  have h1 : ∀ m ∈ docMarks, m ∈ marksL := by decide
  have h2 : ∀ m ∈ marksL, m ∈ docMarks := by decide
  rw [Bool.eq_iff_iff]
  simp only [List.any_eq_true]
  exact ⟨fun ⟨m, hm, h⟩ => ⟨m, h1 m hm, h⟩, fun ⟨m, hm, h⟩ => ⟨m, h2 m hm, h⟩⟩
theorem refWords_any (w : World) : Calls Tryz.prog 64 #[] w (Lists w 22 wordsL) := by
  go_enter Tryz.func64, Tryz.ntmps64
  go_wp2_with fail
  go_ret
  exact ⟨_, rfl, lists_new w 22 wordsL _ (by kernel_rfl) rfl (by omega), (Below.refl _ _).alloc (Nat.le_refl _) _⟩
theorem refMarks_any (w : World) : Calls Tryz.prog 62 #[] w (Lists w 16 docMarks) := by
  go_enter Tryz.func62, Tryz.ntmps62
  go_wp2_with fail
  go_ret
  exact ⟨_, rfl, lists_new w 16 docMarks _ (by kernel_rfl) rfl (by omega), (Below.refl _ _).alloc (Nat.le_refl _) _⟩
theorem strs_at {w : World} {hi n c : Nat} {A : Option Addr} {L : List (List UInt8)} (h : Row w 0 hi 1 A n c (strCells L)) {i : Nat} (hi' : i < n) : ∃ b o m, A = some ⟨b, o, none⟩ ∧ b < hi ∧ L[i]? = some m ∧ w.cell? ⟨b, o + i, none⟩ = some (.string (ba m)) := by
  have hl : L.length = n := by have := h.1; rw [strCells_len] at this; omega
  obtain ⟨b, o, e, _, hlt, hc⟩ := Row.at_ h (by omega)
  exact ⟨b, o, _, e, hlt, List.getElem?_eq_getElem (by omega), hc i _ (strCells_get (List.getElem?_eq_getElem (by omega)))⟩
theorem drop_has {L : List (List UInt8)} {k : Nat} {m s : List UInt8} (hm : L[k]? = some m) : (L.drop k).contains s = ((s == m) || (L.drop (k + 1)).contains s) := by
  obtain ⟨h, e⟩ := List.getElem?_eq_some_iff.1 hm
  rw [List.drop_eq_getElem_cons h, e, List.contains_cons]
theorem ba_toList (m : List UInt8) : (ba m).toList = m := by rw [Lib.toList_data, ba_data]
set_option maxHeartbeats 1600000 in
theorem refIn_any (w : World) (hi : Nat) (A : Option Addr) (n c : Nat) (L : List (List UInt8)) (s : ByteArray) (b : Bool) (h : Row w 0 hi 1 A n c (strCells L)) (hr : L.contains s.data.toList = b) : Calls Tryz.prog 63 #[.slice A n c, .string s] w (Says w b) := by
  have HI := Lib.hid h
  have HR0 := Lib.hid hr
  have HL : Hid (L.length = n) := Lib.hid (by have := h.1; rw [strCells_len] at this; omega)
  have hn : n ≤ maxLen := Nat.le_trans h.2.1 h.2.2.1
  unfold maxLen at hn
  clear h hr
  go_enter Tryz.func63, Tryz.ntmps63
  go_wp2_with fail
  go_loop [5] (fun i => ∃ k : Nat, k ≤ n ∧ i = .int .i64 k ∧ Hid ((L.drop k).contains s.data.toList = b)) (fun i => n - (intOf i).toNat)
  case atStart => exact ⟨0, by omega, rfl, Lib.hid (by rw [List.drop_zero]; exact HR0.out)⟩
  case round =>
    obtain ⟨k, hk, rfl, HK⟩ := hrel
    by_cases hlt : k < n
    · obtain ⟨bl, o, m, rfl, hb, hm, hc⟩ := strs_at HI.out hlt
      have HD := Lib.hid (drop_has (s := s.data.toList) hm)
      obtain ⟨M, hM⟩ : ∃ M, ba m = M := ⟨_, rfl⟩
      rw [hM] at hc
      have HM := Lib.hid hM
      clear hm hM
      cases he : (M.toList == s.toList) with
      | true =>
        have HR : Hid (b = true) := Lib.hid (by
          have h := HK.out
          rw [HD.out] at h
          have e := eq_of_beq he
          rw [← HM.out, ba_toList, Lib.toList_data] at e
          rw [← h, e]; simp)
        go_wp2_with fail
        go_ret
        exact ⟨ret_bool HR.out.symm, rfl⟩
      | false =>
        have HR : Hid ((L.drop (k + 1)).contains s.data.toList = b) := Lib.hid (by
          have h := HK.out
          rw [HD.out] at h
          have e := beq_eq_false_iff_ne.1 he
          rw [← HM.out, ba_toList, Lib.toList_data] at e
          have : (s.data.toList == m) = false := by rw [beq_eq_false_iff_ne]; exact fun x => e x.symm
          rwa [this, Bool.false_or] at h)
        go_wp2_with fail
        go_round
        case rel => exact ⟨k + 1, by omega, by go_num, HR⟩
        case measure => simp [intOf]; omega
    · have HR : Hid (b = false) := Lib.hid (by have := HK.out; rw [List.drop_eq_nil_of_le (by have := HL.out; omega)] at this; rw [← this]; rfl)
      go_wp2_with fail
      go_ret
      exact ⟨ret_bool HR.out.symm, rfl⟩
end Go.Proofs.YtckfcpiedainfaaGreatDoor

/-
  WALKS: roleSpelt, propsSpelt, refsSpelt, spelt of the program.
-/
import Derived.Test.YtmjkcbhkmkofjaaW5
namespace Go.Proofs.Ytmjkcbhkmkofjaa
open Go Go.RowKit Go.Sort
set_option linter.unusedVariables false

theorem quiet_says {P : Program} {f : FuncId} {args : Array Value} {w : World} {n : Nat} {b : Bool} (h : Calls P f args (w.drewN n) (Says (w.drewN n) b)) : Calls P f args (w.drewN n) fun e w'' => e = .returned (.bool b) ∧ ∃ m, w'' = w.drewN m :=
  h.mono fun e w' ⟨he, hw⟩ => ⟨he, n, hw.symm⟩

def prevP (l : List (ByteArray × ByteArray)) (k : Nat) : Option ByteArray := if k = 0 then none else (l[k - 1]?).map (·.1)
def prevR (l : List (ByteArray × Int)) (k : Nat) : Option ByteArray := if k = 0 then none else (l[k - 1]?).map (·.1)
theorem leqB {a q : ByteArray} : (Op.bytesLess a.toList q.toList || a.toList == q.toList) = !ltS q a := by rw [leq_not]; rfl

set_option maxHeartbeats 1600000 in
theorem propsSpelt_any (w : World) (hi : Nat) (A : Option Addr) (n c : Nat) (l : List (ByteArray × ByteArray)) (h : Row w 0 hi 2 A n c (propCells l)) (hh : hi ≤ w.heap.size) (hs : ∀ p ∈ l, p.1.size ≤ maxLen ∧ p.2.size ≤ maxLen) :
    Calls Try.prog 123 #[.slice A n c] w (Ret w (.bool (propsB none l))) := by
  have hc := h.2.2.1
  have hnc := h.2.1
  have hl : l.length = n := by have := h.1; rw [propCells_length] at this; omega
  have HL := Lib.hid hl
  unfold maxLen at hc
  go_enter Try.func123, Try.ntmps123
  go_wp2_with fail
  go_loopw [7] (fun i wr => ∃ k : Nat, k ≤ n ∧ i = .int .i64 k ∧ Hid (propsB none l = propsB (prevP l k) (l.drop k)) ∧ Below w.heap.size w wr) (fun i _ => n - (intOf i).toNat)
  case atStart => exact ⟨0, by omega, rfl, Lib.hid rfl, Below.refl _ _⟩
  case round =>
    obtain ⟨k, hk, rfl, HK, hbel⟩ := hrel
    have HBel := Lib.hid hbel
    by_cases hlt : k < n
    · obtain ⟨b, o, rfl, _, hb, hcells⟩ := (h.below (hbel.mono hh)).at_ (by omega)
      have hbl : b < wr.heap.size := by have := hbel.size; omega
      obtain ⟨p, hp⟩ : ∃ p, l[k]? = some p := ⟨l[k]'(by omega), List.getElem?_eq_getElem (by omega)⟩
      have hc0 := hcells _ _ (propCells_get hp).1
      have hc1 := hcells _ _ (propCells_get hp).2
      have hc1 : wr.cell? ⟨b, o + k * 2 + 1, none⟩ = some (.string p.2) := by rw [Nat.add_assoc]; exact hc1
      obtain ⟨s1, s2⟩ := hs p (List.mem_of_getElem? hp)
      unfold maxLen at s2
      have hd : l.drop k = p :: l.drop (k + 1) := by
        obtain ⟨hl', rfl⟩ := List.getElem?_eq_some_iff.1 hp
        exact List.drop_eq_getElem_cons hl'
      have hpv : prevP l (k + 1) = some p.1 := by unfold prevP; rw [if_neg (by omega), Nat.add_sub_cancel, hp]; rfl
      have HD : Hid (propsB none l = (wordB p.1 && decide (p.2.size ≤ 4096) && aboveB (prevP l k) p.1 && propsB (prevP l (k + 1)) (l.drop (k + 1)))) := Lib.hid (by rw [HK.out, hd, propsB, hpv])
      clear HK hd hpv hbel
      obtain ⟨a, v⟩ := p
      simp only at hc0 hc1 s1 s2 HD
      have HS1 := Lib.hid s1
      have hgo := below_box wr (.cells #[.string a, .string v] 63)
      have HGO := Lib.hid hgo
      clear s1 hgo
      cases hw : wordB a with
      | false =>
        have HW := Lib.hid hw
        have HZ : Hid (propsB none l = false) := Lib.hid (by rw [HD.out, hw]; rfl)
        clear HD hw
        go_wp2_with fail
        go_quiet ((go_at_call 94; exact quiet_says (word_is _ _ _ HS1.out HW.out)))
        go_wp2_with fail
        go_ret
        exact ret_b HZ.out rfl (HBel.out.trans ((below_drewN HGO.out _).mono HBel.out.size))
      | true =>
        have HW := Lib.hid hw
        by_cases hz : v.size ≤ 4096
        · have d1 : decide ((4096 : Int) < (v.size : Int)) = false := decide_eq_false (by omega)
          by_cases h0 : k = 0
          · have HZ : Hid (propsB none l = propsB (prevP l (k + 1)) (l.drop (k + 1))) := Lib.hid (by rw [HD.out, hw, decide_eq_true hz, h0]; rfl)
            have d2 : decide (0 < k) = false := decide_eq_false (by omega)
            clear HD hw h0
            go_wp2_with fail
            go_quiet ((go_at_call 94; exact quiet_says (word_is _ _ _ HS1.out HW.out)))
            go_wp2_with fail
            go_roundw
            case rel => exact ⟨k + 1, by omega, by go_num, HZ, HBel.out.trans ((below_drewN HGO.out _).mono HBel.out.size)⟩
            case measure => simp [intOf]; omega
          · obtain ⟨q, hq⟩ : ∃ q, l[k - 1]? = some q := ⟨l[k - 1]'(by omega), List.getElem?_eq_getElem (by omega)⟩
            have hc2 := cell_alloc (hcells _ _ (propCells_get hq).1) hbl (.cells #[.string a, .string v] 63)
            have hpv : prevP l k = some q.1 := by unfold prevP; rw [if_neg h0, hq]; rfl
            have d2 : decide (0 < k) = true := decide_eq_true (by omega)
            cases hq2 : ltS q.1 a with
            | true =>
              have d3 : (Op.bytesLess a.toList q.1.toList || a.toList == q.1.toList) = false := by rw [leqB, hq2]; rfl
              have HZ : Hid (propsB none l = propsB (prevP l (k + 1)) (l.drop (k + 1))) := Lib.hid (by rw [HD.out, hw, decide_eq_true hz, hpv]; simp only [aboveB]; rw [hq2]; rfl)
              clear HD hw hpv hq2 hq hp
              go_wp2_with fail
              go_quiet ((go_at_call 94; exact quiet_says (word_is _ _ _ HS1.out HW.out)))
              go_wp2_with fail
              go_roundw
              case rel => exact ⟨k + 1, by omega, by go_num, HZ, HBel.out.trans ((below_drewN HGO.out _).mono HBel.out.size)⟩
              case measure => simp [intOf]; omega
            | false =>
              have d3 : (Op.bytesLess a.toList q.1.toList || a.toList == q.1.toList) = true := by rw [leqB, hq2]; rfl
              have HZ : Hid (propsB none l = false) := Lib.hid (by rw [HD.out, hw, decide_eq_true hz, hpv]; simp only [aboveB]; rw [hq2]; rfl)
              clear HD hw hpv hq2 hq hp
              go_wp2_with fail
              go_quiet ((go_at_call 94; exact quiet_says (word_is _ _ _ HS1.out HW.out)))
              go_wp2_with fail
              go_ret
              exact ret_b HZ.out rfl (HBel.out.trans ((below_drewN HGO.out _).mono HBel.out.size))
        · have d1 : decide ((4096 : Int) < (v.size : Int)) = true := decide_eq_true (by omega)
          have HZ : Hid (propsB none l = false) := Lib.hid (by rw [HD.out, decide_eq_false hz]; simp)
          clear HD hw
          go_wp2_with fail
          go_quiet ((go_at_call 94; exact quiet_says (word_is _ _ _ HS1.out HW.out)))
          go_wp2_with fail
          go_ret
          exact ret_b HZ.out rfl (HBel.out.trans ((below_drewN HGO.out _).mono HBel.out.size))
    · have HZ : Hid (propsB none l = true) := Lib.hid (by rw [HK.out, List.drop_eq_nil_of_le (by rw [HL.out]; omega)]; cases prevP l k <;> rfl)
      clear HK hbel
      go_wp2_with fail
      go_ret
      exact ret_b HZ.out rfl HBel.out

/-! ### made by gen_W6 -/
set_option maxHeartbeats 1600000 in
theorem refsSpelt_any (w : World) (hi : Nat) (next : Int) (A : Option Addr) (n c : Nat) (l : List (ByteArray × Int)) (h : Row w 0 hi 2 A n c (refCells l)) (hh : hi ≤ w.heap.size) (hs : ∀ p ∈ l, p.1.size ≤ maxLen) :
    Calls Try.prog 124 #[.slice A n c, .int .i64 next] w (Ret w (.bool (refsB next none l))) := by
  have hc := h.2.2.1
  have hnc := h.2.1
  have hl : l.length = n := by have := h.1; rw [refCells_length] at this; omega
  have HL := Lib.hid hl
  unfold maxLen at hc
  go_enter Try.func124, Try.ntmps124
  go_wp2_with fail
  go_loopw [9] (fun i wr => ∃ k : Nat, k ≤ n ∧ i = .int .i64 k ∧ Hid (refsB next none l = refsB next (prevR l k) (l.drop k)) ∧ Below w.heap.size w wr) (fun i _ => n - (intOf i).toNat)
  case atStart => exact ⟨0, by omega, rfl, Lib.hid rfl, Below.refl _ _⟩
  case round =>
    obtain ⟨k, hk, rfl, HK, hbel⟩ := hrel
    have HBel := Lib.hid hbel
    by_cases hlt : k < n
    · obtain ⟨b, o, rfl, _, hb, hcells⟩ := (h.below (hbel.mono hh)).at_ (by omega)
      have hbl : b < wr.heap.size := by have := hbel.size; omega
      obtain ⟨p, hp⟩ : ∃ p, l[k]? = some p := ⟨l[k]'(by omega), List.getElem?_eq_getElem (by omega)⟩
      have hc0 := hcells _ _ (refCells_get hp).1
      have hc1 := hcells _ _ (refCells_get hp).2
      have hc1 : wr.cell? ⟨b, o + k * 2 + 1, none⟩ = some (.int .i64 p.2) := by rw [Nat.add_assoc]; exact hc1
      have s1 := hs p (List.mem_of_getElem? hp)
      have hd : l.drop k = p :: l.drop (k + 1) := by
        obtain ⟨hl', rfl⟩ := List.getElem?_eq_some_iff.1 hp
        exact List.drop_eq_getElem_cons hl'
      have hpv : prevR l (k + 1) = some p.1 := by unfold prevR; rw [if_neg (by omega), Nat.add_sub_cancel, hp]; rfl
      have HD : Hid (refsB next none l = (wordB p.1 && decide (1 ≤ p.2) && decide (p.2 < next) && aboveB (prevR l k) p.1 && refsB next (prevR l (k + 1)) (l.drop (k + 1)))) := Lib.hid (by rw [HK.out, hd, refsB, hpv])
      clear HK hd hpv hbel
      obtain ⟨a, v⟩ := p
      simp only at hc0 hc1 s1 HD
      have HS1 := Lib.hid s1
      have hgo := below_box wr (.cells #[.string a, .int .i64 v] 65)
      have HGO := Lib.hid hgo
      clear s1 hgo
      cases hw : wordB a with
      | false =>
        have HW := Lib.hid hw
        have HZ : Hid (refsB next none l = false) := Lib.hid (by rw [HD.out, hw]; rfl)
        clear HD hw
        go_wp2_with fail
        go_quiet ((go_at_call 94; exact quiet_says (word_is _ _ _ HS1.out HW.out)))
        go_wp2_with fail
        go_ret
        exact ret_b HZ.out rfl (HBel.out.trans ((below_drewN HGO.out _).mono HBel.out.size))
      | true =>
        have HW := Lib.hid hw
        by_cases hz : 1 ≤ v
        · by_cases hy : v < next
          · have d1 : decide (v < 1) = false := decide_eq_false (by omega)
            have d1' : decide (next ≤ v) = false := decide_eq_false (by omega)
            by_cases h0 : k = 0
            · have HZ : Hid (refsB next none l = refsB next (prevR l (k + 1)) (l.drop (k + 1))) := Lib.hid (by rw [HD.out, hw, decide_eq_true hz, decide_eq_true hy, h0]; rfl)
              have d2 : decide (0 < k) = false := decide_eq_false (by omega)
              clear HD hw h0
              go_wp2_with fail
              go_quiet ((go_at_call 94; exact quiet_says (word_is _ _ _ HS1.out HW.out)))
              go_wp2_with fail
              go_roundw
              case rel => exact ⟨k + 1, by omega, by go_num, HZ, HBel.out.trans ((below_drewN HGO.out _).mono HBel.out.size)⟩
              case measure => simp [intOf]; omega
            · obtain ⟨q, hq⟩ : ∃ q, l[k - 1]? = some q := ⟨l[k - 1]'(by omega), List.getElem?_eq_getElem (by omega)⟩
              have hc2 := cell_alloc (hcells _ _ (refCells_get hq).1) hbl (.cells #[.string a, .int .i64 v] 65)
              have hpv : prevR l k = some q.1 := by unfold prevR; rw [if_neg h0, hq]; rfl
              have d2 : decide (0 < k) = true := decide_eq_true (by omega)
              cases hq2 : ltS q.1 a with
              | true =>
                have d3 : (Op.bytesLess a.toList q.1.toList || a.toList == q.1.toList) = false := by rw [leqB, hq2]; rfl
                have HZ : Hid (refsB next none l = refsB next (prevR l (k + 1)) (l.drop (k + 1))) := Lib.hid (by rw [HD.out, hw, decide_eq_true hz, decide_eq_true hy, hpv]; simp only [aboveB]; rw [hq2]; rfl)
                clear HD hw hpv hq2 hq hp
                go_wp2_with fail
                go_quiet ((go_at_call 94; exact quiet_says (word_is _ _ _ HS1.out HW.out)))
                go_wp2_with fail
                go_roundw
                case rel => exact ⟨k + 1, by omega, by go_num, HZ, HBel.out.trans ((below_drewN HGO.out _).mono HBel.out.size)⟩
                case measure => simp [intOf]; omega
              | false =>
                have d3 : (Op.bytesLess a.toList q.1.toList || a.toList == q.1.toList) = true := by rw [leqB, hq2]; rfl
                have HZ : Hid (refsB next none l = false) := Lib.hid (by rw [HD.out, hw, decide_eq_true hz, decide_eq_true hy, hpv]; simp only [aboveB]; rw [hq2]; rfl)
                clear HD hw hpv hq2 hq hp
                go_wp2_with fail
                go_quiet ((go_at_call 94; exact quiet_says (word_is _ _ _ HS1.out HW.out)))
                go_wp2_with fail
                go_ret
                exact ret_b HZ.out rfl (HBel.out.trans ((below_drewN HGO.out _).mono HBel.out.size))
          · have d1 : decide (next ≤ v) = true := decide_eq_true (by omega)
            have d0 : decide (v < 1) = false := decide_eq_false (by omega)
            have HZ : Hid (refsB next none l = false) := Lib.hid (by rw [HD.out, decide_eq_false hy]; simp)
            clear HD hw
            go_wp2_with fail
            go_quiet ((go_at_call 94; exact quiet_says (word_is _ _ _ HS1.out HW.out)))
            go_wp2_with fail
            go_ret
            exact ret_b HZ.out rfl (HBel.out.trans ((below_drewN HGO.out _).mono HBel.out.size))
        · have d1 : decide (v < 1) = true := decide_eq_true (by omega)
          have HZ : Hid (refsB next none l = false) := Lib.hid (by rw [HD.out, decide_eq_false hz]; simp)
          clear HD hw
          go_wp2_with fail
          go_quiet ((go_at_call 94; exact quiet_says (word_is _ _ _ HS1.out HW.out)))
          go_wp2_with fail
          go_ret
          exact ret_b HZ.out rfl (HBel.out.trans ((below_drewN HGO.out _).mono HBel.out.size))
    · have HZ : Hid (refsB next none l = true) := Lib.hid (by rw [HK.out, List.drop_eq_nil_of_le (by rw [HL.out]; omega)]; cases prevR l k <;> rfl)
      clear HK hbel
      go_wp2_with fail
      go_ret
      exact ret_b HZ.out rfl HBel.out

set_option maxHeartbeats 400000 in
theorem roleSpelt_any (w : World) (b o : Nat) (nd : Nd) (L : Leaf) (h : NodeAt w b o nd L) (hs : nd.role.size ≤ maxLen) :
    Calls Try.prog 122 #[.pointer (some ⟨b, o, none⟩)] w (Says w (roleB nd)) := by
  have c2 := h.c2
  have c3 := h.c3
  have HS := Lib.hid hs
  have HR : Hid (roleB nd = if nd.par = 0 then nd.role.toList.isEmpty else wordB nd.role) := Lib.hid rfl
  clear hs
  by_cases h0 : nd.par = 0
  · have d0 : (nd.par == 0) = true := by rw [beq_iff_eq]; exact h0
    have HX : Hid (roleB nd = nd.role.toList.isEmpty) := Lib.hid (by rw [HR.out, if_pos h0])
    clear h0 HR
    go_enter Try.func122, Try.ntmps122
    go_wp2_with fail
    go_ret
    exact ⟨by rw [HX.out]; rfl, rfl⟩
  · have d0 : (nd.par == 0) = false := by rw [beq_eq_false_iff_ne]; exact h0
    have HX : Hid (wordB nd.role = roleB nd) := Lib.hid (by rw [HR.out, if_neg h0])
    clear h0 HR
    go_enter Try.func122, Try.ntmps122
    go_wp2_with (go_at_call 94; refine (word_is _ _ _ HS.out HX.out).mono ?_; rintro e w' ⟨rfl, rfl⟩)
    go_ret
    exact ⟨rfl, rfl⟩
end Go.Proofs.Ytmjkcbhkmkofjaa

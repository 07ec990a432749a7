/-
  WALKS: has, node of the program; the checks of numbers, texts, lists.
  WALKS: roleSpelt, propsSpelt, refsSpelt, spelt of the program.
  WALKS: spelt of the program.
-/
import Derived.Test.YtjjlofaejpnnnaaGreatDoorZO3
namespace Go.Proofs.YtjjlofaejpnnnaaGreatDoor
open Go Go.RowKit
set_option linter.unusedVariables false
theorem rank_ix {nds : List Nd} (hr : Rise nds) {id : Int} {i : Nat} (h : ixOf nds id = some i) : rank nds id = i := by
  obtain ⟨nd, h1, rfl⟩ := ixOf_some h
  exact (rank_fast hr h1).1
set_option maxHeartbeats 400000 in
theorem has_any (w : World) (hi : Nat) (next id : Int) (A : Option Addr) (n c : Nat) (nds : List Nd) (h : NodesIn w 0 hi A n c nds) (hh : hi ≤ w.heap.size) (hr : Rise nds) (hn : n ≤ 4096) :
    Calls Tryz.prog 57 #[.agg #[.int .i64 next, .slice A n c], .int .i64 id] w (Ret w (.bool (ixOf nds id).isSome)) := by
  have hbx := below_box w (mdObj next A n c)
  have HI := Lib.hid (index_any (w.alloc (mdObj next A n c)) hi next id A n c nds (h.below (hbx.mono hh)) (by simp; omega) hr hn)
  unfold mdObj at HI hbx
  have HB := Lib.hid hbx
  clear hbx h
  go_enter Tryz.func57, Tryz.ntmps57
  go_wp2_with (go_at_call 68; refine HI.out.mono ?_; rintro e w' ⟨rfl, hb⟩; unfold ixV)
  go_ret
  exact ret_v rfl (HB.out.trans (hb.mono (by simp)))
set_option maxHeartbeats 400000 in
theorem node_any (w : World) (hi : Nat) (next id : Int) (A : Option Addr) (n c : Nat) (nds : List Nd) (h : NodesIn w 0 hi A n c nds) (hh : hi ≤ w.heap.size) (hr : Rise nds) (hn : n ≤ 4096)
    (p : Value) (hp : match ixOf nds id with | some i => ∃ b o, A = some ⟨b, o, none⟩ ∧ p = .pointer (some ⟨b, o + i * 7, none⟩) | none => p = .pointer none) :
    Calls Tryz.prog 59 #[.agg #[.int .i64 next, .slice A n c], .int .i64 id] w (Ret w p) := by
  have hbx := below_box w (mdObj next A n c)
  have HI := Lib.hid (index_any (w.alloc (mdObj next A n c)) hi next id A n c nds (h.below (hbx.mono hh)) (by simp; omega) hr hn)
  have hc := h.2.2.1
  have hnc := h.2.1
  have hl := h.1
  unfold maxLen at hc
  unfold mdObj at HI hbx
  have HB := Lib.hid hbx
  clear hbx h
  cases hx : ixOf nds id with
  | none =>
    rw [hx] at hp
    have hp : p = .pointer none := hp
    subst hp
    have HS : Hid ((ixOf nds id).isSome = false) := Lib.hid (by rw [hx]; rfl)
    clear hx
    go_enter Tryz.func59, Tryz.ntmps59
    go_wp2_with (go_at_call 68; refine HI.out.mono ?_; rintro e w' ⟨rfl, hb⟩; unfold ixV; rw [HS.out])
    go_ret
    exact ret_v rfl (HB.out.trans (hb.mono (by simp)))
  | some i =>
    rw [hx] at hp
    obtain ⟨b, o, rfl, rfl⟩ := hp
    have hi := ixOf_lt hx
    rw [hl] at hi
    have HS : Hid ((ixOf nds id).isSome = true) := Lib.hid (by rw [hx]; rfl)
    have HR := Lib.hid (rank_ix hr hx)
    clear hx hl
    go_enter Tryz.func59, Tryz.ntmps59
    go_wp2_with (go_at_call 68; refine HI.out.mono ?_; rintro e w' ⟨rfl, hb⟩; unfold ixV; rw [HS.out, HR.out]; obtain ⟨hcl, hfr⟩ := bcell hb)
    go_ret
    exact ret_v rfl (HB.out.trans (hb.mono (by simp)))
set_option maxHeartbeats 800000 in
theorem numbered_any (w : World) (hi : Nat) (next : Int) (A : Option Addr) (n c : Nat) (nds : List Nd) (h : NodesIn w 0 hi A n c nds) (hh : hi ≤ w.heap.size) :
    Calls Tryz.prog 30 #[.agg #[.int .i64 next, .slice A n c]] w (Ret w (.bool (numB next nds))) := by
  have hbx := below_box w (mdObj next A n c)
  unfold mdObj at hbx
  have HB := Lib.hid hbx
  clear hbx
  have hc := h.2.2.1
  have hnc := h.2.1
  have hl := h.1
  unfold maxLen at hc
  have HN : Hid (numB next nds = (headB next nds && idsB next 0 nds)) := Lib.hid rfl
  by_cases h1 : next < 1
  · have d1 : decide (next < 1) = true := decide_eq_true h1
    have HX : Hid (numB next nds = false) := Lib.hid (by rw [HN.out]; unfold headB; rw [decide_eq_false (by omega)]; rfl)
    clear hl
    go_enter Tryz.func30, Tryz.ntmps30
    go_wp2_with fail
    go_ret
    exact ret_b HX.out rfl HB.out
  · have d1 : decide (next < 1) = false := decide_eq_false h1
    by_cases h2 : 1048577 < next
    · have d2 : decide (1048577 < next) = true := decide_eq_true h2
      have HX : Hid (numB next nds = false) := Lib.hid (by rw [HN.out]; unfold headB; rw [decide_eq_false (p := next ≤ 1048577) (by omega)]; simp)
      clear hl
      go_enter Tryz.func30, Tryz.ntmps30
      go_wp2_with fail
      go_ret
      exact ret_b HX.out rfl HB.out
    · have d2 : decide (1048577 < next) = false := decide_eq_false h2
      by_cases h3 : 4096 < n
      · have d3 : decide (4096 < (n : Int)) = true := decide_eq_true (by omega)
        have HX : Hid (numB next nds = false) := Lib.hid (by rw [HN.out]; unfold headB; rw [decide_eq_false (p := nds.length ≤ 4096) (by omega)]; simp)
        clear hl
        go_enter Tryz.func30, Tryz.ntmps30
        go_wp2_with fail
        go_ret
        exact ret_b HX.out rfl HB.out
      · have d3 : decide (4096 < (n : Int)) = false := decide_eq_false (by omega)
        have HX : Hid (numB next nds = idsB next 0 (nds.drop 0)) := Lib.hid (by rw [HN.out]; unfold headB; rw [decide_eq_true (by omega), decide_eq_true (p := next ≤ 1048577) (by omega), decide_eq_true (p := nds.length ≤ 4096) (by omega)]; simp)
        have HL := Lib.hid hl
        clear hl HN
        go_enter Tryz.func30, Tryz.ntmps30
        go_wp2_with fail
        go_loop [3, 23] (fun l i => ∃ (k : Nat) (x : Int), k ≤ n ∧ i = .int .i64 k ∧ l = .int .i64 x ∧ Hid (numB next nds = idsB next x (nds.drop k))) (fun _ i => n - (intOf i).toNat)
        case atStart => exact ⟨0, 0, by omega, rfl, rfl, HX⟩
        case round =>
          obtain ⟨k, x, hk, rfl, rfl, HK⟩ := hrel
          by_cases hlt : k < n
          · obtain ⟨b, o, nd, L, rfl, _, hb, hnd, hat, _⟩ := h.at_ hlt
            have hcl := cell_alloc hat.c0 (Nat.lt_of_lt_of_le hb hh) (mdObj next (some ⟨b, o, none⟩) n c)
            unfold mdObj at hcl
            have hd : nds.drop k = nd :: nds.drop (k + 1) := by
              obtain ⟨hl', rfl⟩ := List.getElem?_eq_some_iff.1 hnd
              exact List.drop_eq_getElem_cons hl'
            have HD : Hid (numB next nds = (decide (x < nd.id) && decide (nd.id < next) && idsB next nd.id (nds.drop (k + 1)))) := Lib.hid (by rw [HK.out, hd, idsB])
            clear hd hnd hat HK
            by_cases g1 : nd.id ≤ x
            · have e1 : decide (nd.id ≤ x) = true := decide_eq_true g1
              have HZ : Hid (numB next nds = false) := Lib.hid (by rw [HD.out, decide_eq_false (by omega)]; rfl)
              clear HD
              go_wp2_with fail
              go_ret
              exact ret_b HZ.out rfl HB.out
            · have e1 : decide (nd.id ≤ x) = false := decide_eq_false g1
              by_cases g2 : next ≤ nd.id
              · have e2 : decide (next ≤ nd.id) = true := decide_eq_true g2
                have HZ : Hid (numB next nds = false) := Lib.hid (by rw [HD.out, decide_eq_false (p := nd.id < next) (by omega)]; simp)
                clear HD
                go_wp2_with fail
                go_ret
                exact ret_b HZ.out rfl HB.out
              · have e2 : decide (next ≤ nd.id) = false := decide_eq_false g2
                have HZ : Hid (numB next nds = idsB next nd.id (nds.drop (k + 1))) := Lib.hid (by rw [HD.out, decide_eq_true (by omega), decide_eq_true (p := nd.id < next) (by omega)]; rfl)
                clear HD
                go_wp2_with fail
                go_round
                case rel => exact ⟨k + 1, nd.id, by omega, by go_num, rfl, HZ⟩
                case measure => simp [intOf]; omega
          · have HZ : Hid (numB next nds = true) := Lib.hid (by rw [HK.out, List.drop_eq_nil_of_le (by rw [HL.out]; omega)]; rfl)
            clear HK
            go_wp2_with fail
            go_ret
            exact ret_b HZ.out rfl HB.out
end Go.Proofs.YtjjlofaejpnnnaaGreatDoor
namespace Go.Proofs.YtjjlofaejpnnnaaGreatDoor
open Go Go.RowKit Go.Sort
set_option linter.unusedVariables false
theorem quiet_says {P : Program} {f : FuncId} {args : Array Value} {w : World} {n : Nat} {b : Bool} (h : Calls P f args (w.drewN n) (Says (w.drewN n) b)) : Calls P f args (w.drewN n) fun e w'' => e = .returned (.bool b) ∧ ∃ m, w'' = w.drewN m :=
  h.mono fun e w' ⟨he, hw⟩ => ⟨he, n, hw.symm⟩
def prevP (l : List (ByteArray × ByteArray)) (k : Nat) : Option ByteArray := if k = 0 then none else (l[k - 1]?).map (·.1)
def prevR (l : List (ByteArray × Int)) (k : Nat) : Option ByteArray := if k = 0 then none else (l[k - 1]?).map (·.1)
theorem leqB {a q : ByteArray} : (Op.bytesLess a.toList q.toList || a.toList == q.toList) = !ltS q a := by rw [leq_not]; rfl
set_option maxHeartbeats 1600000 in
theorem propsSpelt_any (w : World) (hi : Nat) (A : Option Addr) (n c : Nat) (l : List (ByteArray × ByteArray)) (h : Row w 0 hi 2 A n c (propCells l)) (hh : hi ≤ w.heap.size) (hs : ∀ p ∈ l, p.1.size ≤ maxLen ∧ p.2.size ≤ maxLen) :
    Calls Tryz.prog 66 #[.slice A n c] w (Ret w (.bool (propsB none l))) := by
  have hc := h.2.2.1
  have hnc := h.2.1
  have hl : l.length = n := by have := h.1; rw [propCells_length] at this; omega
  have HL := Lib.hid hl
  unfold maxLen at hc
  go_enter Tryz.func66, Tryz.ntmps66
  go_wp2_with fail
  go_loopw [7] (fun i wr => ∃ k : Nat, k ≤ n ∧ i = .int .i64 k ∧ Hid (propsB none l = propsB (prevP l k) (l.drop k)) ∧ Below w.heap.size w wr) (fun i _ => n - (intOf i).toNat)
  case atStart => exact ⟨0, by omega, rfl, Lib.hid rfl, Below.refl _ _⟩
  case round =>
    obtain ⟨k, hk, rfl, HK, hbel⟩ := hrel
    have HBel := Lib.hid hbel
    by_cases hlt : k < n
    · obtain ⟨b, o, rfl, _, hb, hcells⟩ := (h.below (hbel.mono hh)).at_ (by omega)
      have hbl : b < wr.heap.size := by have := hbel.size; omega
      obtain ⟨p, hp⟩ : ∃ p, l[k]? = some p := ⟨l[k]'(by omega), List.getElem?_eq_getElem (by omega)⟩
      have hc0 := hcells _ _ (propCells_get hp).1
      have hc1 := hcells _ _ (propCells_get hp).2
      have hc1 : wr.cell? ⟨b, o + k * 2 + 1, none⟩ = some (.string p.2) := by rw [Nat.add_assoc]; exact hc1
      obtain ⟨s1, s2⟩ := hs p (List.mem_of_getElem? hp)
      unfold maxLen at s2
      have hd : l.drop k = p :: l.drop (k + 1) := by
        obtain ⟨hl', rfl⟩ := List.getElem?_eq_some_iff.1 hp
        exact List.drop_eq_getElem_cons hl'
      have hpv : prevP l (k + 1) = some p.1 := by unfold prevP; rw [if_neg (by omega), Nat.add_sub_cancel, hp]; rfl
      have HD : Hid (propsB none l = (wordB p.1 && decide (p.2.size ≤ 4096) && aboveB (prevP l k) p.1 && propsB (prevP l (k + 1)) (l.drop (k + 1)))) := Lib.hid (by rw [HK.out, hd, propsB, hpv])
      clear HK hd hpv hbel
      obtain ⟨a, v⟩ := p
      simp only at hc0 hc1 s1 s2 HD
      have HS1 := Lib.hid s1
      have hgo := below_box wr (.cells #[.string a, .string v] 60)
      have HGO := Lib.hid hgo
      clear s1 hgo
      cases hw : wordB a with
      | false =>
        have HW := Lib.hid hw
        have HZ : Hid (propsB none l = false) := Lib.hid (by rw [HD.out, hw]; rfl)
        clear HD hw
        go_wp2_with fail
        go_quiet ((go_at_call 64; exact quiet_says (word_is _ _ _ HS1.out HW.out)))
        go_wp2_with fail
        go_ret
        exact ret_b HZ.out rfl (HBel.out.trans ((below_drewN HGO.out _).mono HBel.out.size))
      | true =>
        have HW := Lib.hid hw
        by_cases hz : v.size ≤ 4096
        · have d1 : decide ((4096 : Int) < (v.size : Int)) = false := decide_eq_false (by omega)
          by_cases h0 : k = 0
          · have HZ : Hid (propsB none l = propsB (prevP l (k + 1)) (l.drop (k + 1))) := Lib.hid (by rw [HD.out, hw, decide_eq_true hz, h0]; rfl)
            have d2 : decide (0 < k) = false := decide_eq_false (by omega)
            clear HD hw h0
            go_wp2_with fail
            go_quiet ((go_at_call 64; exact quiet_says (word_is _ _ _ HS1.out HW.out)))
            go_wp2_with fail
            go_roundw
            case rel => exact ⟨k + 1, by omega, by go_num, HZ, HBel.out.trans ((below_drewN HGO.out _).mono HBel.out.size)⟩
            case measure => simp [intOf]; omega
          · obtain ⟨q, hq⟩ : ∃ q, l[k - 1]? = some q := ⟨l[k - 1]'(by omega), List.getElem?_eq_getElem (by omega)⟩
            have hc2 := cell_alloc (hcells _ _ (propCells_get hq).1) hbl (.cells #[.string a, .string v] 60)
            have hpv : prevP l k = some q.1 := by unfold prevP; rw [if_neg h0, hq]; rfl
            have d2 : decide (0 < k) = true := decide_eq_true (by omega)
            cases hq2 : ltS q.1 a with
            | true =>
              have d3 : (Op.bytesLess a.toList q.1.toList || a.toList == q.1.toList) = false := by rw [leqB, hq2]; rfl
              have HZ : Hid (propsB none l = propsB (prevP l (k + 1)) (l.drop (k + 1))) := Lib.hid (by rw [HD.out, hw, decide_eq_true hz, hpv]; simp only [aboveB]; rw [hq2]; rfl)
              clear HD hw hpv hq2 hq hp
              go_wp2_with fail
              go_quiet ((go_at_call 64; exact quiet_says (word_is _ _ _ HS1.out HW.out)))
              go_wp2_with fail
              go_roundw
              case rel => exact ⟨k + 1, by omega, by go_num, HZ, HBel.out.trans ((below_drewN HGO.out _).mono HBel.out.size)⟩
              case measure => simp [intOf]; omega
            | false =>
              have d3 : (Op.bytesLess a.toList q.1.toList || a.toList == q.1.toList) = true := by rw [leqB, hq2]; rfl
              have HZ : Hid (propsB none l = false) := Lib.hid (by rw [HD.out, hw, decide_eq_true hz, hpv]; simp only [aboveB]; rw [hq2]; rfl)
              clear HD hw hpv hq2 hq hp
              go_wp2_with fail
              go_quiet ((go_at_call 64; exact quiet_says (word_is _ _ _ HS1.out HW.out)))
              go_wp2_with fail
              go_ret
              exact ret_b HZ.out rfl (HBel.out.trans ((below_drewN HGO.out _).mono HBel.out.size))
        · have d1 : decide ((4096 : Int) < (v.size : Int)) = true := decide_eq_true (by omega)
          have HZ : Hid (propsB none l = false) := Lib.hid (by rw [HD.out, decide_eq_false hz]; simp)
          clear HD hw
          go_wp2_with fail
          go_quiet ((go_at_call 64; exact quiet_says (word_is _ _ _ HS1.out HW.out)))
          go_wp2_with fail
          go_ret
          exact ret_b HZ.out rfl (HBel.out.trans ((below_drewN HGO.out _).mono HBel.out.size))
    · have HZ : Hid (propsB none l = true) := Lib.hid (by rw [HK.out, List.drop_eq_nil_of_le (by rw [HL.out]; omega)]; cases prevP l k <;> rfl)
      clear HK hbel
      go_wp2_with fail
      go_ret
      exact ret_b HZ.out rfl HBel.out
set_option maxHeartbeats 1600000 in
theorem refsSpelt_any (w : World) (hi : Nat) (next : Int) (A : Option Addr) (n c : Nat) (l : List (ByteArray × Int)) (h : Row w 0 hi 2 A n c (refCells l)) (hh : hi ≤ w.heap.size) (hs : ∀ p ∈ l, p.1.size ≤ maxLen) :
    Calls Tryz.prog 67 #[.slice A n c, .int .i64 next] w (Ret w (.bool (refsB next none l))) := by
  have hc := h.2.2.1
  have hnc := h.2.1
  have hl : l.length = n := by have := h.1; rw [refCells_length] at this; omega
  have HL := Lib.hid hl
  unfold maxLen at hc
  go_enter Tryz.func67, Tryz.ntmps67
  go_wp2_with fail
  go_loopw [9] (fun i wr => ∃ k : Nat, k ≤ n ∧ i = .int .i64 k ∧ Hid (refsB next none l = refsB next (prevR l k) (l.drop k)) ∧ Below w.heap.size w wr) (fun i _ => n - (intOf i).toNat)
  case atStart => exact ⟨0, by omega, rfl, Lib.hid rfl, Below.refl _ _⟩
  case round =>
    obtain ⟨k, hk, rfl, HK, hbel⟩ := hrel
    have HBel := Lib.hid hbel
    by_cases hlt : k < n
    · obtain ⟨b, o, rfl, _, hb, hcells⟩ := (h.below (hbel.mono hh)).at_ (by omega)
      have hbl : b < wr.heap.size := by have := hbel.size; omega
      obtain ⟨p, hp⟩ : ∃ p, l[k]? = some p := ⟨l[k]'(by omega), List.getElem?_eq_getElem (by omega)⟩
      have hc0 := hcells _ _ (refCells_get hp).1
      have hc1 := hcells _ _ (refCells_get hp).2
      have hc1 : wr.cell? ⟨b, o + k * 2 + 1, none⟩ = some (.int .i64 p.2) := by rw [Nat.add_assoc]; exact hc1
      have s1 := hs p (List.mem_of_getElem? hp)
      have hd : l.drop k = p :: l.drop (k + 1) := by
        obtain ⟨hl', rfl⟩ := List.getElem?_eq_some_iff.1 hp
        exact List.drop_eq_getElem_cons hl'
      have hpv : prevR l (k + 1) = some p.1 := by unfold prevR; rw [if_neg (by omega), Nat.add_sub_cancel, hp]; rfl
      have HD : Hid (refsB next none l = (wordB p.1 && decide (1 ≤ p.2) && decide (p.2 < next) && aboveB (prevR l k) p.1 && refsB next (prevR l (k + 1)) (l.drop (k + 1)))) := Lib.hid (by rw [HK.out, hd, refsB, hpv])
      clear HK hd hpv hbel
      obtain ⟨a, v⟩ := p
      simp only at hc0 hc1 s1 HD
      have HS1 := Lib.hid s1
      have hgo := below_box wr (.cells #[.string a, .int .i64 v] 62)
      have HGO := Lib.hid hgo
      clear s1 hgo
      cases hw : wordB a with
      | false =>
        have HW := Lib.hid hw
        have HZ : Hid (refsB next none l = false) := Lib.hid (by rw [HD.out, hw]; rfl)
        clear HD hw
        go_wp2_with fail
        go_quiet ((go_at_call 64; exact quiet_says (word_is _ _ _ HS1.out HW.out)))
        go_wp2_with fail
        go_ret
        exact ret_b HZ.out rfl (HBel.out.trans ((below_drewN HGO.out _).mono HBel.out.size))
      | true =>
        have HW := Lib.hid hw
        by_cases hz : 1 ≤ v
        · by_cases hy : v < next
          · have d1 : decide (v < 1) = false := decide_eq_false (by omega)
            have d1' : decide (next ≤ v) = false := decide_eq_false (by omega)
            by_cases h0 : k = 0
            · have HZ : Hid (refsB next none l = refsB next (prevR l (k + 1)) (l.drop (k + 1))) := Lib.hid (by rw [HD.out, hw, decide_eq_true hz, decide_eq_true hy, h0]; rfl)
              have d2 : decide (0 < k) = false := decide_eq_false (by omega)
              clear HD hw h0
              go_wp2_with fail
              go_quiet ((go_at_call 64; exact quiet_says (word_is _ _ _ HS1.out HW.out)))
              go_wp2_with fail
              go_roundw
              case rel => exact ⟨k + 1, by omega, by go_num, HZ, HBel.out.trans ((below_drewN HGO.out _).mono HBel.out.size)⟩
              case measure => simp [intOf]; omega
            · obtain ⟨q, hq⟩ : ∃ q, l[k - 1]? = some q := ⟨l[k - 1]'(by omega), List.getElem?_eq_getElem (by omega)⟩
              have hc2 := cell_alloc (hcells _ _ (refCells_get hq).1) hbl (.cells #[.string a, .int .i64 v] 62)
              have hpv : prevR l k = some q.1 := by unfold prevR; rw [if_neg h0, hq]; rfl
              have d2 : decide (0 < k) = true := decide_eq_true (by omega)
              cases hq2 : ltS q.1 a with
              | true =>
                have d3 : (Op.bytesLess a.toList q.1.toList || a.toList == q.1.toList) = false := by rw [leqB, hq2]; rfl
                have HZ : Hid (refsB next none l = refsB next (prevR l (k + 1)) (l.drop (k + 1))) := Lib.hid (by rw [HD.out, hw, decide_eq_true hz, decide_eq_true hy, hpv]; simp only [aboveB]; rw [hq2]; rfl)
                clear HD hw hpv hq2 hq hp
                go_wp2_with fail
                go_quiet ((go_at_call 64; exact quiet_says (word_is _ _ _ HS1.out HW.out)))
                go_wp2_with fail
                go_roundw
                case rel => exact ⟨k + 1, by omega, by go_num, HZ, HBel.out.trans ((below_drewN HGO.out _).mono HBel.out.size)⟩
                case measure => simp [intOf]; omega
              | false =>
                have d3 : (Op.bytesLess a.toList q.1.toList || a.toList == q.1.toList) = true := by rw [leqB, hq2]; rfl
                have HZ : Hid (refsB next none l = false) := Lib.hid (by rw [HD.out, hw, decide_eq_true hz, decide_eq_true hy, hpv]; simp only [aboveB]; rw [hq2]; rfl)
                clear HD hw hpv hq2 hq hp
                go_wp2_with fail
                go_quiet ((go_at_call 64; exact quiet_says (word_is _ _ _ HS1.out HW.out)))
                go_wp2_with fail
                go_ret
                exact ret_b HZ.out rfl (HBel.out.trans ((below_drewN HGO.out _).mono HBel.out.size))
          · have d1 : decide (next ≤ v) = true := decide_eq_true (by omega)
            have d0 : decide (v < 1) = false := decide_eq_false (by omega)
            have HZ : Hid (refsB next none l = false) := Lib.hid (by rw [HD.out, decide_eq_false hy]; simp)
            clear HD hw
            go_wp2_with fail
            go_quiet ((go_at_call 64; exact quiet_says (word_is _ _ _ HS1.out HW.out)))
            go_wp2_with fail
            go_ret
            exact ret_b HZ.out rfl (HBel.out.trans ((below_drewN HGO.out _).mono HBel.out.size))
        · have d1 : decide (v < 1) = true := decide_eq_true (by omega)
          have HZ : Hid (refsB next none l = false) := Lib.hid (by rw [HD.out, decide_eq_false hz]; simp)
          clear HD hw
          go_wp2_with fail
          go_quiet ((go_at_call 64; exact quiet_says (word_is _ _ _ HS1.out HW.out)))
          go_wp2_with fail
          go_ret
          exact ret_b HZ.out rfl (HBel.out.trans ((below_drewN HGO.out _).mono HBel.out.size))
    · have HZ : Hid (refsB next none l = true) := Lib.hid (by rw [HK.out, List.drop_eq_nil_of_le (by rw [HL.out]; omega)]; cases prevR l k <;> rfl)
      clear HK hbel
      go_wp2_with fail
      go_ret
      exact ret_b HZ.out rfl HBel.out
set_option maxHeartbeats 400000 in
theorem roleSpelt_any (w : World) (b o : Nat) (nd : Nd) (L : Leaf) (h : NodeAt w b o nd L) (hs : nd.role.size ≤ maxLen) :
    Calls Tryz.prog 65 #[.pointer (some ⟨b, o, none⟩)] w (Says w (roleB nd)) := by
  have c2 := h.c2
  have c3 := h.c3
  have HS := Lib.hid hs
  have HR : Hid (roleB nd = if nd.par = 0 then nd.role.toList.isEmpty else wordB nd.role) := Lib.hid rfl
  clear hs
  by_cases h0 : nd.par = 0
  · have d0 : (nd.par == 0) = true := by rw [beq_iff_eq]; exact h0
    have HX : Hid (roleB nd = nd.role.toList.isEmpty) := Lib.hid (by rw [HR.out, if_pos h0])
    clear h0 HR
    go_enter Tryz.func65, Tryz.ntmps65
    go_wp2_with fail
    go_ret
    exact ⟨by rw [HX.out]; rfl, rfl⟩
  · have d0 : (nd.par == 0) = false := by rw [beq_eq_false_iff_ne]; exact h0
    have HX : Hid (wordB nd.role = roleB nd) := Lib.hid (by rw [HR.out, if_neg h0])
    clear h0 HR
    go_enter Tryz.func65, Tryz.ntmps65
    go_wp2_with (go_at_call 64; refine (word_is _ _ _ HS.out HX.out).mono ?_; rintro e w' ⟨rfl, rfl⟩)
    go_ret
    exact ⟨rfl, rfl⟩
end Go.Proofs.YtjjlofaejpnnnaaGreatDoor
namespace Go.Proofs.YtjjlofaejpnnnaaGreatDoor
open Go Go.RowKit Go.Sort
set_option linter.unusedVariables false
theorem regrown_ret {P : Program} {f : FuncId} {args : Array Value} {w : World} {d : Nat} {os : Array Obj} {v : Value} (h : Calls P f args (grow (redrawn w d) os) (Ret (grow (redrawn w d) os) v)) :
    Calls P f args (grow (redrawn w d) os) fun e w'' => e = .returned v ∧ ∃ p : Regrown, w'' = grow (redrawn w p.d) p.os := Calls.regrown_of h
theorem size_mdObj (w : World) (next : Int) (A : Option Addr) (n c : Nat) : (w.alloc (mdObj next A n c)).heap.size = w.heap.size + 1 := by simp
theorem md_cells (w : World) (next : Int) (A : Option Addr) (n c : Nat) : (w.alloc (mdObj next A n c)).cell? ⟨w.heap.size, 0, none⟩ = some (.int .i64 next) ∧ (w.alloc (mdObj next A n c)).cell? ⟨w.heap.size, 1, none⟩ = some (.slice A n c) :=
  ⟨World.cell?_alloc_at (hn := rfl) .., World.cell?_alloc_at (hn := rfl) ..⟩
set_option maxHeartbeats 3200000 in
theorem spelt_any (w : World) (hi : Nat) (next : Int) (A : Option Addr) (n c : Nat) (nds : List Nd) (h : NodesIn w 0 hi A n c nds) (hh : hi ≤ w.heap.size) :
    Calls Tryz.prog 31 #[.agg #[.int .i64 next, .slice A n c]] w (Ret w (.bool (nds.all (speltB next)))) := by
  have hbx := below_box w (mdObj next A n c)
  have hmc := md_cells w next A n c
  have hsz := size_mdObj w next A n c
  have HSZ := Lib.hid hsz
  have hc := h.2.2.1
  have hnc := h.2.1
  have HL := Lib.hid h.1
  unfold maxLen at hc
  have HB0 := Lib.hid hbx
  have HMC := Lib.hid hmc
  obtain ⟨W0, hW0⟩ : ∃ W0, W0 = w.alloc (mdObj next A n c) := ⟨_, rfl⟩
  rw [← hW0] at HB0 HMC HSZ
  unfold mdObj at hW0
  clear hbx hmc hsz
  go_enter Tryz.func31, Tryz.ntmps31
  go_wp2_with fail
  rw [← hW0]
  have HW0 := Lib.hid hW0
  clear hW0
  go_loopw [8] (fun i wr => ∃ k : Nat, k ≤ n ∧ i = .int .i64 k ∧ Hid (nds.all (speltB next) = (nds.drop k).all (speltB next)) ∧ Below W0.heap.size W0 wr) (fun i _ => n - (intOf i).toNat)
  case atStart => exact ⟨0, by omega, rfl, Lib.hid rfl, Below.refl _ _⟩
  case round =>
    obtain ⟨k, hk, rfl, HK, hbel⟩ := hrel
    have HBel := Lib.hid hbel
    have hz0 := HSZ.out
    have hm0 : wr.cell? ⟨w.heap.size, 0, none⟩ = some (.int .i64 next) := (hbel.cell (p := ⟨_, _, none⟩) (by show w.heap.size < _; omega)).trans HMC.out.1
    have hm1 : wr.cell? ⟨w.heap.size, 1, none⟩ = some (.slice A n c) := (hbel.cell (p := ⟨_, _, none⟩) (by show w.heap.size < _; omega)).trans HMC.out.2
    by_cases hlt : k < n
    · have hin := (h.below (HB0.out.mono hh)).below (hbel.mono (by omega))
      obtain ⟨b, o, nd, L, rfl, _, hb, hnd, hat, hlf⟩ := hin.at_ hlt
      have hd : nds.drop k = nd :: nds.drop (k + 1) := by
        obtain ⟨hl', rfl⟩ := List.getElem?_eq_some_iff.1 hnd
        exact List.drop_eq_getElem_cons hl'
      have hwz : W0.heap.size ≤ wr.heap.size := hbel.size
      have q0 := cell_regrown hm0
      have q1 := cell_regrown hm1
      have q2 := cell_regrown hat.c1
      have q4 := cell_regrown hat.c4
      have q6 := cell_regrown hat.c6
      have hRo : ∀ d os, Calls Tryz.prog 65 #[.pointer (some ⟨b, o + k * 7, none⟩)] (grow (redrawn wr d) os) (Says (grow (redrawn wr d) os) (roleB nd)) := fun d os => roleSpelt_any _ b (o + k * 7) nd L (hat.below (below_regrown wr d os) (by omega)) hlf.sz.role
      have hPr : ∀ d os, Calls Tryz.prog 66 #[.slice L.p.A L.p.n L.p.c] (grow (redrawn wr d) os) (Ret (grow (redrawn wr d) os) (.bool (propsB none nd.props))) := fun d os => propsSpelt_any _ hi L.p.A L.p.n L.p.c nd.props (hlf.p.below ((below_regrown wr d os).mono (by omega))) (by have := (below_regrown wr d os).size; omega) hlf.sz.props
      have hRe : ∀ d os, Calls Tryz.prog 67 #[.slice L.r.A L.r.n L.r.c, .int .i64 next] (grow (redrawn wr d) os) (Ret (grow (redrawn wr d) os) (.bool (refsB next none nd.refs))) := fun d os => refsSpelt_any _ hi next L.r.A L.r.n L.r.c nd.refs (hlf.r.below ((below_regrown wr d os).mono (by omega))) (by have := (below_regrown wr d os).size; omega) hlf.sz.refs
      have HS1 := Lib.hid hlf.sz.con
      have HD : Hid (nds.all (speltB next) = (wordB nd.con && roleB nd && propsB none nd.props && refsB next none nd.refs && (nds.drop (k + 1)).all (speltB next))) := Lib.hid (by rw [HK.out, hd, List.all_cons]; rfl)
      obtain ⟨cw, hw⟩ : ∃ x, wordB nd.con = x := ⟨_, rfl⟩
      obtain ⟨cr, hr⟩ : ∃ x, roleB nd = x := ⟨_, rfl⟩
      obtain ⟨cp, hp⟩ : ∃ x, propsB none nd.props = x := ⟨_, rfl⟩
      obtain ⟨cf, hf⟩ : ∃ x, refsB next none nd.refs = x := ⟨_, rfl⟩
      rw [hr] at hRo
      rw [hp] at hPr
      rw [hf] at hRe
      rw [hw, hr, hp, hf] at HD
      have HW := Lib.hid hw
      have HRo := Lib.hid hRo
      have HPr := Lib.hid hPr
      have HRe := Lib.hid hRe
      clear hw hr hp hf hRo hPr hRe hd hnd hat hlf hin HK hbel
      cases cw with
      | false =>
        have HZ : Hid (nds.all (speltB next) = false) := Lib.hid (by rw [HD.out]; simp)
        clear HD
        go_wp2_with fail
        refine wp_region_quiet_below (by kernel_rfl) (by kernel_rfl) ?_
        repeat (go_big_quiet_step (first | (go_at_call 64; exact regrown_ret (says_ret (word_is _ _ _ HS1.out HW.out))) | (go_at_call 65; exact regrown_ret (says_ret (HRo.out _ _))) | (go_at_call 66; exact regrown_ret (HPr.out _ _)) | (go_at_call 67; exact regrown_ret (HRe.out _ _))))
        refine wpQuiet_nil ?_
        intro _ hw'
        obtain ⟨⟨dq, osq⟩, hw''⟩ := hw'
        subst hw''
        have hb2 := below_regrown wr dq osq
        generalize grow (redrawn wr dq) osq = w2 at hb2 ⊢
        go_wp2_with fail
        go_ret
        exact ret_b HZ.out rfl (HB0.out.trans ((HBel.out.trans (hb2.mono HBel.out.size)).mono (by omega)))
      | true =>
        cases cr with
        | false =>
          have HZ : Hid (nds.all (speltB next) = false) := Lib.hid (by rw [HD.out]; simp)
          clear HD
          go_wp2_with fail
          refine wp_region_quiet_below (by kernel_rfl) (by kernel_rfl) ?_
          repeat (go_big_quiet_step (first | (go_at_call 64; exact regrown_ret (says_ret (word_is _ _ _ HS1.out HW.out))) | (go_at_call 65; exact regrown_ret (says_ret (HRo.out _ _))) | (go_at_call 66; exact regrown_ret (HPr.out _ _)) | (go_at_call 67; exact regrown_ret (HRe.out _ _))))
          refine wpQuiet_nil ?_
          intro _ hw'
          obtain ⟨⟨dq, osq⟩, hw''⟩ := hw'
          subst hw''
          have hb2 := below_regrown wr dq osq
          generalize grow (redrawn wr dq) osq = w2 at hb2 ⊢
          go_wp2_with fail
          go_ret
          exact ret_b HZ.out rfl (HB0.out.trans ((HBel.out.trans (hb2.mono HBel.out.size)).mono (by omega)))
        | true =>
          cases cp with
          | false =>
            have HZ : Hid (nds.all (speltB next) = false) := Lib.hid (by rw [HD.out]; simp)
            clear HD
            go_wp2_with fail
            refine wp_region_quiet_below (by kernel_rfl) (by kernel_rfl) ?_
            repeat (go_big_quiet_step (first | (go_at_call 64; exact regrown_ret (says_ret (word_is _ _ _ HS1.out HW.out))) | (go_at_call 65; exact regrown_ret (says_ret (HRo.out _ _))) | (go_at_call 66; exact regrown_ret (HPr.out _ _)) | (go_at_call 67; exact regrown_ret (HRe.out _ _))))
            refine wpQuiet_nil ?_
            intro _ hw'
            obtain ⟨⟨dq, osq⟩, hw''⟩ := hw'
            subst hw''
            have hb2 := below_regrown wr dq osq
            generalize grow (redrawn wr dq) osq = w2 at hb2 ⊢
            go_wp2_with fail
            go_ret
            exact ret_b HZ.out rfl (HB0.out.trans ((HBel.out.trans (hb2.mono HBel.out.size)).mono (by omega)))
          | true =>
            cases cf with
            | false =>
              have HZ : Hid (nds.all (speltB next) = false) := Lib.hid (by rw [HD.out]; simp)
              clear HD
              go_wp2_with fail
              refine wp_region_quiet_below (by kernel_rfl) (by kernel_rfl) ?_
              repeat (go_big_quiet_step (first | (go_at_call 64; exact regrown_ret (says_ret (word_is _ _ _ HS1.out HW.out))) | (go_at_call 65; exact regrown_ret (says_ret (HRo.out _ _))) | (go_at_call 66; exact regrown_ret (HPr.out _ _)) | (go_at_call 67; exact regrown_ret (HRe.out _ _))))
              refine wpQuiet_nil ?_
              intro _ hw'
              obtain ⟨⟨dq, osq⟩, hw''⟩ := hw'
              subst hw''
              have hb2 := below_regrown wr dq osq
              generalize grow (redrawn wr dq) osq = w2 at hb2 ⊢
              go_wp2_with fail
              go_ret
              exact ret_b HZ.out rfl (HB0.out.trans ((HBel.out.trans (hb2.mono HBel.out.size)).mono (by omega)))
            | true =>
              have HZ : Hid (nds.all (speltB next) = (nds.drop (k + 1)).all (speltB next)) := Lib.hid (by rw [HD.out]; simp)
              clear HD
              go_wp2_with fail
              refine wp_region_quiet_below (by kernel_rfl) (by kernel_rfl) ?_
              repeat (go_big_quiet_step (first | (go_at_call 64; exact regrown_ret (says_ret (word_is _ _ _ HS1.out HW.out))) | (go_at_call 65; exact regrown_ret (says_ret (HRo.out _ _))) | (go_at_call 66; exact regrown_ret (HPr.out _ _)) | (go_at_call 67; exact regrown_ret (HRe.out _ _))))
              refine wpQuiet_nil ?_
              intro _ hw'
              obtain ⟨⟨dq, osq⟩, hw''⟩ := hw'
              subst hw''
              have hb2 := below_regrown wr dq osq
              generalize grow (redrawn wr dq) osq = w2 at hb2 ⊢
              go_wp2_with fail
              go_roundw
              case rel => exact ⟨k + 1, by omega, by go_num, HZ, HBel.out.trans (hb2.mono HBel.out.size)⟩
              case measure => simp [intOf]; omega
    · have HZ : Hid (nds.all (speltB next) = true) := Lib.hid (by rw [HK.out, List.drop_eq_nil_of_le (by rw [HL.out]; omega)]; rfl)
      clear HK hbel
      go_wp2_with fail
      go_ret
      exact ret_b HZ.out rfl (HB0.out.trans (HBel.out.mono (by omega)))
end Go.Proofs.YtjjlofaejpnnnaaGreatDoor

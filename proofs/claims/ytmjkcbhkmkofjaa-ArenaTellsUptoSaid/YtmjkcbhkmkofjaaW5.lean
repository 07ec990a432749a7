/-
  WALKS: has, node of the program; the checks of numbers, texts, lists.
-/
import Derived.Test.YtmjkcbhkmkofjaaW4
namespace Go.Proofs.Ytmjkcbhkmkofjaa
open Go Go.RowKit
set_option linter.unusedVariables false

theorem rank_ix {nds : List Nd} (hr : Rise nds) {id : Int} {i : Nat} (h : ixOf nds id = some i) : rank nds id = i := by
  obtain ⟨nd, h1, rfl⟩ := ixOf_some h
  exact (rank_fast hr h1).1

set_option maxHeartbeats 400000 in
theorem has_any (w : World) (hi : Nat) (next id : Int) (A : Option Addr) (n c : Nat) (nds : List Nd) (h : NodesIn w 0 hi A n c nds) (hh : hi ≤ w.heap.size) (hr : Rise nds) (hn : n ≤ 4096) :
    Calls Try.prog 41 #[.agg #[.int .i64 next, .slice A n c], .int .i64 id] w (Ret w (.bool (ixOf nds id).isSome)) := by
  have hbx := below_box w (mdObj next A n c)
  have HI := Lib.hid (index_any (w.alloc (mdObj next A n c)) hi next id A n c nds (h.below (hbx.mono hh)) (by simp; omega) hr hn)
  unfold mdObj at HI hbx
  have HB := Lib.hid hbx
  clear hbx h
  go_enter Try.func41, Try.ntmps41
  go_wp2_with (go_at_call 95; refine HI.out.mono ?_; rintro e w' ⟨rfl, hb⟩; unfold ixV)
  go_ret
  exact ret_v rfl (HB.out.trans (hb.mono (by simp)))
set_option maxHeartbeats 400000 in
theorem node_any (w : World) (hi : Nat) (next id : Int) (A : Option Addr) (n c : Nat) (nds : List Nd) (h : NodesIn w 0 hi A n c nds) (hh : hi ≤ w.heap.size) (hr : Rise nds) (hn : n ≤ 4096)
    (p : Value) (hp : match ixOf nds id with | some i => ∃ b o, A = some ⟨b, o, none⟩ ∧ p = .pointer (some ⟨b, o + i * 7, none⟩) | none => p = .pointer none) :
    Calls Try.prog 79 #[.agg #[.int .i64 next, .slice A n c], .int .i64 id] w (Ret w p) := by
  have hbx := below_box w (mdObj next A n c)
  have HI := Lib.hid (index_any (w.alloc (mdObj next A n c)) hi next id A n c nds (h.below (hbx.mono hh)) (by simp; omega) hr hn)
  have hc := h.2.2.1
  have hnc := h.2.1
  have hl := h.1
  unfold maxLen at hc
  unfold mdObj at HI hbx
  have HB := Lib.hid hbx
  clear hbx h
  cases hx : ixOf nds id with
  | none =>
    rw [hx] at hp
    have hp : p = .pointer none := hp
    subst hp
    have HS : Hid ((ixOf nds id).isSome = false) := Lib.hid (by rw [hx]; rfl)
    clear hx
    go_enter Try.func79, Try.ntmps79
    go_wp2_with (go_at_call 95; refine HI.out.mono ?_; rintro e w' ⟨rfl, hb⟩; unfold ixV; rw [HS.out])
    go_ret
    exact ret_v rfl (HB.out.trans (hb.mono (by simp)))
  | some i =>
    rw [hx] at hp
    obtain ⟨b, o, rfl, rfl⟩ := hp
    have hi := ixOf_lt hx
    rw [hl] at hi
    have HS : Hid ((ixOf nds id).isSome = true) := Lib.hid (by rw [hx]; rfl)
    have HR := Lib.hid (rank_ix hr hx)
    clear hx hl
    go_enter Try.func79, Try.ntmps79
    go_wp2_with (go_at_call 95; refine HI.out.mono ?_; rintro e w' ⟨rfl, hb⟩; unfold ixV; rw [HS.out, HR.out]; obtain ⟨hcl, hfr⟩ := bcell hb)
    go_ret
    exact ret_v rfl (HB.out.trans (hb.mono (by simp)))

set_option maxHeartbeats 800000 in
theorem numbered_any (w : World) (hi : Nat) (next : Int) (A : Option Addr) (n c : Nat) (nds : List Nd) (h : NodesIn w 0 hi A n c nds) (hh : hi ≤ w.heap.size) :
    Calls Try.prog 90 #[.agg #[.int .i64 next, .slice A n c]] w (Ret w (.bool (numB next nds))) := by
  have hbx := below_box w (mdObj next A n c)
  unfold mdObj at hbx
  have HB := Lib.hid hbx
  clear hbx
  have hc := h.2.2.1
  have hnc := h.2.1
  have hl := h.1
  unfold maxLen at hc
  have HN : Hid (numB next nds = (headB next nds && idsB next 0 nds)) := Lib.hid rfl
  by_cases h1 : next < 1
  · have d1 : decide (next < 1) = true := decide_eq_true h1
    have HX : Hid (numB next nds = false) := Lib.hid (by rw [HN.out]; unfold headB; rw [decide_eq_false (by omega)]; rfl)
    clear hl
    go_enter Try.func90, Try.ntmps90
    go_wp2_with fail
    go_ret
    exact ret_b HX.out rfl HB.out
  · have d1 : decide (next < 1) = false := decide_eq_false h1
    by_cases h2 : 1048577 < next
    · have d2 : decide (1048577 < next) = true := decide_eq_true h2
      have HX : Hid (numB next nds = false) := Lib.hid (by rw [HN.out]; unfold headB; rw [decide_eq_false (p := next ≤ 1048577) (by omega)]; simp)
      clear hl
      go_enter Try.func90, Try.ntmps90
      go_wp2_with fail
      go_ret
      exact ret_b HX.out rfl HB.out
    · have d2 : decide (1048577 < next) = false := decide_eq_false h2
      by_cases h3 : 4096 < n
      · have d3 : decide (4096 < (n : Int)) = true := decide_eq_true (by omega)
        have HX : Hid (numB next nds = false) := Lib.hid (by rw [HN.out]; unfold headB; rw [decide_eq_false (p := nds.length ≤ 4096) (by omega)]; simp)
        clear hl
        go_enter Try.func90, Try.ntmps90
        go_wp2_with fail
        go_ret
        exact ret_b HX.out rfl HB.out
      · have d3 : decide (4096 < (n : Int)) = false := decide_eq_false (by omega)
        have HX : Hid (numB next nds = idsB next 0 (nds.drop 0)) := Lib.hid (by rw [HN.out]; unfold headB; rw [decide_eq_true (by omega), decide_eq_true (p := next ≤ 1048577) (by omega), decide_eq_true (p := nds.length ≤ 4096) (by omega)]; simp)
        have HL := Lib.hid hl
        clear hl HN
        go_enter Try.func90, Try.ntmps90
        go_wp2_with fail
        go_loop [3, 23] (fun l i => ∃ (k : Nat) (x : Int), k ≤ n ∧ i = .int .i64 k ∧ l = .int .i64 x ∧ Hid (numB next nds = idsB next x (nds.drop k))) (fun _ i => n - (intOf i).toNat)
        case atStart => exact ⟨0, 0, by omega, rfl, rfl, HX⟩
        case round =>
          obtain ⟨k, x, hk, rfl, rfl, HK⟩ := hrel
          by_cases hlt : k < n
          · obtain ⟨b, o, nd, L, rfl, _, hb, hnd, hat, _⟩ := h.at_ hlt
            have hcl := cell_alloc hat.c0 (Nat.lt_of_lt_of_le hb hh) (mdObj next (some ⟨b, o, none⟩) n c)
            unfold mdObj at hcl
            have hd : nds.drop k = nd :: nds.drop (k + 1) := by
              obtain ⟨hl', rfl⟩ := List.getElem?_eq_some_iff.1 hnd
              exact List.drop_eq_getElem_cons hl'
            have HD : Hid (numB next nds = (decide (x < nd.id) && decide (nd.id < next) && idsB next nd.id (nds.drop (k + 1)))) := Lib.hid (by rw [HK.out, hd, idsB])
            clear hd hnd hat HK
            by_cases g1 : nd.id ≤ x
            · have e1 : decide (nd.id ≤ x) = true := decide_eq_true g1
              have HZ : Hid (numB next nds = false) := Lib.hid (by rw [HD.out, decide_eq_false (by omega)]; rfl)
              clear HD
              go_wp2_with fail
              go_ret
              exact ret_b HZ.out rfl HB.out
            · have e1 : decide (nd.id ≤ x) = false := decide_eq_false g1
              by_cases g2 : next ≤ nd.id
              · have e2 : decide (next ≤ nd.id) = true := decide_eq_true g2
                have HZ : Hid (numB next nds = false) := Lib.hid (by rw [HD.out, decide_eq_false (p := nd.id < next) (by omega)]; simp)
                clear HD
                go_wp2_with fail
                go_ret
                exact ret_b HZ.out rfl HB.out
              · have e2 : decide (next ≤ nd.id) = false := decide_eq_false g2
                have HZ : Hid (numB next nds = idsB next nd.id (nds.drop (k + 1))) := Lib.hid (by rw [HD.out, decide_eq_true (by omega), decide_eq_true (p := nd.id < next) (by omega)]; rfl)
                clear HD
                go_wp2_with fail
                go_round
                case rel => exact ⟨k + 1, nd.id, by omega, by go_num, rfl, HZ⟩
                case measure => simp [intOf]; omega
          · have HZ : Hid (numB next nds = true) := Lib.hid (by rw [HK.out, List.drop_eq_nil_of_le (by rw [HL.out]; omega)]; rfl)
            clear HK
            go_wp2_with fail
            go_ret
            exact ret_b HZ.out rfl HB.out
end Go.Proofs.Ytmjkcbhkmkofjaa

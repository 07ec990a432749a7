/-
  WALKS: the place of a number among the nodes: At of the document.
-/
import Derived.Test.YtmjkcbhkmkofjaaW2
import Derived.Test.YtmjkcbhkmkofjaaP4
import Derived.Deep.QuietTactic
import Derived.BigQuiet
namespace Go.Proofs.Ytmjkcbhkmkofjaa
open Go Go.RowKit
set_option linter.unusedVariables false

def atV (nds : List Nd) (id : Int) : Int := match ixOf nds id with | some i => (i : Int) | none => -1
def mdObj (next : Int) (A : Option Addr) (n c : Nat) : Obj := .cells #[.int .i64 next, .slice A n c] 24

/-- halves: what is known of the places on both sides -/
structure Half (nds : List Nd) (id : Int) (l h : Nat) : Prop where
  le : l ≤ h
  lo : ∀ (i : Nat) nd, i < l → nds[i]? = some nd → nd.id < id
  hi : ∀ (i : Nat) nd, h ≤ i → nds[i]? = some nd → id ≤ nd.id
theorem Half.start (nds : List Nd) (id : Int) (n : Nat) (hn : nds.length = n) : Half nds id 0 n :=
  ⟨Nat.zero_le _, fun i nd hi => absurd hi (by omega), fun i nd hi hg => by have := (List.getElem?_eq_some_iff.1 hg).1; omega⟩
theorem Half.up {nds : List Nd} {id : Int} {l h m : Nat} {nd : Nd} (H : Half nds id l h) (hr : Rise nds) (hm : nds[m]? = some nd) (h1 : m < h) (hlt : nd.id < id) : Half nds id (m + 1) h :=
  ⟨by omega, fun i nd' hi hg => by
    rcases Nat.lt_or_ge i m with g | g
    · have := hr.lt i m nd' nd g hg hm; omega
    · obtain rfl : i = m := by omega
      rw [hm] at hg; injection hg with hg; subst hg; exact hlt, H.hi⟩
theorem Half.down {nds : List Nd} {id : Int} {l h m : Nat} {nd : Nd} (H : Half nds id l h) (hr : Rise nds) (hm : nds[m]? = some nd) (h1 : l ≤ m) (hge : id ≤ nd.id) : Half nds id l m :=
  ⟨h1, H.lo, fun i nd' hi hg => by
    rcases Nat.lt_or_ge m i with g | g
    · have := hr.lt m i nd nd' g hm hg; omega
    · obtain rfl : i = m := by omega
      rw [hm] at hg; injection hg with hg; subst hg; exact hge⟩
theorem Half.at_ {nds : List Nd} {id : Int} {k : Nat} (H : Half nds id k k) (hr : Rise nds) : ixOf nds id = match nds[k]? with | some nd => if nd.id = id then some k else none | none => none :=
  ixOf_at hr H.lo H.hi
theorem atV_end {nds : List Nd} {id : Int} {k : Nat} (H : Half nds id k k) (hr : Rise nds) (hk : nds.length ≤ k) : atV nds id = -1 := by
  unfold atV; rw [H.at_ hr, List.getElem?_eq_none hk]
theorem atV_yes {nds : List Nd} {id : Int} {k : Nat} {nd : Nd} (H : Half nds id k k) (hr : Rise nds) (hk : nds[k]? = some nd) (e : nd.id = id) : atV nds id = k := by
  unfold atV; rw [H.at_ hr, hk]; simp [e]
theorem atV_no {nds : List Nd} {id : Int} {k : Nat} {nd : Nd} (H : Half nds id k k) (hr : Rise nds) (hk : nds[k]? = some nd) (e : nd.id ≠ id) : atV nds id = -1 := by
  unfold atV; rw [H.at_ hr, hk]; simp [e]

theorem below_box (w : World) (x : Obj) : Below w.heap.size w (w.alloc x) := (Below.refl _ _).alloc (Nat.le_refl _) _
theorem ret_i {w w' : World} {v : Value} {k : IntKind} {a b : Int} (h : b = a) (hv : v = .int k a) (hb : Below w.heap.size w w') : Ret w (.int k b) (.returned v) w' := ⟨by rw [hv, h], hb⟩
theorem ret_b {w w' : World} {v : Value} {a b : Bool} (h : b = a) (hv : v = .bool a) (hb : Below w.heap.size w w') : Ret w (.bool b) (.returned v) w' := ⟨by rw [hv, h], hb⟩
theorem ret_mk {w w' : World} {v u : Value} (h : v = u) (hb : Below w.heap.size w w') : Ret w u (.returned v) w' := ⟨by rw [h], hb⟩

set_option maxHeartbeats 800000 in
theorem refAt_any (w : World) (hi : Nat) (next id : Int) (A : Option Addr) (n c : Nat) (nds : List Nd) (h : NodesIn w 0 hi A n c nds) (hh : hi ≤ w.heap.size) (hr : Rise nds) (hn : n ≤ 4096) :
    Calls Try.prog 51 #[.agg #[.int .i64 next, .slice A n c], .int .i64 id] w (Ret w (.int .i64 (atV nds id))) := by
  have hc := h.2.2.1
  have hnc := h.2.1
  have hl := Lib.hid h.1
  unfold maxLen at hc
  go_enter Try.func51, Try.ntmps51
  go_wp2_with fail
  go_quiet (fail)
  go_wp2_with fail
  go_loop [5, 6] (fun x y => ∃ l m : Nat, m ≤ n ∧ x = .int .i64 l ∧ y = .int .i64 m ∧ Half nds id l m) (fun x y => (intOf y - intOf x).toNat)
  case atStart => exact ⟨0, n, Nat.le_refl _, rfl, rfl, Half.start nds id n hl.out⟩
  case round =>
    obtain ⟨l, m, hm, rfl, rfl, H⟩ := hrel
    have hle := H.le
    by_cases hlt : l < m
    · obtain ⟨b, o, nd, L, rfl, _, hb, hnd, hat, _⟩ := h.at_ (i := (l + m) / 2) (by omega)
      have hcl := cell_alloc hat.c0 (Nat.lt_of_lt_of_le hb hh) (mdObj next (some ⟨b, o, none⟩) n c)
      unfold mdObj at hcl
      have HAT := Lib.hid hat
      clear hat
      by_cases hx : nd.id < id
      · have HX := Lib.hid (H.up hr hnd (by omega) hx)
        go_wp2_with fail
        go_round
        case rel => exact ⟨(l + m) / 2 + 1, m, hm, by go_num, rfl, HX.out⟩
        case measure => simp [intOf]; omega
      · have HX := Lib.hid (H.down hr hnd (by omega) (by omega))
        go_wp2_with fail
        go_round
        case rel => exact ⟨l, (l + m) / 2, by omega, rfl, by go_num, HX.out⟩
        case measure => simp [intOf]; omega
    · have he : m = l := by omega
      rw [he] at H
      clear he
      by_cases hk : l < n
      · obtain ⟨b, o, nd, L, rfl, _, hb, hnd, hat, _⟩ := h.at_ (i := l) hk
        have hcl := cell_alloc hat.c0 (Nat.lt_of_lt_of_le hb hh) (mdObj next (some ⟨b, o, none⟩) n c)
        unfold mdObj at hcl
        have HAT := Lib.hid hat
        clear hat
        by_cases hx : nd.id = id
        · have HX := Lib.hid (atV_yes H hr hnd hx)
          have d1 : (nd.id == id) = true := by rw [beq_iff_eq]; exact hx
          clear hx
          go_wp2_with fail
          go_ret
          exact ret_i HX.out rfl ((below_box _ _).trans (below_drewN (Below.refl _ _) _))
        · have HX := Lib.hid (atV_no H hr hnd hx)
          have d1 : (nd.id == id) = false := by rw [beq_eq_false_iff_ne]; exact hx
          clear hx
          go_wp2_with fail
          go_ret
          exact ret_i HX.out rfl ((below_box _ _).trans (below_drewN (Below.refl _ _) _))
      · have HX := Lib.hid (atV_end H hr (by have := hl.out; omega))
        go_wp2_with fail
        go_ret
        exact ret_i HX.out rfl ((below_box _ _).trans (below_drewN (Below.refl _ _) _))
end Go.Proofs.Ytmjkcbhkmkofjaa

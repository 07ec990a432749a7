/-
  WALKS: the place of a number among the nodes: index, has, node of the program.
-/
import Derived.Test.YtmjkcbhkmkofjaaW3
namespace Go.Proofs.Ytmjkcbhkmkofjaa
open Go Go.RowKit
set_option linter.unusedVariables false

/-- how many nodes have a lower number -/
def rank (nds : List Nd) (id : Int) : Nat := nds.countP (fun n => decide (n.id < id))
theorem Half.rank {nds : List Nd} {id : Int} {k : Nat} (H : Half nds id k k) (hk : k ≤ nds.length) : rank nds id = k := by
  unfold Proofs.Ytmjkcbhkmkofjaa.rank
  have e : nds = nds.take k ++ nds.drop k := (List.take_append_drop k nds).symm
  rw [e, List.countP_append]
  have h1 : List.countP (fun n => decide (n.id < id)) (nds.take k) = (nds.take k).length := by
    rw [List.countP_eq_length]
    intro a ha
    obtain ⟨i, hi⟩ := List.getElem?_of_mem ha
    rw [List.getElem?_take] at hi
    split at hi
    · simpa using H.lo i a (by assumption) hi
    · cases hi
  have h2 : List.countP (fun n => decide (n.id < id)) (nds.drop k) = 0 := by
    rw [List.countP_eq_zero]
    intro a ha
    obtain ⟨i, hi⟩ := List.getElem?_of_mem ha
    rw [List.getElem?_drop] at hi
    have := H.hi (k + i) a (by omega) hi
    simp; omega
  rw [h1, h2, List.length_take]
  omega
theorem rank_le (nds : List Nd) (id : Int) : rank nds id ≤ nds.length := List.countP_le_length
/-- what index tells -/
def ixV (nds : List Nd) (id : Int) : Value := .tuple #[.int .i64 (rank nds id), .bool (ixOf nds id).isSome]

set_option maxHeartbeats 400000 in
theorem index1_any (w : World) (hi : Nat) (next id : Int) (b o n c : Nat) (nds : List Nd) (p1 p2 : Nat) (k : Nat) (nd : Nd) (L : Leaf)
    (h1 : w.cell? ⟨p1, 0, none⟩ = some (.int .i64 id)) (h2 : w.cell? ⟨p2, 1, none⟩ = some (.slice (some ⟨b, o, none⟩) n c)) (hk : k < n) (hnc : n ≤ c) (hc : c ≤ maxLen)
    (hat : w.cell? ⟨b, o + k * 7, none⟩ = some (.int .i64 nd.id)) :
    Calls Try.prog 129 #[.int .i64 k, .pointer (some ⟨p1, 0, none⟩), .pointer (some ⟨p2, 0, none⟩)] w fun e w' => e = .returned (.int .i64 (Lib.compareInt id nd.id)) ∧ ∃ q, w' = w.drewN q := by
  unfold maxLen at hc
  go_enter Try.func129, Try.ntmps129
  go_wp2_with fail
  go_quiet ((go_at_call 130; exact Calls.quiet_of_same (Try.cmp_Compare_int _ _ _)))
  go_wp2
  go_ret
  exact ⟨rfl, _, rfl⟩

theorem cmp_gt {x y : Int} (h : y < x) : (0 : Int) < Lib.compareInt x y ∧ (Lib.compareInt x y == 0) = false := by
  unfold Lib.compareInt; rw [if_neg (by omega), if_pos (by omega)]; exact ⟨by omega, rfl⟩
theorem cmp_le {x y : Int} (h : x ≤ y) : decide ((0 : Int) < Lib.compareInt x y) = false := by
  unfold Lib.compareInt
  refine decide_eq_false ?_
  split
  · omega
  · rw [if_neg (by omega)]; omega
theorem cmp_eq {x y : Int} (h : x = y) : (Lib.compareInt x y == 0) = true := by
  unfold Lib.compareInt; rw [if_neg (by omega), if_neg (by omega)]; rfl
theorem cmp_ne {x y : Int} (h : x ≠ y) : (Lib.compareInt x y == 0) = false := by
  unfold Lib.compareInt
  split
  · rfl
  · rw [if_pos (by omega)]; rfl
theorem ixOf_none_some {nds : List Nd} {id : Int} {k : Nat} (H : Half nds id k k) (hr : Rise nds) : (nds.length ≤ k → (ixOf nds id).isSome = false) ∧ (∀ nd, nds[k]? = some nd → (nd.id = id → (ixOf nds id).isSome = true) ∧ (nd.id ≠ id → (ixOf nds id).isSome = false)) := by
  have e := H.at_ hr
  refine ⟨fun hl => by rw [e, List.getElem?_eq_none hl]; rfl, fun nd hnd => ⟨fun hx => by rw [e, hnd]; simp [hx], fun hx => by rw [e, hnd]; simp [hx]⟩⟩
def FindRel (nds : List Nd) (id : Int) (w : World) (n : Nat) (x y : Value) (wr : World) : Prop := ∃ l m q : Nat, m ≤ n ∧ x = .int .i64 l ∧ y = .int .i64 m ∧ Half nds id l m ∧ wr = w.drewN q
def DrewV (w : World) (v : Value) (e : Ending) (w' : World) : Prop := e = .returned v ∧ ∃ q, w' = w.drewN q
theorem drew_v {w : World} {v u : Value} {q : Nat} (h : v = u) : DrewV w u (.returned v) (w.drewN q) := ⟨by rw [h], q, rfl⟩
theorem drew_v2 {w : World} {v u : Value} {q q' : Nat} (h : v = u) : DrewV w u (.returned v) ((w.drewN q).drewN q') := ⟨by rw [h], q + q', World.drewN_drewN _ _ _⟩
theorem drew_ret {P : Program} {f : FuncId} {args : Array Value} {w : World} {v : Value} (h : Calls P f args w (DrewV w v)) : Calls P f args w (Ret w v) :=
  h.mono fun e w' ⟨he, q, hq⟩ => ⟨he, by rw [hq]; exact below_drewN (Below.refl _ _) q⟩

set_option maxHeartbeats 1600000 in
theorem find_any (w : World) (hi : Nat) (next id : Int) (A : Option Addr) (n c : Nat) (nds : List Nd) (p1 p2 : Nat) (h : NodesIn w 0 hi A n c nds) (hr : Rise nds) (hn : n ≤ 4096)
    (h1 : w.cell? ⟨p1, 0, none⟩ = some (.int .i64 id)) (h2 : w.cell? ⟨p2, 1, none⟩ = some (.slice A n c)) :
    Calls Try.prog 128 #[.int .i64 n, .func (.func 129) #[] #[.pointer (some ⟨p1, 0, none⟩), .pointer (some ⟨p2, 0, none⟩)]] w (DrewV w (ixV nds id)) := by
  have hc := h.2.2.1
  have hnc := h.2.1
  have hl := Lib.hid h.1
  have C1 : ∀ (q k : Nat) (b o : Nat) (nd : Nd) (L : Leaf), A = some ⟨b, o, none⟩ → k < n → NodeAt w b (o + k * 7) nd L → Calls Try.prog 129 #[.int .i64 k, .pointer (some ⟨p1, 0, none⟩), .pointer (some ⟨p2, 0, none⟩)] (w.drewN q) fun e w' => e = .returned (.int .i64 (Lib.compareInt id nd.id)) ∧ ∃ q', w' = w.drewN q' := by
    intro q k b o nd L hA hk hat
    subst hA
    refine (index1_any (w.drewN q) hi next id b o n c nds p1 p2 k nd L (by simpa using h1) (by simpa using h2) hk hnc hc (by simpa using hat.c0)).mono ?_
    rintro e w' ⟨he, q', hq⟩
    exact ⟨he, q + q', by rw [hq, World.drewN_drewN]⟩
  have HC := Lib.hid C1
  have H1 := Lib.hid h1
  have H2 := Lib.hid h2
  have hc63 : c ≤ 9223372036854775807 := by unfold maxLen at hc; omega
  clear C1 h1 h2 hc
  go_enter Try.func128, Try.ntmps128
  go_wp2_with fail
  go_loopw [4, 6] (fun x y wr => FindRel nds id w n x y wr) (fun x y _ => (intOf y - intOf x).toNat)
  case atStart => exact ⟨0, n, 0, Nat.le_refl _, rfl, rfl, Half.start nds id n hl.out, rfl⟩
  case round =>
    obtain ⟨l, m, q, hm, rfl, rfl, H, rfl⟩ := hrel
    have hle := H.le
    by_cases hlt : l < m
    · obtain ⟨b, o, nd, L, rfl, _, hb, hnd, hat, _⟩ := h.at_ (i := (l + m) / 2) (by omega)
      have hX := HC.out q ((l + m) / 2) b o nd L rfl (by omega) hat
      rw [show (((l + m) / 2 : Nat) : Int) = ((l : Int) + (m : Int)) / 2 from by omega] at hX
      have HX := Lib.hid hX
      clear hX
      by_cases hx : nd.id < id
      · have HU := Lib.hid (H.up hr hnd (by omega) hx)
        have d1 := (cmp_gt hx).1
        clear hx hnd hat
        go_wp2_with (go_at_call 129; refine HX.out.mono ?_; rintro e w' ⟨rfl, q', rfl⟩)
        go_roundw
        case rel => exact ⟨(l + m) / 2 + 1, m, q', hm, by go_num, rfl, HU.out, rfl⟩
        case measure => simp [intOf]; omega
      · have HU := Lib.hid (H.down hr hnd (by omega) (by omega))
        have d1 := cmp_le (x := id) (y := nd.id) (by omega)
        clear hx hnd hat
        go_wp2_with (go_at_call 129; refine HX.out.mono ?_; rintro e w' ⟨rfl, q', rfl⟩)
        go_roundw
        case rel => exact ⟨l, (l + m) / 2, q', by omega, rfl, by go_num, HU.out, rfl⟩
        case measure => simp [intOf]; omega
    · have he : m = l := by omega
      rw [he] at H
      clear he
      have hl' := hl.out
      have HR := Lib.hid (H.rank (by omega))
      by_cases hk : l < n
      · obtain ⟨b, o, nd, L, rfl, _, hb, hnd, hat, _⟩ := h.at_ (i := l) hk
        have HX := Lib.hid (HC.out q l b o nd L rfl (by omega) hat)
        have hS := (ixOf_none_some H hr).2 nd hnd
        by_cases hx : nd.id = id
        · have HS := Lib.hid (hS.1 hx)
          have d1 := cmp_eq hx.symm
          clear hx hS hnd hat hl'
          go_wp2_with (go_at_call 129; refine HX.out.mono ?_; rintro e w' ⟨rfl, q', rfl⟩)
          go_ret2
          unfold ixV
          rw [HS.out, HR.out]
          exact drew_v rfl
        · have HS := Lib.hid (hS.2 hx)
          have d1 := cmp_ne (x := id) (y := nd.id) (fun e => hx e.symm)
          clear hx hS hnd hat hl'
          go_wp2_with (go_at_call 129; refine HX.out.mono ?_; rintro e w' ⟨rfl, q', rfl⟩)
          go_ret2
          unfold ixV
          rw [HS.out, HR.out]
          exact drew_v rfl
      · have HS := Lib.hid ((ixOf_none_some H hr).1 (by omega))
        clear hl'
        go_wp2_with fail
        go_ret2
        unfold ixV
        rw [HS.out, HR.out]
        exact drew_v rfl

theorem ret_v {w w' : World} {v u : Value} (h : v = u) (hb : Below w.heap.size w w') : Ret w u (.returned v) w' := ⟨by rw [h], hb⟩
theorem rank_fast {nds : List Nd} (hr : Rise nds) {i : Nat} {nd : Nd} (h : nds[i]? = some nd) : rank nds nd.id = i ∧ (ixOf nds nd.id).isSome = true := by
  refine ⟨Half.rank (k := i) ⟨Nat.le_refl _, fun j a hj ha => hr.lt j i a nd hj ha h, fun j a hj ha => ?_⟩ (by have := (List.getElem?_eq_some_iff.1 h).1; omega), by rw [ixOf_is hr h rfl]; rfl⟩
  rcases Nat.lt_or_ge i j with g | g
  · have := hr.lt i j nd a g h ha; omega
  · obtain rfl : i = j := by omega
    rw [h] at ha; injection ha with ha; subst ha; exact Int.le_refl _

set_option maxHeartbeats 1600000 in
theorem index_any (w : World) (hi : Nat) (next id : Int) (A : Option Addr) (n c : Nat) (nds : List Nd) (h : NodesIn w 0 hi A n c nds) (hh : hi ≤ w.heap.size) (hr : Rise nds) (hn : n ≤ 4096) :
    Calls Try.prog 95 #[.agg #[.int .i64 next, .slice A n c], .int .i64 id] w (Ret w (ixV nds id)) := by
  have hc := h.2.2.1
  have hnc := h.2.1
  have hl := Lib.hid h.1
  have hc63 : c ≤ 9223372036854775807 := by unfold maxLen at hc; omega
  have hbel : Below w.heap.size w ((w.alloc (mdObj next A n c)).alloc (.cells #[.int .i64 id] 3)) := (below_box _ _).alloc (by simp) _
  have HB := Lib.hid hbel
  have hF : ∀ q, Calls Try.prog 128 #[.int .i64 n, .func (.func 129) #[] #[.pointer (some ⟨w.heap.size + 1, 0, none⟩), .pointer (some ⟨w.heap.size, 0, none⟩)]] (((w.alloc (mdObj next A n c)).alloc (.cells #[.int .i64 id] 3)).drewN q) (DrewV (((w.alloc (mdObj next A n c)).alloc (.cells #[.int .i64 id] 3)).drewN q) (ixV nds id)) := by
    intro q
    refine find_any _ hi next id A n c nds (w.heap.size + 1) w.heap.size ((h.below (hbel.mono hh)).below (below_drewN (Below.refl _ _) q)) hr hn ?_ ?_
    · exact World.cell?_alloc_at (hn := by simp) ..
    · exact (World.cell?_alloc_past (hn := by simp) ..).trans (World.cell?_alloc_at (hn := rfl) ..)
  have HF := Lib.hid hF
  unfold mdObj at HF HB
  clear hF hbel
  by_cases h0 : 0 < id
  · have d0 : decide (0 < id) = true := decide_eq_true h0
    by_cases h1 : id ≤ n
    · have d1 : decide (id ≤ (n : Int)) = true := decide_eq_true h1
      obtain ⟨m, rfl⟩ : ∃ m : Nat, id = (m : Int) + 1 := ⟨(id - 1).toNat, by omega⟩
      obtain ⟨b, o, nd, L, rfl, _, hb, hnd, hat, _⟩ := h.at_ (i := m) (by omega)
      have hcl : ∀ x, ((w.alloc (.cells #[.int .i64 next, .slice (some ⟨b, o, none⟩) n c] 24)).alloc x).cell? ⟨b, o + m * 7, none⟩ = some (.int .i64 nd.id) := fun x => cell_alloc (cell_alloc hat.c0 (Nat.lt_of_lt_of_le hb hh) _) (by simp; omega) x
      by_cases hx : nd.id = (m : Int) + 1
      · have d2 : (nd.id == (m : Int) + 1) = true := by rw [beq_iff_eq]; exact hx
        have HK := Lib.hid (rank_fast hr hnd)
        rw [hx] at HK
        clear hx hnd hat
        go_enter Try.func95, Try.ntmps95
        go_wp2_with fail
        go_quiet (fail)
        go_wp2_with fail
        go_ret2
        unfold ixV
        rw [HK.out.1, HK.out.2]
        exact ret_v rfl (below_drewN HB.out _)
      · have d2 : (nd.id == (m : Int) + 1) = false := by rw [beq_eq_false_iff_ne]; exact hx
        clear hx hnd hat
        go_enter Try.func95, Try.ntmps95
        go_wp2_with fail
        go_quiet (fail)
        go_wp2_with (go_at_call 128; refine (HF.out _).mono ?_; rintro e w' ⟨rfl, q', rfl⟩; unfold ixV)
        go_ret2
        exact ret_v rfl (below_drewN HB.out _)
    · have d1 : decide (id ≤ (n : Int)) = false := decide_eq_false h1
      go_enter Try.func95, Try.ntmps95
      go_wp2_with fail
      go_quiet (fail)
      go_wp2_with (go_at_call 128; refine (HF.out _).mono ?_; rintro e w' ⟨rfl, q', rfl⟩; unfold ixV)
      go_ret2
      exact ret_v rfl (below_drewN HB.out _)
  · have d0 : decide (0 < id) = false := decide_eq_false h0
    go_enter Try.func95, Try.ntmps95
    go_wp2_with fail
    go_quiet (fail)
    go_wp2_with (go_at_call 128; refine (HF.out _).mono ?_; rintro e w' ⟨rfl, q', rfl⟩; unfold ixV)
    go_ret2
    exact ret_v rfl (below_drewN HB.out _)
end Go.Proofs.Ytmjkcbhkmkofjaa

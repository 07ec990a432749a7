/-
  WALKS: the place of a number among the nodes: At of the document.
  WALKS: the place of a number among the nodes: index, has, node of the program.
  WALKS: has, node of the program; the checks of numbers, texts, lists.
-/
import Derived.Test.YtdeoblhdojbbbaaDoorZ5
import Derived.Deep.QuietTactic
import Derived.BigQuiet
namespace Go.Proofs.YtdeoblhdojbbbaaDoor
open Go Go.RowKit
set_option linter.unusedVariables false
def atV (nds : List Nd) (id : Int) : Int := match ixOf nds id with | some i => (i : Int) | none => -1
def mdObj (next : Int) (A : Option Addr) (n c : Nat) : Obj := .cells #[.int .i64 next, .slice A n c] 24
/-- halves: what is known of the places on both sides -/
structure Half (nds : List Nd) (id : Int) (l h : Nat) : Prop where
  le : l ≤ h
  lo : ∀ (i : Nat) nd, i < l → nds[i]? = some nd → nd.id < id
  hi : ∀ (i : Nat) nd, h ≤ i → nds[i]? = some nd → id ≤ nd.id
theorem Half.start (nds : List Nd) (id : Int) (n : Nat) (hn : nds.length = n) : Half nds id 0 n :=
  ⟨Nat.zero_le _, fun i nd hi => absurd hi (by omega), fun i nd hi hg => by have := (List.getElem?_eq_some_iff.1 hg).1; omega⟩
theorem Half.up {nds : List Nd} {id : Int} {l h m : Nat} {nd : Nd} (H : Half nds id l h) (hr : Rise nds) (hm : nds[m]? = some nd) (h1 : m < h) (hlt : nd.id < id) : Half nds id (m + 1) h :=
  ⟨by omega, fun i nd' hi hg => by
    rcases Nat.lt_or_ge i m with g | g
    · have := hr.lt i m nd' nd g hg hm; omega
    · obtain rfl : i = m := by omega
      rw [hm] at hg; injection hg with hg; subst hg; exact hlt, H.hi⟩
theorem Half.down {nds : List Nd} {id : Int} {l h m : Nat} {nd : Nd} (H : Half nds id l h) (hr : Rise nds) (hm : nds[m]? = some nd) (h1 : l ≤ m) (hge : id ≤ nd.id) : Half nds id l m :=
  ⟨h1, H.lo, fun i nd' hi hg => by
    rcases Nat.lt_or_ge m i with g | g
    · have := hr.lt m i nd nd' g hm hg; omega
    · obtain rfl : i = m := by omega
      rw [hm] at hg; injection hg with hg; subst hg; exact hge⟩
theorem Half.at_ {nds : List Nd} {id : Int} {k : Nat} (H : Half nds id k k) (hr : Rise nds) : ixOf nds id = match nds[k]? with | some nd => if nd.id = id then some k else none | none => none :=
  ixOf_at hr H.lo H.hi
theorem atV_end {nds : List Nd} {id : Int} {k : Nat} (H : Half nds id k k) (hr : Rise nds) (hk : nds.length ≤ k) : atV nds id = -1 := by
  unfold atV; rw [H.at_ hr, List.getElem?_eq_none hk]
theorem atV_yes {nds : List Nd} {id : Int} {k : Nat} {nd : Nd} (H : Half nds id k k) (hr : Rise nds) (hk : nds[k]? = some nd) (e : nd.id = id) : atV nds id = k := by
  unfold atV; rw [H.at_ hr, hk]; simp [e]
theorem atV_no {nds : List Nd} {id : Int} {k : Nat} {nd : Nd} (H : Half nds id k k) (hr : Rise nds) (hk : nds[k]? = some nd) (e : nd.id ≠ id) : atV nds id = -1 := by
  unfold atV; rw [H.at_ hr, hk]; simp [e]
theorem below_box (w : World) (x : Obj) : Below w.heap.size w (w.alloc x) := (Below.refl _ _).alloc (Nat.le_refl _) _
theorem ret_i {w w' : World} {v : Value} {k : IntKind} {a b : Int} (h : b = a) (hv : v = .int k a) (hb : Below w.heap.size w w') : Ret w (.int k b) (.returned v) w' := ⟨by rw [hv, h], hb⟩
theorem ret_b {w w' : World} {v : Value} {a b : Bool} (h : b = a) (hv : v = .bool a) (hb : Below w.heap.size w w') : Ret w (.bool b) (.returned v) w' := ⟨by rw [hv, h], hb⟩
theorem ret_mk {w w' : World} {v u : Value} (h : v = u) (hb : Below w.heap.size w w') : Ret w u (.returned v) w' := ⟨by rw [h], hb⟩
set_option maxHeartbeats 800000 in
theorem refAt_any (w : World) (hi : Nat) (next id : Int) (A : Option Addr) (n c : Nat) (nds : List Nd) (h : NodesIn w 0 hi A n c nds) (hh : hi ≤ w.heap.size) (hr : Rise nds) (hn : n ≤ 4096) :
    Calls Tryd.prog 39 #[.agg #[.int .i64 next, .slice A n c], .int .i64 id] w (Ret w (.int .i64 (atV nds id))) := by
  have hc := h.2.2.1
  have hnc := h.2.1
  have hl := Lib.hid h.1
  unfold maxLen at hc
  go_enter Tryd.func39, Tryd.ntmps39
  go_wp2_with fail
  go_quiet (fail)
  go_wp2_with fail
  go_loop [5, 6] (fun x y => ∃ l m : Nat, m ≤ n ∧ x = .int .i64 l ∧ y = .int .i64 m ∧ Half nds id l m) (fun x y => (intOf y - intOf x).toNat)
  case atStart => exact ⟨0, n, Nat.le_refl _, rfl, rfl, Half.start nds id n hl.out⟩
  case round =>
    obtain ⟨l, m, hm, rfl, rfl, H⟩ := hrel
    have hle := H.le
    by_cases hlt : l < m
    · obtain ⟨b, o, nd, L, rfl, _, hb, hnd, hat, _⟩ := h.at_ (i := (l + m) / 2) (by omega)
      have hcl := cell_alloc hat.c0 (Nat.lt_of_lt_of_le hb hh) (mdObj next (some ⟨b, o, none⟩) n c)
      unfold mdObj at hcl
      have HAT := Lib.hid hat
      clear hat
      by_cases hx : nd.id < id
      · have HX := Lib.hid (H.up hr hnd (by omega) hx)
        go_wp2_with fail
        go_round
        case rel => exact ⟨(l + m) / 2 + 1, m, hm, by go_num, rfl, HX.out⟩
        case measure => simp [intOf]; omega
      · have HX := Lib.hid (H.down hr hnd (by omega) (by omega))
        go_wp2_with fail
        go_round
        case rel => exact ⟨l, (l + m) / 2, by omega, rfl, by go_num, HX.out⟩
        case measure => simp [intOf]; omega
    · have he : m = l := by omega
      rw [he] at H
      clear he
      by_cases hk : l < n
      · obtain ⟨b, o, nd, L, rfl, _, hb, hnd, hat, _⟩ := h.at_ (i := l) hk
        have hcl := cell_alloc hat.c0 (Nat.lt_of_lt_of_le hb hh) (mdObj next (some ⟨b, o, none⟩) n c)
        unfold mdObj at hcl
        have HAT := Lib.hid hat
        clear hat
        by_cases hx : nd.id = id
        · have HX := Lib.hid (atV_yes H hr hnd hx)
          have d1 : (nd.id == id) = true := by rw [beq_iff_eq]; exact hx
          clear hx
          go_wp2_with fail
          go_ret
          exact ret_i HX.out rfl ((below_box _ _).trans (below_drewN (Below.refl _ _) _))
        · have HX := Lib.hid (atV_no H hr hnd hx)
          have d1 : (nd.id == id) = false := by rw [beq_eq_false_iff_ne]; exact hx
          clear hx
          go_wp2_with fail
          go_ret
          exact ret_i HX.out rfl ((below_box _ _).trans (below_drewN (Below.refl _ _) _))
      · have HX := Lib.hid (atV_end H hr (by have := hl.out; omega))
        go_wp2_with fail
        go_ret
        exact ret_i HX.out rfl ((below_box _ _).trans (below_drewN (Below.refl _ _) _))
end Go.Proofs.YtdeoblhdojbbbaaDoor
namespace Go.Proofs.YtdeoblhdojbbbaaDoor
open Go Go.RowKit
set_option linter.unusedVariables false
/-- how many nodes have a lower number -/
def rank (nds : List Nd) (id : Int) : Nat := nds.countP (fun n => decide (n.id < id))
theorem Half.rank {nds : List Nd} {id : Int} {k : Nat} (H : Half nds id k k) (hk : k ≤ nds.length) : rank nds id = k := by
  unfold Proofs.YtdeoblhdojbbbaaDoor.rank
  have e : nds = nds.take k ++ nds.drop k := (List.take_append_drop k nds).symm
  rw [e, List.countP_append]
  have h1 : List.countP (fun n => decide (n.id < id)) (nds.take k) = (nds.take k).length := by
    rw [List.countP_eq_length]
    intro a ha
    obtain ⟨i, hi⟩ := List.getElem?_of_mem ha
    rw [List.getElem?_take] at hi
    split at hi
    · simpa using H.lo i a (by assumption) hi
    · cases hi
  have h2 : List.countP (fun n => decide (n.id < id)) (nds.drop k) = 0 := by
    rw [List.countP_eq_zero]
    intro a ha
    obtain ⟨i, hi⟩ := List.getElem?_of_mem ha
    rw [List.getElem?_drop] at hi
    have := H.hi (k + i) a (by omega) hi
    simp; omega
  rw [h1, h2, List.length_take]
  omega
/-- what index tells -/
def ixV (nds : List Nd) (id : Int) : Value := .tuple #[.int .i64 (rank nds id), .bool (ixOf nds id).isSome]
set_option maxHeartbeats 400000 in
theorem index1_any (w : World) (hi : Nat) (next id : Int) (b o n c : Nat) (nds : List Nd) (p1 p2 : Nat) (k : Nat) (nd : Nd) (L : Leaf)
    (h1 : w.cell? ⟨p1, 0, none⟩ = some (.int .i64 id)) (h2 : w.cell? ⟨p2, 1, none⟩ = some (.slice (some ⟨b, o, none⟩) n c)) (hk : k < n) (hnc : n ≤ c) (hc : c ≤ maxLen)
    (hat : w.cell? ⟨b, o + k * 7, none⟩ = some (.int .i64 nd.id)) :
    Calls Tryd.prog 58 #[.int .i64 k, .pointer (some ⟨p1, 0, none⟩), .pointer (some ⟨p2, 0, none⟩)] w fun e w' => e = .returned (.int .i64 (Lib.compareInt id nd.id)) ∧ ∃ q, w' = w.drewN q := by
  unfold maxLen at hc
  go_enter Tryd.func58, Tryd.ntmps58
  go_wp2_with fail
  go_quiet ((go_at_call 34; exact Calls.quiet_of_same (Tryd.cmp_Compare_int _ _ _)))
  go_wp2
  go_ret
  exact ⟨rfl, _, rfl⟩
theorem cmp_gt {x y : Int} (h : y < x) : (0 : Int) < Lib.compareInt x y ∧ (Lib.compareInt x y == 0) = false := by
  unfold Lib.compareInt; rw [if_neg (by omega), if_pos (by omega)]; exact ⟨by omega, rfl⟩
theorem cmp_le {x y : Int} (h : x ≤ y) : decide ((0 : Int) < Lib.compareInt x y) = false := by
  unfold Lib.compareInt
  refine decide_eq_false ?_
  split
  · omega
  · rw [if_neg (by omega)]; omega
theorem cmp_eq {x y : Int} (h : x = y) : (Lib.compareInt x y == 0) = true := by
  unfold Lib.compareInt; rw [if_neg (by omega), if_neg (by omega)]; rfl
theorem cmp_ne {x y : Int} (h : x ≠ y) : (Lib.compareInt x y == 0) = false := by
  unfold Lib.compareInt
  split
  · rfl
  · rw [if_pos (by omega)]; rfl
theorem ixOf_none_some {nds : List Nd} {id : Int} {k : Nat} (H : Half nds id k k) (hr : Rise nds) : (nds.length ≤ k → (ixOf nds id).isSome = false) ∧ (∀ nd, nds[k]? = some nd → (nd.id = id → (ixOf nds id).isSome = true) ∧ (nd.id ≠ id → (ixOf nds id).isSome = false)) := by
  have e := H.at_ hr
  refine ⟨fun hl => by rw [e, List.getElem?_eq_none hl]; rfl, fun nd hnd => ⟨fun hx => by rw [e, hnd]; simp [hx], fun hx => by rw [e, hnd]; simp [hx]⟩⟩
def FindRel (nds : List Nd) (id : Int) (w : World) (n : Nat) (x y : Value) (wr : World) : Prop := ∃ l m q : Nat, m ≤ n ∧ x = .int .i64 l ∧ y = .int .i64 m ∧ Half nds id l m ∧ wr = w.drewN q
def DrewV (w : World) (v : Value) (e : Ending) (w' : World) : Prop := e = .returned v ∧ ∃ q, w' = w.drewN q
theorem drew_v {w : World} {v u : Value} {q : Nat} (h : v = u) : DrewV w u (.returned v) (w.drewN q) := ⟨by rw [h], q, rfl⟩
set_option maxHeartbeats 1600000 in
theorem find_any (w : World) (hi : Nat) (next id : Int) (A : Option Addr) (n c : Nat) (nds : List Nd) (p1 p2 : Nat) (h : NodesIn w 0 hi A n c nds) (hr : Rise nds) (hn : n ≤ 4096)
    (h1 : w.cell? ⟨p1, 0, none⟩ = some (.int .i64 id)) (h2 : w.cell? ⟨p2, 1, none⟩ = some (.slice A n c)) :
    Calls Tryd.prog 32 #[.int .i64 n, .func (.func 58) #[] #[.pointer (some ⟨p1, 0, none⟩), .pointer (some ⟨p2, 0, none⟩)]] w (DrewV w (ixV nds id)) := by
  have hc := h.2.2.1
  have hnc := h.2.1
  have hl := Lib.hid h.1
  have C1 : ∀ (q k : Nat) (b o : Nat) (nd : Nd) (L : Leaf), A = some ⟨b, o, none⟩ → k < n → NodeAt w b (o + k * 7) nd L → Calls Tryd.prog 58 #[.int .i64 k, .pointer (some ⟨p1, 0, none⟩), .pointer (some ⟨p2, 0, none⟩)] (w.drewN q) fun e w' => e = .returned (.int .i64 (Lib.compareInt id nd.id)) ∧ ∃ q', w' = w.drewN q' := by
    intro q k b o nd L hA hk hat
    subst hA
    refine (index1_any (w.drewN q) hi next id b o n c nds p1 p2 k nd L (by simpa using h1) (by simpa using h2) hk hnc hc (by simpa using hat.c0)).mono ?_
    rintro e w' ⟨he, q', hq⟩
    exact ⟨he, q + q', by rw [hq, World.drewN_drewN]⟩
  have HC := Lib.hid C1
  have H1 := Lib.hid h1
  have H2 := Lib.hid h2
  have hc63 : c ≤ 9223372036854775807 := by unfold maxLen at hc; omega
  clear C1 h1 h2 hc
  go_enter Tryd.func32, Tryd.ntmps32
  go_wp2_with fail
  go_loopw [4, 6] (fun x y wr => FindRel nds id w n x y wr) (fun x y _ => (intOf y - intOf x).toNat)
  case atStart => exact ⟨0, n, 0, Nat.le_refl _, rfl, rfl, Half.start nds id n hl.out, rfl⟩
  case round =>
    obtain ⟨l, m, q, hm, rfl, rfl, H, rfl⟩ := hrel
    have hle := H.le
    by_cases hlt : l < m
    · obtain ⟨b, o, nd, L, rfl, _, hb, hnd, hat, _⟩ := h.at_ (i := (l + m) / 2) (by omega)
      have hX := HC.out q ((l + m) / 2) b o nd L rfl (by omega) hat
      rw [show (((l + m) / 2 : Nat) : Int) = ((l : Int) + (m : Int)) / 2 from by omega] at hX
      have HX := Lib.hid hX
      clear hX
      by_cases hx : nd.id < id
      · have HU := Lib.hid (H.up hr hnd (by omega) hx)
        have d1 := (cmp_gt hx).1
        clear hx hnd hat
        go_wp2_with (go_at_call 58; refine HX.out.mono ?_; rintro e w' ⟨rfl, q', rfl⟩)
        go_roundw
        case rel => exact ⟨(l + m) / 2 + 1, m, q', hm, by go_num, rfl, HU.out, rfl⟩
        case measure => simp [intOf]; omega
      · have HU := Lib.hid (H.down hr hnd (by omega) (by omega))
        have d1 := cmp_le (x := id) (y := nd.id) (by omega)
        clear hx hnd hat
        go_wp2_with (go_at_call 58; refine HX.out.mono ?_; rintro e w' ⟨rfl, q', rfl⟩)
        go_roundw
        case rel => exact ⟨l, (l + m) / 2, q', by omega, rfl, by go_num, HU.out, rfl⟩
        case measure => simp [intOf]; omega
    · have he : m = l := by omega
      rw [he] at H
      clear he
      have hl' := hl.out
      have HR := Lib.hid (H.rank (by omega))
      by_cases hk : l < n
      · obtain ⟨b, o, nd, L, rfl, _, hb, hnd, hat, _⟩ := h.at_ (i := l) hk
        have HX := Lib.hid (HC.out q l b o nd L rfl (by omega) hat)
        have hS := (ixOf_none_some H hr).2 nd hnd
        by_cases hx : nd.id = id
        · have HS := Lib.hid (hS.1 hx)
          have d1 := cmp_eq hx.symm
          clear hx hS hnd hat hl'
          go_wp2_with (go_at_call 58; refine HX.out.mono ?_; rintro e w' ⟨rfl, q', rfl⟩)
          go_ret2
          unfold ixV
          rw [HS.out, HR.out]
          exact drew_v rfl
        · have HS := Lib.hid (hS.2 hx)
          have d1 := cmp_ne (x := id) (y := nd.id) (fun e => hx e.symm)
          clear hx hS hnd hat hl'
          go_wp2_with (go_at_call 58; refine HX.out.mono ?_; rintro e w' ⟨rfl, q', rfl⟩)
          go_ret2
          unfold ixV
          rw [HS.out, HR.out]
          exact drew_v rfl
      · have HS := Lib.hid ((ixOf_none_some H hr).1 (by omega))
        clear hl'
        go_wp2_with fail
        go_ret2
        unfold ixV
        rw [HS.out, HR.out]
        exact drew_v rfl
theorem ret_v {w w' : World} {v u : Value} (h : v = u) (hb : Below w.heap.size w w') : Ret w u (.returned v) w' := ⟨by rw [h], hb⟩
theorem rank_fast {nds : List Nd} (hr : Rise nds) {i : Nat} {nd : Nd} (h : nds[i]? = some nd) : rank nds nd.id = i ∧ (ixOf nds nd.id).isSome = true := by
  refine ⟨Half.rank (k := i) ⟨Nat.le_refl _, fun j a hj ha => hr.lt j i a nd hj ha h, fun j a hj ha => ?_⟩ (by have := (List.getElem?_eq_some_iff.1 h).1; omega), by rw [ixOf_is hr h rfl]; rfl⟩
  rcases Nat.lt_or_ge i j with g | g
  · have := hr.lt i j nd a g h ha; omega
  · obtain rfl : i = j := by omega
    rw [h] at ha; injection ha with ha; subst ha; exact Int.le_refl _
set_option maxHeartbeats 1600000 in
theorem index_any (w : World) (hi : Nat) (next id : Int) (A : Option Addr) (n c : Nat) (nds : List Nd) (h : NodesIn w 0 hi A n c nds) (hh : hi ≤ w.heap.size) (hr : Rise nds) (hn : n ≤ 4096) :
    Calls Tryd.prog 48 #[.agg #[.int .i64 next, .slice A n c], .int .i64 id] w (Ret w (ixV nds id)) := by
  have hc := h.2.2.1
  have hnc := h.2.1
  have hl := Lib.hid h.1
  have hc63 : c ≤ 9223372036854775807 := by unfold maxLen at hc; omega
  have hbel : Below w.heap.size w ((w.alloc (mdObj next A n c)).alloc (.cells #[.int .i64 id] 3)) := (below_box _ _).alloc (by simp) _
  have HB := Lib.hid hbel
  have hF : ∀ q, Calls Tryd.prog 32 #[.int .i64 n, .func (.func 58) #[] #[.pointer (some ⟨w.heap.size + 1, 0, none⟩), .pointer (some ⟨w.heap.size, 0, none⟩)]] (((w.alloc (mdObj next A n c)).alloc (.cells #[.int .i64 id] 3)).drewN q) (DrewV (((w.alloc (mdObj next A n c)).alloc (.cells #[.int .i64 id] 3)).drewN q) (ixV nds id)) := by
    intro q
    refine find_any _ hi next id A n c nds (w.heap.size + 1) w.heap.size ((h.below (hbel.mono hh)).below (below_drewN (Below.refl _ _) q)) hr hn ?_ ?_
    · exact World.cell?_alloc_at (hn := by simp) ..
    · exact (World.cell?_alloc_past (hn := by simp) ..).trans (World.cell?_alloc_at (hn := rfl) ..)
  have HF := Lib.hid hF
  unfold mdObj at HF HB
  clear hF hbel
  by_cases h0 : 0 < id
  · have d0 : decide (0 < id) = true := decide_eq_true h0
    by_cases h1 : id ≤ n
    · have d1 : decide (id ≤ (n : Int)) = true := decide_eq_true h1
      obtain ⟨m, rfl⟩ : ∃ m : Nat, id = (m : Int) + 1 := ⟨(id - 1).toNat, by omega⟩
      obtain ⟨b, o, nd, L, rfl, _, hb, hnd, hat, _⟩ := h.at_ (i := m) (by omega)
      have hcl : ∀ x, ((w.alloc (.cells #[.int .i64 next, .slice (some ⟨b, o, none⟩) n c] 24)).alloc x).cell? ⟨b, o + m * 7, none⟩ = some (.int .i64 nd.id) := fun x => cell_alloc (cell_alloc hat.c0 (Nat.lt_of_lt_of_le hb hh) _) (by simp; omega) x
      by_cases hx : nd.id = (m : Int) + 1
      · have d2 : (nd.id == (m : Int) + 1) = true := by rw [beq_iff_eq]; exact hx
        have HK := Lib.hid (rank_fast hr hnd)
        rw [hx] at HK
        clear hx hnd hat
        go_enter Tryd.func48, Tryd.ntmps48
        go_wp2_with fail
        go_quiet (fail)
        go_wp2_with fail
        go_ret2
        unfold ixV
        rw [HK.out.1, HK.out.2]
        exact ret_v rfl (below_drewN HB.out _)
      · have d2 : (nd.id == (m : Int) + 1) = false := by rw [beq_eq_false_iff_ne]; exact hx
        clear hx hnd hat
        go_enter Tryd.func48, Tryd.ntmps48
        go_wp2_with fail
        go_quiet (fail)
        go_wp2_with (go_at_call 32; refine (HF.out _).mono ?_; rintro e w' ⟨rfl, q', rfl⟩; unfold ixV)
        go_ret2
        exact ret_v rfl (below_drewN HB.out _)
    · have d1 : decide (id ≤ (n : Int)) = false := decide_eq_false h1
      go_enter Tryd.func48, Tryd.ntmps48
      go_wp2_with fail
      go_quiet (fail)
      go_wp2_with (go_at_call 32; refine (HF.out _).mono ?_; rintro e w' ⟨rfl, q', rfl⟩; unfold ixV)
      go_ret2
      exact ret_v rfl (below_drewN HB.out _)
  · have d0 : decide (0 < id) = false := decide_eq_false h0
    go_enter Tryd.func48, Tryd.ntmps48
    go_wp2_with fail
    go_quiet (fail)
    go_wp2_with (go_at_call 32; refine (HF.out _).mono ?_; rintro e w' ⟨rfl, q', rfl⟩; unfold ixV)
    go_ret2
    exact ret_v rfl (below_drewN HB.out _)
end Go.Proofs.YtdeoblhdojbbbaaDoor
namespace Go.Proofs.YtdeoblhdojbbbaaDoor
open Go Go.RowKit
set_option linter.unusedVariables false
theorem rank_ix {nds : List Nd} (hr : Rise nds) {id : Int} {i : Nat} (h : ixOf nds id = some i) : rank nds id = i := by
  obtain ⟨nd, h1, rfl⟩ := ixOf_some h
  exact (rank_fast hr h1).1
set_option maxHeartbeats 800000 in
theorem numbered_any (w : World) (hi : Nat) (next : Int) (A : Option Addr) (n c : Nat) (nds : List Nd) (h : NodesIn w 0 hi A n c nds) (hh : hi ≤ w.heap.size) :
    Calls Tryd.prog 26 #[.agg #[.int .i64 next, .slice A n c]] w (Ret w (.bool (numB next nds))) := by
  have hbx := below_box w (mdObj next A n c)
  unfold mdObj at hbx
  have HB := Lib.hid hbx
  clear hbx
  have hc := h.2.2.1
  have hnc := h.2.1
  have hl := h.1
  unfold maxLen at hc
  have HN : Hid (numB next nds = (headB next nds && idsB next 0 nds)) := Lib.hid rfl
  by_cases h1 : next < 1
  · have d1 : decide (next < 1) = true := decide_eq_true h1
    have HX : Hid (numB next nds = false) := Lib.hid (by rw [HN.out]; unfold headB; rw [decide_eq_false (by omega)]; rfl)
    clear hl
    go_enter Tryd.func26, Tryd.ntmps26
    go_wp2_with fail
    go_ret
    exact ret_b HX.out rfl HB.out
  · have d1 : decide (next < 1) = false := decide_eq_false h1
    by_cases h2 : 1048577 < next
    · have d2 : decide (1048577 < next) = true := decide_eq_true h2
      have HX : Hid (numB next nds = false) := Lib.hid (by rw [HN.out]; unfold headB; rw [decide_eq_false (p := next ≤ 1048577) (by omega)]; simp)
      clear hl
      go_enter Tryd.func26, Tryd.ntmps26
      go_wp2_with fail
      go_ret
      exact ret_b HX.out rfl HB.out
    · have d2 : decide (1048577 < next) = false := decide_eq_false h2
      by_cases h3 : 4096 < n
      · have d3 : decide (4096 < (n : Int)) = true := decide_eq_true (by omega)
        have HX : Hid (numB next nds = false) := Lib.hid (by rw [HN.out]; unfold headB; rw [decide_eq_false (p := nds.length ≤ 4096) (by omega)]; simp)
        clear hl
        go_enter Tryd.func26, Tryd.ntmps26
        go_wp2_with fail
        go_ret
        exact ret_b HX.out rfl HB.out
      · have d3 : decide (4096 < (n : Int)) = false := decide_eq_false (by omega)
        have HX : Hid (numB next nds = idsB next 0 (nds.drop 0)) := Lib.hid (by rw [HN.out]; unfold headB; rw [decide_eq_true (by omega), decide_eq_true (p := next ≤ 1048577) (by omega), decide_eq_true (p := nds.length ≤ 4096) (by omega)]; simp)
        have HL := Lib.hid hl
        clear hl HN
        go_enter Tryd.func26, Tryd.ntmps26
        go_wp2_with fail
        go_loop [3, 23] (fun l i => ∃ (k : Nat) (x : Int), k ≤ n ∧ i = .int .i64 k ∧ l = .int .i64 x ∧ Hid (numB next nds = idsB next x (nds.drop k))) (fun _ i => n - (intOf i).toNat)
        case atStart => exact ⟨0, 0, by omega, rfl, rfl, HX⟩
        case round =>
          obtain ⟨k, x, hk, rfl, rfl, HK⟩ := hrel
          by_cases hlt : k < n
          · obtain ⟨b, o, nd, L, rfl, _, hb, hnd, hat, _⟩ := h.at_ hlt
            have hcl := cell_alloc hat.c0 (Nat.lt_of_lt_of_le hb hh) (mdObj next (some ⟨b, o, none⟩) n c)
            unfold mdObj at hcl
            have hd : nds.drop k = nd :: nds.drop (k + 1) := by
              obtain ⟨hl', rfl⟩ := List.getElem?_eq_some_iff.1 hnd
              exact List.drop_eq_getElem_cons hl'
            have HD : Hid (numB next nds = (decide (x < nd.id) && decide (nd.id < next) && idsB next nd.id (nds.drop (k + 1)))) := Lib.hid (by rw [HK.out, hd, idsB])
            clear hd hnd hat HK
            by_cases g1 : nd.id ≤ x
            · have e1 : decide (nd.id ≤ x) = true := decide_eq_true g1
              have HZ : Hid (numB next nds = false) := Lib.hid (by rw [HD.out, decide_eq_false (by omega)]; rfl)
              clear HD
              go_wp2_with fail
              go_ret
              exact ret_b HZ.out rfl HB.out
            · have e1 : decide (nd.id ≤ x) = false := decide_eq_false g1
              by_cases g2 : next ≤ nd.id
              · have e2 : decide (next ≤ nd.id) = true := decide_eq_true g2
                have HZ : Hid (numB next nds = false) := Lib.hid (by rw [HD.out, decide_eq_false (p := nd.id < next) (by omega)]; simp)
                clear HD
                go_wp2_with fail
                go_ret
                exact ret_b HZ.out rfl HB.out
              · have e2 : decide (next ≤ nd.id) = false := decide_eq_false g2
                have HZ : Hid (numB next nds = idsB next nd.id (nds.drop (k + 1))) := Lib.hid (by rw [HD.out, decide_eq_true (by omega), decide_eq_true (p := nd.id < next) (by omega)]; rfl)
                clear HD
                go_wp2_with fail
                go_round
                case rel => exact ⟨k + 1, nd.id, by omega, by go_num, rfl, HZ⟩
                case measure => simp [intOf]; omega
          · have HZ : Hid (numB next nds = true) := Lib.hid (by rw [HK.out, List.drop_eq_nil_of_le (by rw [HL.out]; omega)]; rfl)
            clear HK
            go_wp2_with fail
            go_ret
            exact ret_b HZ.out rfl HB.out
end Go.Proofs.YtdeoblhdojbbbaaDoor

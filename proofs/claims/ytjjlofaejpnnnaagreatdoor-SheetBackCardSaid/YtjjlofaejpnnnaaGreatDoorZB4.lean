/-
  WALKS: the place of a number among the nodes: At of the document.
  WALKS: the place of a number among the nodes: index, has, node of the program.
  WALKS: has, node of the program; the checks of numbers, texts, lists.
  WALKS: roleSpelt, propsSpelt, refsSpelt, spelt of the program.
-/
import Derived.Test.YtjjlofaejpnnnaaGreatDoorZB3
import Derived.Deep.QuietTactic
import Derived.BigQuiet
namespace Go.Proofs.YtjjlofaejpnnnaaGreatDoor
open Go Go.RowKit
set_option linter.unusedVariables false
def mdObj (next : Int) (A : Option Addr) (n c : Nat) : Obj := .cells #[.int .i64 next, .slice A n c] 25
/-- halves: what is known of the places on both sides -/
structure Half (nds : List Nd) (id : Int) (l h : Nat) : Prop where
  le : l ≤ h
  lo : ∀ (i : Nat) nd, i < l → nds[i]? = some nd → nd.id < id
  hi : ∀ (i : Nat) nd, h ≤ i → nds[i]? = some nd → id ≤ nd.id
theorem Half.start (nds : List Nd) (id : Int) (n : Nat) (hn : nds.length = n) : Half nds id 0 n :=
  ⟨Nat.zero_le _, fun i nd hi => absurd hi (by omega), fun i nd hi hg => by have := (List.getElem?_eq_some_iff.1 hg).1; omega⟩
theorem Half.up {nds : List Nd} {id : Int} {l h m : Nat} {nd : Nd} (H : Half nds id l h) (hr : Rise nds) (hm : nds[m]? = some nd) (h1 : m < h) (hlt : nd.id < id) : Half nds id (m + 1) h :=
  ⟨by omega, fun i nd' hi hg => by
    rcases Nat.lt_or_ge i m with g | g
    · have := hr.lt i m nd' nd g hg hm; omega
    · obtain rfl : i = m := by omega
      rw [hm] at hg; injection hg with hg; subst hg; exact hlt, H.hi⟩
theorem Half.down {nds : List Nd} {id : Int} {l h m : Nat} {nd : Nd} (H : Half nds id l h) (hr : Rise nds) (hm : nds[m]? = some nd) (h1 : l ≤ m) (hge : id ≤ nd.id) : Half nds id l m :=
  ⟨h1, H.lo, fun i nd' hi hg => by
    rcases Nat.lt_or_ge m i with g | g
    · have := hr.lt m i nd nd' g hm hg; omega
    · obtain rfl : i = m := by omega
      rw [hm] at hg; injection hg with hg; subst hg; exact hge⟩
theorem Half.at_ {nds : List Nd} {id : Int} {k : Nat} (H : Half nds id k k) (hr : Rise nds) : ixOf nds id = match nds[k]? with | some nd => if nd.id = id then some k else none | none => none :=
  ixOf_at hr H.lo H.hi
theorem below_box (w : World) (x : Obj) : Below w.heap.size w (w.alloc x) := (Below.refl _ _).alloc (Nat.le_refl _) _
theorem ret_i {w w' : World} {v : Value} {k : IntKind} {a b : Int} (h : b = a) (hv : v = .int k a) (hb : Below w.heap.size w w') : Ret w (.int k b) (.returned v) w' := ⟨by rw [hv, h], hb⟩
theorem ret_b {w w' : World} {v : Value} {a b : Bool} (h : b = a) (hv : v = .bool a) (hb : Below w.heap.size w w') : Ret w (.bool b) (.returned v) w' := ⟨by rw [hv, h], hb⟩
end Go.Proofs.YtjjlofaejpnnnaaGreatDoor
namespace Go.Proofs.YtjjlofaejpnnnaaGreatDoor
open Go Go.RowKit
set_option linter.unusedVariables false
/-- how many nodes have a lower number -/
def rank (nds : List Nd) (id : Int) : Nat := nds.countP (fun n => decide (n.id < id))
theorem Half.rank {nds : List Nd} {id : Int} {k : Nat} (H : Half nds id k k) (hk : k ≤ nds.length) : rank nds id = k := by
  unfold Proofs.YtjjlofaejpnnnaaGreatDoor.rank
  have e : nds = nds.take k ++ nds.drop k := (List.take_append_drop k nds).symm
  rw [e, List.countP_append]
  have h1 : List.countP (fun n => decide (n.id < id)) (nds.take k) = (nds.take k).length := by
    rw [List.countP_eq_length]
    intro a ha
    obtain ⟨i, hi⟩ := List.getElem?_of_mem ha
    rw [List.getElem?_take] at hi
    split at hi
    · simpa using H.lo i a (by assumption) hi
    · cases hi
  have h2 : List.countP (fun n => decide (n.id < id)) (nds.drop k) = 0 := by
    rw [List.countP_eq_zero]
    intro a ha
    obtain ⟨i, hi⟩ := List.getElem?_of_mem ha
    rw [List.getElem?_drop] at hi
    have := H.hi (k + i) a (by omega) hi
    simp; omega
  rw [h1, h2, List.length_take]
  omega
/-- what index tells -/
def ixV (nds : List Nd) (id : Int) : Value := .tuple #[.int .i64 (rank nds id), .bool (ixOf nds id).isSome]
set_option maxHeartbeats 400000 in
theorem index1_any (w : World) (hi : Nat) (next id : Int) (b o n c : Nat) (nds : List Nd) (p1 p2 : Nat) (k : Nat) (nd : Nd) (L : Leaf)
    (h1 : w.cell? ⟨p1, 0, none⟩ = some (.int .i64 id)) (h2 : w.cell? ⟨p2, 1, none⟩ = some (.slice (some ⟨b, o, none⟩) n c)) (hk : k < n) (hnc : n ≤ c) (hc : c ≤ maxLen)
    (hat : w.cell? ⟨b, o + k * 7, none⟩ = some (.int .i64 nd.id)) :
    Calls Tryz.prog 99 #[.int .i64 k, .pointer (some ⟨p1, 0, none⟩), .pointer (some ⟨p2, 0, none⟩)] w fun e w' => e = .returned (.int .i64 (Lib.compareInt id nd.id)) ∧ ∃ q, w' = w.drewN q := by
  unfold maxLen at hc
  go_enter Tryz.func99, Tryz.ntmps99
  go_wp2_with fail
  go_quiet ((go_at_call 49; exact Calls.quiet_of_same (Tryz.cmp_Compare_int _ _ _)))
  go_wp2
  go_ret
  exact ⟨rfl, _, rfl⟩
theorem cmp_gt {x y : Int} (h : y < x) : (0 : Int) < Lib.compareInt x y ∧ (Lib.compareInt x y == 0) = false := by
  unfold Lib.compareInt; rw [if_neg (by omega), if_pos (by omega)]; exact ⟨by omega, rfl⟩
theorem cmp_le {x y : Int} (h : x ≤ y) : decide ((0 : Int) < Lib.compareInt x y) = false := by
  unfold Lib.compareInt
  refine decide_eq_false ?_
  split
  · omega
  · rw [if_neg (by omega)]; omega
theorem cmp_eq {x y : Int} (h : x = y) : (Lib.compareInt x y == 0) = true := by
  unfold Lib.compareInt; rw [if_neg (by omega), if_neg (by omega)]; rfl
theorem cmp_ne {x y : Int} (h : x ≠ y) : (Lib.compareInt x y == 0) = false := by
  unfold Lib.compareInt
  split
  · rfl
  · rw [if_pos (by omega)]; rfl
theorem ixOf_none_some {nds : List Nd} {id : Int} {k : Nat} (H : Half nds id k k) (hr : Rise nds) : (nds.length ≤ k → (ixOf nds id).isSome = false) ∧ (∀ nd, nds[k]? = some nd → (nd.id = id → (ixOf nds id).isSome = true) ∧ (nd.id ≠ id → (ixOf nds id).isSome = false)) := by
  have e := H.at_ hr
  refine ⟨fun hl => by rw [e, List.getElem?_eq_none hl]; rfl, fun nd hnd => ⟨fun hx => by rw [e, hnd]; simp [hx], fun hx => by rw [e, hnd]; simp [hx]⟩⟩
def FindRel (nds : List Nd) (id : Int) (w : World) (n : Nat) (x y : Value) (wr : World) : Prop := ∃ l m q : Nat, m ≤ n ∧ x = .int .i64 l ∧ y = .int .i64 m ∧ Half nds id l m ∧ wr = w.drewN q
def DrewV (w : World) (v : Value) (e : Ending) (w' : World) : Prop := e = .returned v ∧ ∃ q, w' = w.drewN q
theorem drew_v {w : World} {v u : Value} {q : Nat} (h : v = u) : DrewV w u (.returned v) (w.drewN q) := ⟨by rw [h], q, rfl⟩
set_option maxHeartbeats 1600000 in
theorem find_any (w : World) (hi : Nat) (next id : Int) (A : Option Addr) (n c : Nat) (nds : List Nd) (p1 p2 : Nat) (h : NodesIn w 0 hi A n c nds) (hr : Rise nds) (hn : n ≤ 4096)
    (h1 : w.cell? ⟨p1, 0, none⟩ = some (.int .i64 id)) (h2 : w.cell? ⟨p2, 1, none⟩ = some (.slice A n c)) :
    Calls Tryz.prog 62 #[.int .i64 n, .func (.func 99) #[] #[.pointer (some ⟨p1, 0, none⟩), .pointer (some ⟨p2, 0, none⟩)]] w (DrewV w (ixV nds id)) := by
  have hc := h.2.2.1
  have hnc := h.2.1
  have hl := Lib.hid h.1
  have C1 : ∀ (q k : Nat) (b o : Nat) (nd : Nd) (L : Leaf), A = some ⟨b, o, none⟩ → k < n → NodeAt w b (o + k * 7) nd L → Calls Tryz.prog 99 #[.int .i64 k, .pointer (some ⟨p1, 0, none⟩), .pointer (some ⟨p2, 0, none⟩)] (w.drewN q) fun e w' => e = .returned (.int .i64 (Lib.compareInt id nd.id)) ∧ ∃ q', w' = w.drewN q' := by
    intro q k b o nd L hA hk hat
    subst hA
    refine (index1_any (w.drewN q) hi next id b o n c nds p1 p2 k nd L (by simpa using h1) (by simpa using h2) hk hnc hc (by simpa using hat.c0)).mono ?_
    rintro e w' ⟨he, q', hq⟩
    exact ⟨he, q + q', by rw [hq, World.drewN_drewN]⟩
  have HC := Lib.hid C1
  have H1 := Lib.hid h1
  have H2 := Lib.hid h2
  have hc63 : c ≤ 9223372036854775807 := by unfold maxLen at hc; omega
  clear C1 h1 h2 hc
  go_enter Tryz.func62, Tryz.ntmps62
  go_wp2_with fail
  go_loopw [4, 6] (fun x y wr => FindRel nds id w n x y wr) (fun x y _ => (intOf y - intOf x).toNat)
  case atStart => exact ⟨0, n, 0, Nat.le_refl _, rfl, rfl, Half.start nds id n hl.out, rfl⟩
  case round =>
    obtain ⟨l, m, q, hm, rfl, rfl, H, rfl⟩ := hrel
    have hle := H.le
    by_cases hlt : l < m
    · obtain ⟨b, o, nd, L, rfl, _, hb, hnd, hat, _⟩ := h.at_ (i := (l + m) / 2) (by omega)
      have hX := HC.out q ((l + m) / 2) b o nd L rfl (by omega) hat
      rw [show (((l + m) / 2 : Nat) : Int) = ((l : Int) + (m : Int)) / 2 from by omega] at hX
      have HX := Lib.hid hX
      clear hX
      by_cases hx : nd.id < id
      · have HU := Lib.hid (H.up hr hnd (by omega) hx)
        have d1 := (cmp_gt hx).1
        clear hx hnd hat
        go_wp2_with (go_at_call 99; refine HX.out.mono ?_; rintro e w' ⟨rfl, q', rfl⟩)
        go_roundw
        case rel => exact ⟨(l + m) / 2 + 1, m, q', hm, by go_num, rfl, HU.out, rfl⟩
        case measure => simp [intOf]; omega
      · have HU := Lib.hid (H.down hr hnd (by omega) (by omega))
        have d1 := cmp_le (x := id) (y := nd.id) (by omega)
        clear hx hnd hat
        go_wp2_with (go_at_call 99; refine HX.out.mono ?_; rintro e w' ⟨rfl, q', rfl⟩)
        go_roundw
        case rel => exact ⟨l, (l + m) / 2, q', by omega, rfl, by go_num, HU.out, rfl⟩
        case measure => simp [intOf]; omega
    · have he : m = l := by omega
      rw [he] at H
      clear he
      have hl' := hl.out
      have HR := Lib.hid (H.rank (by omega))
      by_cases hk : l < n
      · obtain ⟨b, o, nd, L, rfl, _, hb, hnd, hat, _⟩ := h.at_ (i := l) hk
        have HX := Lib.hid (HC.out q l b o nd L rfl (by omega) hat)
        have hS := (ixOf_none_some H hr).2 nd hnd
        by_cases hx : nd.id = id
        · have HS := Lib.hid (hS.1 hx)
          have d1 := cmp_eq hx.symm
          clear hx hS hnd hat hl'
          go_wp2_with (go_at_call 99; refine HX.out.mono ?_; rintro e w' ⟨rfl, q', rfl⟩)
          go_ret2
          unfold ixV
          rw [HS.out, HR.out]
          exact drew_v rfl
        · have HS := Lib.hid (hS.2 hx)
          have d1 := cmp_ne (x := id) (y := nd.id) (fun e => hx e.symm)
          clear hx hS hnd hat hl'
          go_wp2_with (go_at_call 99; refine HX.out.mono ?_; rintro e w' ⟨rfl, q', rfl⟩)
          go_ret2
          unfold ixV
          rw [HS.out, HR.out]
          exact drew_v rfl
      · have HS := Lib.hid ((ixOf_none_some H hr).1 (by omega))
        clear hl'
        go_wp2_with fail
        go_ret2
        unfold ixV
        rw [HS.out, HR.out]
        exact drew_v rfl
theorem ret_v {w w' : World} {v u : Value} (h : v = u) (hb : Below w.heap.size w w') : Ret w u (.returned v) w' := ⟨by rw [h], hb⟩
theorem rank_fast {nds : List Nd} (hr : Rise nds) {i : Nat} {nd : Nd} (h : nds[i]? = some nd) : rank nds nd.id = i ∧ (ixOf nds nd.id).isSome = true := by
  refine ⟨Half.rank (k := i) ⟨Nat.le_refl _, fun j a hj ha => hr.lt j i a nd hj ha h, fun j a hj ha => ?_⟩ (by have := (List.getElem?_eq_some_iff.1 h).1; omega), by rw [ixOf_is hr h rfl]; rfl⟩
  rcases Nat.lt_or_ge i j with g | g
  · have := hr.lt i j nd a g h ha; omega
  · obtain rfl : i = j := by omega
    rw [h] at ha; injection ha with ha; subst ha; exact Int.le_refl _
set_option maxHeartbeats 1600000 in
theorem index_any (w : World) (hi : Nat) (next id : Int) (A : Option Addr) (n c : Nat) (nds : List Nd) (h : NodesIn w 0 hi A n c nds) (hh : hi ≤ w.heap.size) (hr : Rise nds) (hn : n ≤ 4096) :
    Calls Tryz.prog 68 #[.agg #[.int .i64 next, .slice A n c], .int .i64 id] w (Ret w (ixV nds id)) := by
  have hc := h.2.2.1
  have hnc := h.2.1
  have hl := Lib.hid h.1
  have hc63 : c ≤ 9223372036854775807 := by unfold maxLen at hc; omega
  have hbel : Below w.heap.size w ((w.alloc (mdObj next A n c)).alloc (.cells #[.int .i64 id] 3)) := (below_box _ _).alloc (by simp) _
  have HB := Lib.hid hbel
  have hF : ∀ q, Calls Tryz.prog 62 #[.int .i64 n, .func (.func 99) #[] #[.pointer (some ⟨w.heap.size + 1, 0, none⟩), .pointer (some ⟨w.heap.size, 0, none⟩)]] (((w.alloc (mdObj next A n c)).alloc (.cells #[.int .i64 id] 3)).drewN q) (DrewV (((w.alloc (mdObj next A n c)).alloc (.cells #[.int .i64 id] 3)).drewN q) (ixV nds id)) := by
    intro q
    refine find_any _ hi next id A n c nds (w.heap.size + 1) w.heap.size ((h.below (hbel.mono hh)).below (below_drewN (Below.refl _ _) q)) hr hn ?_ ?_
    · exact World.cell?_alloc_at (hn := by simp) ..
    · exact (World.cell?_alloc_past (hn := by simp) ..).trans (World.cell?_alloc_at (hn := rfl) ..)
  have HF := Lib.hid hF
  unfold mdObj at HF HB
  clear hF hbel
  by_cases h0 : 0 < id
  · have d0 : decide (0 < id) = true := decide_eq_true h0
    by_cases h1 : id ≤ n
    · have d1 : decide (id ≤ (n : Int)) = true := decide_eq_true h1
      obtain ⟨m, rfl⟩ : ∃ m : Nat, id = (m : Int) + 1 := ⟨(id - 1).toNat, by omega⟩
      obtain ⟨b, o, nd, L, rfl, _, hb, hnd, hat, _⟩ := h.at_ (i := m) (by omega)
      have hcl : ∀ x, ((w.alloc (.cells #[.int .i64 next, .slice (some ⟨b, o, none⟩) n c] 25)).alloc x).cell? ⟨b, o + m * 7, none⟩ = some (.int .i64 nd.id) := fun x => cell_alloc (cell_alloc hat.c0 (Nat.lt_of_lt_of_le hb hh) _) (by simp; omega) x
      by_cases hx : nd.id = (m : Int) + 1
      · have d2 : (nd.id == (m : Int) + 1) = true := by rw [beq_iff_eq]; exact hx
        have HK := Lib.hid (rank_fast hr hnd)
        rw [hx] at HK
        clear hx hnd hat
        go_enter Tryz.func68, Tryz.ntmps68
        go_wp2_with fail
        go_quiet (fail)
        go_wp2_with fail
        go_ret2
        unfold ixV
        rw [HK.out.1, HK.out.2]
        exact ret_v rfl (below_drewN HB.out _)
      · have d2 : (nd.id == (m : Int) + 1) = false := by rw [beq_eq_false_iff_ne]; exact hx
        clear hx hnd hat
        go_enter Tryz.func68, Tryz.ntmps68
        go_wp2_with fail
        go_quiet (fail)
        go_wp2_with (go_at_call 62; refine (HF.out _).mono ?_; rintro e w' ⟨rfl, q', rfl⟩; unfold ixV)
        go_ret2
        exact ret_v rfl (below_drewN HB.out _)
    · have d1 : decide (id ≤ (n : Int)) = false := decide_eq_false h1
      go_enter Tryz.func68, Tryz.ntmps68
      go_wp2_with fail
      go_quiet (fail)
      go_wp2_with (go_at_call 62; refine (HF.out _).mono ?_; rintro e w' ⟨rfl, q', rfl⟩; unfold ixV)
      go_ret2
      exact ret_v rfl (below_drewN HB.out _)
  · have d0 : decide (0 < id) = false := decide_eq_false h0
    go_enter Tryz.func68, Tryz.ntmps68
    go_wp2_with fail
    go_quiet (fail)
    go_wp2_with (go_at_call 62; refine (HF.out _).mono ?_; rintro e w' ⟨rfl, q', rfl⟩; unfold ixV)
    go_ret2
    exact ret_v rfl (below_drewN HB.out _)
end Go.Proofs.YtjjlofaejpnnnaaGreatDoor
namespace Go.Proofs.YtjjlofaejpnnnaaGreatDoor
open Go Go.RowKit
set_option linter.unusedVariables false
theorem rank_ix {nds : List Nd} (hr : Rise nds) {id : Int} {i : Nat} (h : ixOf nds id = some i) : rank nds id = i := by
  obtain ⟨nd, h1, rfl⟩ := ixOf_some h
  exact (rank_fast hr h1).1
set_option maxHeartbeats 400000 in
theorem has_any (w : World) (hi : Nat) (next id : Int) (A : Option Addr) (n c : Nat) (nds : List Nd) (h : NodesIn w 0 hi A n c nds) (hh : hi ≤ w.heap.size) (hr : Rise nds) (hn : n ≤ 4096) :
    Calls Tryz.prog 57 #[.agg #[.int .i64 next, .slice A n c], .int .i64 id] w (Ret w (.bool (ixOf nds id).isSome)) := by
  have hbx := below_box w (mdObj next A n c)
  have HI := Lib.hid (index_any (w.alloc (mdObj next A n c)) hi next id A n c nds (h.below (hbx.mono hh)) (by simp; omega) hr hn)
  unfold mdObj at HI hbx
  have HB := Lib.hid hbx
  clear hbx h
  go_enter Tryz.func57, Tryz.ntmps57
  go_wp2_with (go_at_call 68; refine HI.out.mono ?_; rintro e w' ⟨rfl, hb⟩; unfold ixV)
  go_ret
  exact ret_v rfl (HB.out.trans (hb.mono (by simp)))
set_option maxHeartbeats 400000 in
theorem node_any (w : World) (hi : Nat) (next id : Int) (A : Option Addr) (n c : Nat) (nds : List Nd) (h : NodesIn w 0 hi A n c nds) (hh : hi ≤ w.heap.size) (hr : Rise nds) (hn : n ≤ 4096)
    (p : Value) (hp : match ixOf nds id with | some i => ∃ b o, A = some ⟨b, o, none⟩ ∧ p = .pointer (some ⟨b, o + i * 7, none⟩) | none => p = .pointer none) :
    Calls Tryz.prog 59 #[.agg #[.int .i64 next, .slice A n c], .int .i64 id] w (Ret w p) := by
  have hbx := below_box w (mdObj next A n c)
  have HI := Lib.hid (index_any (w.alloc (mdObj next A n c)) hi next id A n c nds (h.below (hbx.mono hh)) (by simp; omega) hr hn)
  have hc := h.2.2.1
  have hnc := h.2.1
  have hl := h.1
  unfold maxLen at hc
  unfold mdObj at HI hbx
  have HB := Lib.hid hbx
  clear hbx h
  cases hx : ixOf nds id with
  | none =>
    rw [hx] at hp
    have hp : p = .pointer none := hp
    subst hp
    have HS : Hid ((ixOf nds id).isSome = false) := Lib.hid (by rw [hx]; rfl)
    clear hx
    go_enter Tryz.func59, Tryz.ntmps59
    go_wp2_with (go_at_call 68; refine HI.out.mono ?_; rintro e w' ⟨rfl, hb⟩; unfold ixV; rw [HS.out])
    go_ret
    exact ret_v rfl (HB.out.trans (hb.mono (by simp)))
  | some i =>
    rw [hx] at hp
    obtain ⟨b, o, rfl, rfl⟩ := hp
    have hi := ixOf_lt hx
    rw [hl] at hi
    have HS : Hid ((ixOf nds id).isSome = true) := Lib.hid (by rw [hx]; rfl)
    have HR := Lib.hid (rank_ix hr hx)
    clear hx hl
    go_enter Tryz.func59, Tryz.ntmps59
    go_wp2_with (go_at_call 68; refine HI.out.mono ?_; rintro e w' ⟨rfl, hb⟩; unfold ixV; rw [HS.out, HR.out]; obtain ⟨hcl, hfr⟩ := bcell hb)
    go_ret
    exact ret_v rfl (HB.out.trans (hb.mono (by simp)))
set_option maxHeartbeats 800000 in
theorem numbered_any (w : World) (hi : Nat) (next : Int) (A : Option Addr) (n c : Nat) (nds : List Nd) (h : NodesIn w 0 hi A n c nds) (hh : hi ≤ w.heap.size) :
    Calls Tryz.prog 30 #[.agg #[.int .i64 next, .slice A n c]] w (Ret w (.bool (numB next nds))) := by
  have hbx := below_box w (mdObj next A n c)
  unfold mdObj at hbx
  have HB := Lib.hid hbx
  clear hbx
  have hc := h.2.2.1
  have hnc := h.2.1
  have hl := h.1
  unfold maxLen at hc
  have HN : Hid (numB next nds = (headB next nds && idsB next 0 nds)) := Lib.hid rfl
  by_cases h1 : next < 1
  · have d1 : decide (next < 1) = true := decide_eq_true h1
    have HX : Hid (numB next nds = false) := Lib.hid (by rw [HN.out]; unfold headB; rw [decide_eq_false (by omega)]; rfl)
    clear hl
    go_enter Tryz.func30, Tryz.ntmps30
    go_wp2_with fail
    go_ret
    exact ret_b HX.out rfl HB.out
  · have d1 : decide (next < 1) = false := decide_eq_false h1
    by_cases h2 : 1048577 < next
    · have d2 : decide (1048577 < next) = true := decide_eq_true h2
      have HX : Hid (numB next nds = false) := Lib.hid (by rw [HN.out]; unfold headB; rw [decide_eq_false (p := next ≤ 1048577) (by omega)]; simp)
      clear hl
      go_enter Tryz.func30, Tryz.ntmps30
      go_wp2_with fail
      go_ret
      exact ret_b HX.out rfl HB.out
    · have d2 : decide (1048577 < next) = false := decide_eq_false h2
      by_cases h3 : 4096 < n
      · have d3 : decide (4096 < (n : Int)) = true := decide_eq_true (by omega)
        have HX : Hid (numB next nds = false) := Lib.hid (by rw [HN.out]; unfold headB; rw [decide_eq_false (p := nds.length ≤ 4096) (by omega)]; simp)
        clear hl
        go_enter Tryz.func30, Tryz.ntmps30
        go_wp2_with fail
        go_ret
        exact ret_b HX.out rfl HB.out
      · have d3 : decide (4096 < (n : Int)) = false := decide_eq_false (by omega)
        have HX : Hid (numB next nds = idsB next 0 (nds.drop 0)) := Lib.hid (by rw [HN.out]; unfold headB; rw [decide_eq_true (by omega), decide_eq_true (p := next ≤ 1048577) (by omega), decide_eq_true (p := nds.length ≤ 4096) (by omega)]; simp)
        have HL := Lib.hid hl
        clear hl HN
        go_enter Tryz.func30, Tryz.ntmps30
        go_wp2_with fail
        go_loop [3, 23] (fun l i => ∃ (k : Nat) (x : Int), k ≤ n ∧ i = .int .i64 k ∧ l = .int .i64 x ∧ Hid (numB next nds = idsB next x (nds.drop k))) (fun _ i => n - (intOf i).toNat)
        case atStart => exact ⟨0, 0, by omega, rfl, rfl, HX⟩
        case round =>
          obtain ⟨k, x, hk, rfl, rfl, HK⟩ := hrel
          by_cases hlt : k < n
          · obtain ⟨b, o, nd, L, rfl, _, hb, hnd, hat, _⟩ := h.at_ hlt
            have hcl := cell_alloc hat.c0 (Nat.lt_of_lt_of_le hb hh) (mdObj next (some ⟨b, o, none⟩) n c)
            unfold mdObj at hcl
            have hd : nds.drop k = nd :: nds.drop (k + 1) := by
              obtain ⟨hl', rfl⟩ := List.getElem?_eq_some_iff.1 hnd
              exact List.drop_eq_getElem_cons hl'
            have HD : Hid (numB next nds = (decide (x < nd.id) && decide (nd.id < next) && idsB next nd.id (nds.drop (k + 1)))) := Lib.hid (by rw [HK.out, hd, idsB])
            clear hd hnd hat HK
            by_cases g1 : nd.id ≤ x
            · have e1 : decide (nd.id ≤ x) = true := decide_eq_true g1
              have HZ : Hid (numB next nds = false) := Lib.hid (by rw [HD.out, decide_eq_false (by omega)]; rfl)
              clear HD
              go_wp2_with fail
              go_ret
              exact ret_b HZ.out rfl HB.out
            · have e1 : decide (nd.id ≤ x) = false := decide_eq_false g1
              by_cases g2 : next ≤ nd.id
              · have e2 : decide (next ≤ nd.id) = true := decide_eq_true g2
                have HZ : Hid (numB next nds = false) := Lib.hid (by rw [HD.out, decide_eq_false (p := nd.id < next) (by omega)]; simp)
                clear HD
                go_wp2_with fail
                go_ret
                exact ret_b HZ.out rfl HB.out
              · have e2 : decide (next ≤ nd.id) = false := decide_eq_false g2
                have HZ : Hid (numB next nds = idsB next nd.id (nds.drop (k + 1))) := Lib.hid (by rw [HD.out, decide_eq_true (by omega), decide_eq_true (p := nd.id < next) (by omega)]; rfl)
                clear HD
                go_wp2_with fail
                go_round
                case rel => exact ⟨k + 1, nd.id, by omega, by go_num, rfl, HZ⟩
                case measure => simp [intOf]; omega
          · have HZ : Hid (numB next nds = true) := Lib.hid (by rw [HK.out, List.drop_eq_nil_of_le (by rw [HL.out]; omega)]; rfl)
            clear HK
            go_wp2_with fail
            go_ret
            exact ret_b HZ.out rfl HB.out
end Go.Proofs.YtjjlofaejpnnnaaGreatDoor
namespace Go.Proofs.YtjjlofaejpnnnaaGreatDoor
open Go Go.RowKit Go.Sort
set_option linter.unusedVariables false
theorem quiet_says {P : Program} {f : FuncId} {args : Array Value} {w : World} {n : Nat} {b : Bool} (h : Calls P f args (w.drewN n) (Says (w.drewN n) b)) : Calls P f args (w.drewN n) fun e w'' => e = .returned (.bool b) ∧ ∃ m, w'' = w.drewN m :=
  h.mono fun e w' ⟨he, hw⟩ => ⟨he, n, hw.symm⟩
def prevP (l : List (ByteArray × ByteArray)) (k : Nat) : Option ByteArray := if k = 0 then none else (l[k - 1]?).map (·.1)
def prevR (l : List (ByteArray × Int)) (k : Nat) : Option ByteArray := if k = 0 then none else (l[k - 1]?).map (·.1)
theorem leqB {a q : ByteArray} : (Op.bytesLess a.toList q.toList || a.toList == q.toList) = !ltS q a := by rw [leq_not]; rfl
set_option maxHeartbeats 1600000 in
theorem propsSpelt_any (w : World) (hi : Nat) (A : Option Addr) (n c : Nat) (l : List (ByteArray × ByteArray)) (h : Row w 0 hi 2 A n c (propCells l)) (hh : hi ≤ w.heap.size) (hs : ∀ p ∈ l, p.1.size ≤ maxLen ∧ p.2.size ≤ maxLen) :
    Calls Tryz.prog 66 #[.slice A n c] w (Ret w (.bool (propsB none l))) := by
  have hc := h.2.2.1
  have hnc := h.2.1
  have hl : l.length = n := by have := h.1; rw [propCells_length] at this; omega
  have HL := Lib.hid hl
  unfold maxLen at hc
  go_enter Tryz.func66, Tryz.ntmps66
  go_wp2_with fail
  go_loopw [7] (fun i wr => ∃ k : Nat, k ≤ n ∧ i = .int .i64 k ∧ Hid (propsB none l = propsB (prevP l k) (l.drop k)) ∧ Below w.heap.size w wr) (fun i _ => n - (intOf i).toNat)
  case atStart => exact ⟨0, by omega, rfl, Lib.hid rfl, Below.refl _ _⟩
  case round =>
    obtain ⟨k, hk, rfl, HK, hbel⟩ := hrel
    have HBel := Lib.hid hbel
    by_cases hlt : k < n
    · obtain ⟨b, o, rfl, _, hb, hcells⟩ := (h.below (hbel.mono hh)).at_ (by omega)
      have hbl : b < wr.heap.size := by have := hbel.size; omega
      obtain ⟨p, hp⟩ : ∃ p, l[k]? = some p := ⟨l[k]'(by omega), List.getElem?_eq_getElem (by omega)⟩
      have hc0 := hcells _ _ (propCells_get hp).1
      have hc1 := hcells _ _ (propCells_get hp).2
      have hc1 : wr.cell? ⟨b, o + k * 2 + 1, none⟩ = some (.string p.2) := by rw [Nat.add_assoc]; exact hc1
      obtain ⟨s1, s2⟩ := hs p (List.mem_of_getElem? hp)
      unfold maxLen at s2
      have hd : l.drop k = p :: l.drop (k + 1) := by
        obtain ⟨hl', rfl⟩ := List.getElem?_eq_some_iff.1 hp
        exact List.drop_eq_getElem_cons hl'
      have hpv : prevP l (k + 1) = some p.1 := by unfold prevP; rw [if_neg (by omega), Nat.add_sub_cancel, hp]; rfl
      have HD : Hid (propsB none l = (wordB p.1 && decide (p.2.size ≤ 4096) && aboveB (prevP l k) p.1 && propsB (prevP l (k + 1)) (l.drop (k + 1)))) := Lib.hid (by rw [HK.out, hd, propsB, hpv])
      clear HK hd hpv hbel
      obtain ⟨a, v⟩ := p
      simp only at hc0 hc1 s1 s2 HD
      have HS1 := Lib.hid s1
      have hgo := below_box wr (.cells #[.string a, .string v] 60)
      have HGO := Lib.hid hgo
      clear s1 hgo
      cases hw : wordB a with
      | false =>
        have HW := Lib.hid hw
        have HZ : Hid (propsB none l = false) := Lib.hid (by rw [HD.out, hw]; rfl)
        clear HD hw
        go_wp2_with fail
        go_quiet ((go_at_call 64; exact quiet_says (word_is _ _ _ HS1.out HW.out)))
        go_wp2_with fail
        go_ret
        exact ret_b HZ.out rfl (HBel.out.trans ((below_drewN HGO.out _).mono HBel.out.size))
      | true =>
        have HW := Lib.hid hw
        by_cases hz : v.size ≤ 4096
        · have d1 : decide ((4096 : Int) < (v.size : Int)) = false := decide_eq_false (by omega)
          by_cases h0 : k = 0
          · have HZ : Hid (propsB none l = propsB (prevP l (k + 1)) (l.drop (k + 1))) := Lib.hid (by rw [HD.out, hw, decide_eq_true hz, h0]; rfl)
            have d2 : decide (0 < k) = false := decide_eq_false (by omega)
            clear HD hw h0
            go_wp2_with fail
            go_quiet ((go_at_call 64; exact quiet_says (word_is _ _ _ HS1.out HW.out)))
            go_wp2_with fail
            go_roundw
            case rel => exact ⟨k + 1, by omega, by go_num, HZ, HBel.out.trans ((below_drewN HGO.out _).mono HBel.out.size)⟩
            case measure => simp [intOf]; omega
          · obtain ⟨q, hq⟩ : ∃ q, l[k - 1]? = some q := ⟨l[k - 1]'(by omega), List.getElem?_eq_getElem (by omega)⟩
            have hc2 := cell_alloc (hcells _ _ (propCells_get hq).1) hbl (.cells #[.string a, .string v] 60)
            have hpv : prevP l k = some q.1 := by unfold prevP; rw [if_neg h0, hq]; rfl
            have d2 : decide (0 < k) = true := decide_eq_true (by omega)
            cases hq2 : ltS q.1 a with
            | true =>
              have d3 : (Op.bytesLess a.toList q.1.toList || a.toList == q.1.toList) = false := by rw [leqB, hq2]; rfl
              have HZ : Hid (propsB none l = propsB (prevP l (k + 1)) (l.drop (k + 1))) := Lib.hid (by rw [HD.out, hw, decide_eq_true hz, hpv]; simp only [aboveB]; rw [hq2]; rfl)
              clear HD hw hpv hq2 hq hp
              go_wp2_with fail
              go_quiet ((go_at_call 64; exact quiet_says (word_is _ _ _ HS1.out HW.out)))
              go_wp2_with fail
              go_roundw
              case rel => exact ⟨k + 1, by omega, by go_num, HZ, HBel.out.trans ((below_drewN HGO.out _).mono HBel.out.size)⟩
              case measure => simp [intOf]; omega
            | false =>
              have d3 : (Op.bytesLess a.toList q.1.toList || a.toList == q.1.toList) = true := by rw [leqB, hq2]; rfl
              have HZ : Hid (propsB none l = false) := Lib.hid (by rw [HD.out, hw, decide_eq_true hz, hpv]; simp only [aboveB]; rw [hq2]; rfl)
              clear HD hw hpv hq2 hq hp
              go_wp2_with fail
              go_quiet ((go_at_call 64; exact quiet_says (word_is _ _ _ HS1.out HW.out)))
              go_wp2_with fail
              go_ret
              exact ret_b HZ.out rfl (HBel.out.trans ((below_drewN HGO.out _).mono HBel.out.size))
        · have d1 : decide ((4096 : Int) < (v.size : Int)) = true := decide_eq_true (by omega)
          have HZ : Hid (propsB none l = false) := Lib.hid (by rw [HD.out, decide_eq_false hz]; simp)
          clear HD hw
          go_wp2_with fail
          go_quiet ((go_at_call 64; exact quiet_says (word_is _ _ _ HS1.out HW.out)))
          go_wp2_with fail
          go_ret
          exact ret_b HZ.out rfl (HBel.out.trans ((below_drewN HGO.out _).mono HBel.out.size))
    · have HZ : Hid (propsB none l = true) := Lib.hid (by rw [HK.out, List.drop_eq_nil_of_le (by rw [HL.out]; omega)]; cases prevP l k <;> rfl)
      clear HK hbel
      go_wp2_with fail
      go_ret
      exact ret_b HZ.out rfl HBel.out
set_option maxHeartbeats 1600000 in
theorem refsSpelt_any (w : World) (hi : Nat) (next : Int) (A : Option Addr) (n c : Nat) (l : List (ByteArray × Int)) (h : Row w 0 hi 2 A n c (refCells l)) (hh : hi ≤ w.heap.size) (hs : ∀ p ∈ l, p.1.size ≤ maxLen) :
    Calls Tryz.prog 67 #[.slice A n c, .int .i64 next] w (Ret w (.bool (refsB next none l))) := by
  have hc := h.2.2.1
  have hnc := h.2.1
  have hl : l.length = n := by have := h.1; rw [refCells_length] at this; omega
  have HL := Lib.hid hl
  unfold maxLen at hc
  go_enter Tryz.func67, Tryz.ntmps67
  go_wp2_with fail
  go_loopw [9] (fun i wr => ∃ k : Nat, k ≤ n ∧ i = .int .i64 k ∧ Hid (refsB next none l = refsB next (prevR l k) (l.drop k)) ∧ Below w.heap.size w wr) (fun i _ => n - (intOf i).toNat)
  case atStart => exact ⟨0, by omega, rfl, Lib.hid rfl, Below.refl _ _⟩
  case round =>
    obtain ⟨k, hk, rfl, HK, hbel⟩ := hrel
    have HBel := Lib.hid hbel
    by_cases hlt : k < n
    · obtain ⟨b, o, rfl, _, hb, hcells⟩ := (h.below (hbel.mono hh)).at_ (by omega)
      have hbl : b < wr.heap.size := by have := hbel.size; omega
      obtain ⟨p, hp⟩ : ∃ p, l[k]? = some p := ⟨l[k]'(by omega), List.getElem?_eq_getElem (by omega)⟩
      have hc0 := hcells _ _ (refCells_get hp).1
      have hc1 := hcells _ _ (refCells_get hp).2
      have hc1 : wr.cell? ⟨b, o + k * 2 + 1, none⟩ = some (.int .i64 p.2) := by rw [Nat.add_assoc]; exact hc1
      have s1 := hs p (List.mem_of_getElem? hp)
      have hd : l.drop k = p :: l.drop (k + 1) := by
        obtain ⟨hl', rfl⟩ := List.getElem?_eq_some_iff.1 hp
        exact List.drop_eq_getElem_cons hl'
      have hpv : prevR l (k + 1) = some p.1 := by unfold prevR; rw [if_neg (by omega), Nat.add_sub_cancel, hp]; rfl
      have HD : Hid (refsB next none l = (wordB p.1 && decide (1 ≤ p.2) && decide (p.2 < next) && aboveB (prevR l k) p.1 && refsB next (prevR l (k + 1)) (l.drop (k + 1)))) := Lib.hid (by rw [HK.out, hd, refsB, hpv])
      clear HK hd hpv hbel
      obtain ⟨a, v⟩ := p
      simp only at hc0 hc1 s1 HD
      have HS1 := Lib.hid s1
      have hgo := below_box wr (.cells #[.string a, .int .i64 v] 62)
      have HGO := Lib.hid hgo
      clear s1 hgo
      cases hw : wordB a with
      | false =>
        have HW := Lib.hid hw
        have HZ : Hid (refsB next none l = false) := Lib.hid (by rw [HD.out, hw]; rfl)
        clear HD hw
        go_wp2_with fail
        go_quiet ((go_at_call 64; exact quiet_says (word_is _ _ _ HS1.out HW.out)))
        go_wp2_with fail
        go_ret
        exact ret_b HZ.out rfl (HBel.out.trans ((below_drewN HGO.out _).mono HBel.out.size))
      | true =>
        have HW := Lib.hid hw
        by_cases hz : 1 ≤ v
        · by_cases hy : v < next
          · have d1 : decide (v < 1) = false := decide_eq_false (by omega)
            have d1' : decide (next ≤ v) = false := decide_eq_false (by omega)
            by_cases h0 : k = 0
            · have HZ : Hid (refsB next none l = refsB next (prevR l (k + 1)) (l.drop (k + 1))) := Lib.hid (by rw [HD.out, hw, decide_eq_true hz, decide_eq_true hy, h0]; rfl)
              have d2 : decide (0 < k) = false := decide_eq_false (by omega)
              clear HD hw h0
              go_wp2_with fail
              go_quiet ((go_at_call 64; exact quiet_says (word_is _ _ _ HS1.out HW.out)))
              go_wp2_with fail
              go_roundw
              case rel => exact ⟨k + 1, by omega, by go_num, HZ, HBel.out.trans ((below_drewN HGO.out _).mono HBel.out.size)⟩
              case measure => simp [intOf]; omega
            · obtain ⟨q, hq⟩ : ∃ q, l[k - 1]? = some q := ⟨l[k - 1]'(by omega), List.getElem?_eq_getElem (by omega)⟩
              have hc2 := cell_alloc (hcells _ _ (refCells_get hq).1) hbl (.cells #[.string a, .int .i64 v] 62)
              have hpv : prevR l k = some q.1 := by unfold prevR; rw [if_neg h0, hq]; rfl
              have d2 : decide (0 < k) = true := decide_eq_true (by omega)
              cases hq2 : ltS q.1 a with
              | true =>
                have d3 : (Op.bytesLess a.toList q.1.toList || a.toList == q.1.toList) = false := by rw [leqB, hq2]; rfl
                have HZ : Hid (refsB next none l = refsB next (prevR l (k + 1)) (l.drop (k + 1))) := Lib.hid (by rw [HD.out, hw, decide_eq_true hz, decide_eq_true hy, hpv]; simp only [aboveB]; rw [hq2]; rfl)
                clear HD hw hpv hq2 hq hp
                go_wp2_with fail
                go_quiet ((go_at_call 64; exact quiet_says (word_is _ _ _ HS1.out HW.out)))
                go_wp2_with fail
                go_roundw
                case rel => exact ⟨k + 1, by omega, by go_num, HZ, HBel.out.trans ((below_drewN HGO.out _).mono HBel.out.size)⟩
                case measure => simp [intOf]; omega
              | false =>
                have d3 : (Op.bytesLess a.toList q.1.toList || a.toList == q.1.toList) = true := by rw [leqB, hq2]; rfl
                have HZ : Hid (refsB next none l = false) := Lib.hid (by rw [HD.out, hw, decide_eq_true hz, decide_eq_true hy, hpv]; simp only [aboveB]; rw [hq2]; rfl)
                clear HD hw hpv hq2 hq hp
                go_wp2_with fail
                go_quiet ((go_at_call 64; exact quiet_says (word_is _ _ _ HS1.out HW.out)))
                go_wp2_with fail
                go_ret
                exact ret_b HZ.out rfl (HBel.out.trans ((below_drewN HGO.out _).mono HBel.out.size))
          · have d1 : decide (next ≤ v) = true := decide_eq_true (by omega)
            have d0 : decide (v < 1) = false := decide_eq_false (by omega)
            have HZ : Hid (refsB next none l = false) := Lib.hid (by rw [HD.out, decide_eq_false hy]; simp)
            clear HD hw
            go_wp2_with fail
            go_quiet ((go_at_call 64; exact quiet_says (word_is _ _ _ HS1.out HW.out)))
            go_wp2_with fail
            go_ret
            exact ret_b HZ.out rfl (HBel.out.trans ((below_drewN HGO.out _).mono HBel.out.size))
        · have d1 : decide (v < 1) = true := decide_eq_true (by omega)
          have HZ : Hid (refsB next none l = false) := Lib.hid (by rw [HD.out, decide_eq_false hz]; simp)
          clear HD hw
          go_wp2_with fail
          go_quiet ((go_at_call 64; exact quiet_says (word_is _ _ _ HS1.out HW.out)))
          go_wp2_with fail
          go_ret
          exact ret_b HZ.out rfl (HBel.out.trans ((below_drewN HGO.out _).mono HBel.out.size))
    · have HZ : Hid (refsB next none l = true) := Lib.hid (by rw [HK.out, List.drop_eq_nil_of_le (by rw [HL.out]; omega)]; cases prevR l k <;> rfl)
      clear HK hbel
      go_wp2_with fail
      go_ret
      exact ret_b HZ.out rfl HBel.out
set_option maxHeartbeats 400000 in
theorem roleSpelt_any (w : World) (b o : Nat) (nd : Nd) (L : Leaf) (h : NodeAt w b o nd L) (hs : nd.role.size ≤ maxLen) :
    Calls Tryz.prog 65 #[.pointer (some ⟨b, o, none⟩)] w (Says w (roleB nd)) := by
  have c2 := h.c2
  have c3 := h.c3
  have HS := Lib.hid hs
  have HR : Hid (roleB nd = if nd.par = 0 then nd.role.toList.isEmpty else wordB nd.role) := Lib.hid rfl
  clear hs
  by_cases h0 : nd.par = 0
  · have d0 : (nd.par == 0) = true := by rw [beq_iff_eq]; exact h0
    have HX : Hid (roleB nd = nd.role.toList.isEmpty) := Lib.hid (by rw [HR.out, if_pos h0])
    clear h0 HR
    go_enter Tryz.func65, Tryz.ntmps65
    go_wp2_with fail
    go_ret
    exact ⟨by rw [HX.out]; rfl, rfl⟩
  · have d0 : (nd.par == 0) = false := by rw [beq_eq_false_iff_ne]; exact h0
    have HX : Hid (wordB nd.role = roleB nd) := Lib.hid (by rw [HR.out, if_neg h0])
    clear h0 HR
    go_enter Tryz.func65, Tryz.ntmps65
    go_wp2_with (go_at_call 64; refine (word_is _ _ _ HS.out HX.out).mono ?_; rintro e w' ⟨rfl, rfl⟩)
    go_ret
    exact ⟨rfl, rfl⟩
end Go.Proofs.YtjjlofaejpnnnaaGreatDoor

/-
  WALKS: below of the document.
  WALKS: Right of the document.
  WALKS: two lists are the same.
  WALKS: two nodes are the same, told by the document and by the program.
  WALKS: two models are the same, told by the document and by the program.
  WALKS: is a lent model as it was, with its marks?
  WALKS: great, check, New; and laws for a call and an alloc as steps of a region that draws its order.
-/
import Derived.Test.YtjjlofaejpnnnaaGreatDoorZB13
namespace Go.Proofs.YtjjlofaejpnnnaaGreatDoor
open Go Go.RowKit Go.Sort
set_option linter.unusedVariables false
theorem PW.store {w wr : World} {next : Int} {A : Option Addr} {n c : Nat} {nd : Nd} {L : Leaf} (h : PW w next A n c nd L wr) (kd : Nd) (M : Leaf) (nq : Nat) :
    PW w next A n c kd M ((((((((wr.drewN nq).setCell ⟨w.heap.size + 1, 0, none⟩ (.int .i64 kd.id)).setCell ⟨w.heap.size + 1, 1, none⟩ (.string kd.con)).setCell ⟨w.heap.size + 1, 2, none⟩ (.int .i64 kd.par)).setCell ⟨w.heap.size + 1, 3, none⟩ (.string kd.role)).setCell ⟨w.heap.size + 1, 4, none⟩ (.slice M.p.A M.p.n M.p.c)).setCell ⟨w.heap.size + 1, 5, none⟩ (.slice M.k.A M.k.n M.k.c)).setCell ⟨w.heap.size + 1, 6, none⟩ (.slice M.r.A M.r.n M.r.c)) := by
  have hne : w.heap.size ≠ w.heap.size + 1 := by omega
  have h0 := h.drewN nq
  refine ⟨((((((h0.md.far (p := ⟨_, _, none⟩) hne _).far (p := ⟨_, _, none⟩) hne _).far (p := ⟨_, _, none⟩) hne _).far (p := ⟨_, _, none⟩) hne _).far (p := ⟨_, _, none⟩) hne _).far (p := ⟨_, _, none⟩) hne _).far (p := ⟨_, _, none⟩) hne _, ?_, ?_⟩
  · have := ((((((h0.nb.set_ 0 (.int .i64 kd.id)).set_ 1 (.string kd.con)).set_ 2 (.int .i64 kd.par)).set_ 3 (.string kd.role)).set_ 4 (.slice M.p.A M.p.n M.p.c)).set_ 5 (.slice M.k.A M.k.n M.k.c)).set_ 6 (.slice M.r.A M.r.n M.r.c)
    simpa using this
  · have hb := h0.bel
    exact Below.setCell' (Below.setCell' (Below.setCell' (Below.setCell' (Below.setCell' (Below.setCell' (Below.setCell' hb (by omega) _) (by omega) _) (by omega) _) (by omega) _) (by omega) _) (by omega) _) (by omega) _
end Go.Proofs.YtjjlofaejpnnnaaGreatDoor
namespace Go.Proofs.YtjjlofaejpnnnaaGreatDoor
open Go Go.RowKit Go.Sort
set_option linter.unusedVariables false
/-- the box of a model, and nothing old has turned -/
structure MW (w : World) (next : Int) (A : Option Addr) (n c : Nat) (wr : World) : Prop where
  md : Blk wr w.heap.size 25 #[.int .i64 next, .slice A n c]
  bel : Below w.heap.size w wr
section
variable {w wr w' : World} {next : Int} {A : Option Addr} {n c : Nat}
theorem MW.start (w : World) (next : Int) (A : Option Addr) (n c : Nat) : MW w next A n c (w.alloc (.cells #[.int .i64 next, .slice A n c] 25)) := ⟨Blk.new _ _ _, below_box _ _⟩
theorem MW.after (h : MW w next A n c wr) (hb : Below wr.heap.size wr w') : MW w next A n c w' := ⟨h.md.after hb, h.bel.trans (hb.mono h.bel.size)⟩
theorem MW.drewN (h : MW w next A n c wr) (q : Nat) : MW w next A n c (wr.drewN q) := ⟨h.md, below_drewN h.bel q⟩
theorem MW.size (h : MW w next A n c wr) : w.heap.size < wr.heap.size := h.md.lt
theorem MW.c0 (h : MW w next A n c wr) : wr.cell? ⟨w.heap.size, 0, none⟩ = some (.int .i64 next) := h.md.cell 0
theorem MW.c1 (h : MW w next A n c wr) : wr.cell? ⟨w.heap.size, 1, none⟩ = some (.slice A n c) := h.md.cell 1
end
end Go.Proofs.YtjjlofaejpnnnaaGreatDoor
namespace Go.Proofs.YtjjlofaejpnnnaaGreatDoor
open Go Go.RowKit Go.Sort
set_option linter.unusedVariables false
/-- two lists, place by place -/
def eqL {α : Type} (e : α → α → Bool) : List α → List α → Bool
  | [], [] => true
  | x :: l, y :: m => e x y && eqL e l m
  | _, _ => false
theorem eqL_len {α : Type} (e : α → α → Bool) : ∀ {l m : List α}, l.length ≠ m.length → eqL e l m = false
  | [], [], h => absurd rfl h
  | [], _ :: _, _ => rfl
  | _ :: _, [], _ => rfl
  | x :: l, y :: m, h => by
    rw [eqL, eqL_len e (l := l) (m := m) (by simpa using h), Bool.and_false]
theorem eqL_refl {α : Type} {e : α → α → Bool} (h : ∀ x, e x x = true) : ∀ l : List α, eqL e l l = true
  | [] => rfl
  | x :: l => by rw [eqL, h, eqL_refl h l]; rfl
def intE (x y : Int) : Bool := x == y
def propE (x y : ByteArray × ByteArray) : Bool := (x.1.toList == y.1.toList) && (x.2.toList == y.2.toList)
def refE (x y : ByteArray × Int) : Bool := (x.1.toList == y.1.toList) && (x.2 == y.2)
theorem drew_below {B : Nat} {w wr : World} (h : ∃ q, wr = w.drewN q) : Below B w wr := by
  obtain ⟨q, rfl⟩ := h; exact below_drewN (Below.refl _ _) q
theorem drew_more {w wr : World} (h : ∃ q, wr = w.drewN q) (n : Nat) : ∃ q, wr.drewN n = w.drewN q := by
  obtain ⟨q, rfl⟩ := h; exact ⟨q + n, World.drewN_drewN _ _ _⟩
theorem intE_refl (x : Int) : intE x x = true := by simp [intE]
theorem propE_refl (x : ByteArray × ByteArray) : propE x x = true := by simp [propE]
theorem refE_refl (x : ByteArray × Int) : refE x x = true := by simp [refE]
set_option maxHeartbeats 1600000 in
theorem equalProps_any (w : World) (lo hi lo' hi' : Nat) (A A' : Option Addr) (n c n' c' : Nat) (l m : List (ByteArray × ByteArray)) (h1 : Row w lo hi 2 A n c (propCells l)) (h2 : Row w lo' hi' 2 A' n' c' (propCells m)) :
    Calls Tryz.prog 70 #[.slice A n c, .slice A' n' c'] w (DrewV w (.bool (eqL propE l m))) := by
  have hl1 : l.length = n := by have := h1.1; rw [propCells_length] at this; omega
  have hl2 : m.length = n' := by have := h2.1; rw [propCells_length] at this; omega
  have HL1 := Lib.hid hl1
  have HL2 := Lib.hid hl2
  have hc := h1.2.2.1
  have hnc := h1.2.1
  have hc' := h2.2.2.1
  have hnc' := h2.2.1
  unfold maxLen at hc hc'
  clear hl1 hl2
  by_cases hne : n = n'
  · have d0 : ((n : Int) != (n' : Int)) = false := by rw [bne_eq_false_iff_eq]; omega
    subst hne
    go_enter Tryz.func70, Tryz.ntmps70
    go_wp2_with fail
    go_loopw [13] (fun i wr => ∃ k : Nat, k ≤ n ∧ i = .int .i64 k ∧ Hid (∃ q, wr = w.drewN q) ∧ Hid (eqL propE l m = eqL propE (l.drop k) (m.drop k))) (fun i _ => n - (intOf i).toNat)
    case atStart => exact ⟨0, by omega, rfl, Lib.hid ⟨0, rfl⟩, Lib.hid rfl⟩
    case round =>
      obtain ⟨k, hk, rfl, HQ, HK⟩ := hrel
      by_cases hlt : k < n
      · obtain ⟨b1, o1, rfl, _, _, hcells1⟩ := (h1.below (drew_below HQ.out)).at_ (by omega)
        obtain ⟨b2, o2, rfl, _, _, hcells2⟩ := (h2.below (drew_below HQ.out)).at_ (by omega)
        obtain ⟨x, hx⟩ : ∃ x, l[k]? = some x := ⟨l[k]'(by have := HL1.out; omega), List.getElem?_eq_getElem _⟩
        obtain ⟨y, hy⟩ : ∃ y, m[k]? = some y := ⟨m[k]'(by have := HL2.out; omega), List.getElem?_eq_getElem _⟩
        have q1 := hcells1 _ _ (propCells_get hx).1
        have q1' := hcells1 _ _ (propCells_get hx).2
        have q1' : wr.cell? ⟨b1, o1 + k * 2 + 1, none⟩ = some (.string x.2) := by rw [Nat.add_assoc]; exact q1'
        have q2 := hcells2 _ _ (propCells_get hy).1
        have q2' := hcells2 _ _ (propCells_get hy).2
        have q2' : wr.cell? ⟨b2, o2 + k * 2 + 1, none⟩ = some (.string y.2) := by rw [Nat.add_assoc]; exact q2'
        have HD : Hid (eqL propE l m = (propE x y && eqL propE (l.drop (k + 1)) (m.drop (k + 1)))) := Lib.hid (by
          obtain ⟨hl1, e1⟩ := List.getElem?_eq_some_iff.1 hx
          obtain ⟨hl2, e2⟩ := List.getElem?_eq_some_iff.1 hy
          rw [HK.out, List.drop_eq_getElem_cons hl1, List.drop_eq_getElem_cons hl2, e1, e2]; rfl)
        clear HK hx hy hcells1 hcells2
        cases e1 : (x.1.toList == y.1.toList) with
        | false =>
          have HZ : Hid (eqL propE l m = false) := Lib.hid (by rw [HD.out]; simp only [propE, e1]; rfl)
          clear HD
          go_wp2_with fail
          go_quiet (fail)
          go_wp2_with fail
          go_ret
          exact ⟨ret_bool HZ.out.symm, drew_more HQ.out nq⟩
        | true =>
          cases e2 : (x.2.toList == y.2.toList) with
          | false =>
            have HZ : Hid (eqL propE l m = false) := Lib.hid (by rw [HD.out]; simp only [propE, e1, e2]; rfl)
            clear HD
            go_wp2_with fail
            go_quiet (fail)
            go_wp2_with fail
            go_ret
            exact ⟨ret_bool HZ.out.symm, drew_more HQ.out nq⟩
          | true =>
            have HZ : Hid (eqL propE l m = eqL propE (l.drop (k + 1)) (m.drop (k + 1))) := Lib.hid (by rw [HD.out]; simp only [propE, e1, e2]; rfl)
            clear HD
            go_wp2_with fail
            go_quiet (fail)
            go_wp2_with fail
            go_roundw
            case rel => exact ⟨k + 1, by omega, by go_num, Lib.hid (drew_more HQ.out nq), HZ⟩
            case measure => simp [intOf]; omega
      · have HZ : Hid (eqL propE l m = true) := Lib.hid (by rw [HK.out, List.drop_eq_nil_of_le (by have := HL1.out; omega), List.drop_eq_nil_of_le (by have := HL2.out; omega)]; rfl)
        clear HK
        go_wp2_with fail
        go_ret
        exact ⟨ret_bool HZ.out.symm, HQ.out⟩
  · have d0 : ((n : Int) != (n' : Int)) = true := by rw [bne_iff_ne]; omega
    have HZ : Hid (eqL propE l m = false) := Lib.hid (eqL_len _ (by have := HL1.out; have := HL2.out; omega))
    clear hne
    go_enter Tryz.func70, Tryz.ntmps70
    go_wp2_with fail
    go_ret
    exact ⟨ret_bool HZ.out.symm, 0, rfl⟩
set_option maxHeartbeats 1600000 in
theorem equalRefs_any (w : World) (lo hi lo' hi' : Nat) (A A' : Option Addr) (n c n' c' : Nat) (l m : List (ByteArray × Int)) (h1 : Row w lo hi 2 A n c (refCells l)) (h2 : Row w lo' hi' 2 A' n' c' (refCells m)) :
    Calls Tryz.prog 72 #[.slice A n c, .slice A' n' c'] w (DrewV w (.bool (eqL refE l m))) := by
  have hl1 : l.length = n := by have := h1.1; rw [refCells_length] at this; omega
  have hl2 : m.length = n' := by have := h2.1; rw [refCells_length] at this; omega
  have HL1 := Lib.hid hl1
  have HL2 := Lib.hid hl2
  have hc := h1.2.2.1
  have hnc := h1.2.1
  have hc' := h2.2.2.1
  have hnc' := h2.2.1
  unfold maxLen at hc hc'
  clear hl1 hl2
  by_cases hne : n = n'
  · have d0 : ((n : Int) != (n' : Int)) = false := by rw [bne_eq_false_iff_eq]; omega
    subst hne
    go_enter Tryz.func72, Tryz.ntmps72
    go_wp2_with fail
    go_loopw [13] (fun i wr => ∃ k : Nat, k ≤ n ∧ i = .int .i64 k ∧ Hid (∃ q, wr = w.drewN q) ∧ Hid (eqL refE l m = eqL refE (l.drop k) (m.drop k))) (fun i _ => n - (intOf i).toNat)
    case atStart => exact ⟨0, by omega, rfl, Lib.hid ⟨0, rfl⟩, Lib.hid rfl⟩
    case round =>
      obtain ⟨k, hk, rfl, HQ, HK⟩ := hrel
      by_cases hlt : k < n
      · obtain ⟨b1, o1, rfl, _, _, hcells1⟩ := (h1.below (drew_below HQ.out)).at_ (by omega)
        obtain ⟨b2, o2, rfl, _, _, hcells2⟩ := (h2.below (drew_below HQ.out)).at_ (by omega)
        obtain ⟨x, hx⟩ : ∃ x, l[k]? = some x := ⟨l[k]'(by have := HL1.out; omega), List.getElem?_eq_getElem _⟩
        obtain ⟨y, hy⟩ : ∃ y, m[k]? = some y := ⟨m[k]'(by have := HL2.out; omega), List.getElem?_eq_getElem _⟩
        have q1 := hcells1 _ _ (refCells_get hx).1
        have q1' := hcells1 _ _ (refCells_get hx).2
        have q1' : wr.cell? ⟨b1, o1 + k * 2 + 1, none⟩ = some (.int .i64 x.2) := by rw [Nat.add_assoc]; exact q1'
        have q2 := hcells2 _ _ (refCells_get hy).1
        have q2' := hcells2 _ _ (refCells_get hy).2
        have q2' : wr.cell? ⟨b2, o2 + k * 2 + 1, none⟩ = some (.int .i64 y.2) := by rw [Nat.add_assoc]; exact q2'
        have HD : Hid (eqL refE l m = (refE x y && eqL refE (l.drop (k + 1)) (m.drop (k + 1)))) := Lib.hid (by
          obtain ⟨hl1, e1⟩ := List.getElem?_eq_some_iff.1 hx
          obtain ⟨hl2, e2⟩ := List.getElem?_eq_some_iff.1 hy
          rw [HK.out, List.drop_eq_getElem_cons hl1, List.drop_eq_getElem_cons hl2, e1, e2]; rfl)
        clear HK hx hy hcells1 hcells2
        cases e1 : (x.1.toList == y.1.toList) with
        | false =>
          have HZ : Hid (eqL refE l m = false) := Lib.hid (by rw [HD.out]; simp only [refE, e1]; rfl)
          clear HD
          go_wp2_with fail
          go_quiet (fail)
          go_wp2_with fail
          go_ret
          exact ⟨ret_bool HZ.out.symm, drew_more HQ.out nq⟩
        | true =>
          cases e2 : (x.2 == y.2) with
          | false =>
            have HZ : Hid (eqL refE l m = false) := Lib.hid (by rw [HD.out]; simp only [refE, e1, e2]; rfl)
            clear HD
            go_wp2_with fail
            go_quiet (fail)
            go_wp2_with fail
            go_ret
            exact ⟨ret_bool HZ.out.symm, drew_more HQ.out nq⟩
          | true =>
            have HZ : Hid (eqL refE l m = eqL refE (l.drop (k + 1)) (m.drop (k + 1))) := Lib.hid (by rw [HD.out]; simp only [refE, e1, e2]; rfl)
            clear HD
            go_wp2_with fail
            go_quiet (fail)
            go_wp2_with fail
            go_roundw
            case rel => exact ⟨k + 1, by omega, by go_num, Lib.hid (drew_more HQ.out nq), HZ⟩
            case measure => simp [intOf]; omega
      · have HZ : Hid (eqL refE l m = true) := Lib.hid (by rw [HK.out, List.drop_eq_nil_of_le (by have := HL1.out; omega), List.drop_eq_nil_of_le (by have := HL2.out; omega)]; rfl)
        clear HK
        go_wp2_with fail
        go_ret
        exact ⟨ret_bool HZ.out.symm, HQ.out⟩
  · have d0 : ((n : Int) != (n' : Int)) = true := by rw [bne_iff_ne]; omega
    have HZ : Hid (eqL refE l m = false) := Lib.hid (eqL_len _ (by have := HL1.out; have := HL2.out; omega))
    clear hne
    go_enter Tryz.func72, Tryz.ntmps72
    go_wp2_with fail
    go_ret
    exact ⟨ret_bool HZ.out.symm, 0, rfl⟩
set_option maxHeartbeats 1600000 in
theorem equalInts_any (w : World) (lo hi lo' hi' : Nat) (A A' : Option Addr) (n c n' c' : Nat) (l m : List Int) (h1 : Row w lo hi 1 A n c (intCells l)) (h2 : Row w lo' hi' 1 A' n' c' (intCells m)) :
    Calls Tryz.prog 71 #[.slice A n c, .slice A' n' c'] w (DrewV w (.bool (eqL intE l m))) := by
  have hl1 : l.length = n := by have := h1.1; rw [intCells_length] at this; omega
  have hl2 : m.length = n' := by have := h2.1; rw [intCells_length] at this; omega
  have HL1 := Lib.hid hl1
  have HL2 := Lib.hid hl2
  have hc := h1.2.2.1
  have hnc := h1.2.1
  have hc' := h2.2.2.1
  have hnc' := h2.2.1
  unfold maxLen at hc hc'
  clear hl1 hl2
  by_cases hne : n = n'
  · have d0 : ((n : Int) != (n' : Int)) = false := by rw [bne_eq_false_iff_eq]; omega
    subst hne
    go_enter Tryz.func71, Tryz.ntmps71
    go_wp2_with fail
    go_loopw [13] (fun i wr => ∃ k : Nat, k ≤ n ∧ i = .int .i64 k ∧ Hid (∃ q, wr = w.drewN q) ∧ Hid (eqL intE l m = eqL intE (l.drop k) (m.drop k))) (fun i _ => n - (intOf i).toNat)
    case atStart => exact ⟨0, by omega, rfl, Lib.hid ⟨0, rfl⟩, Lib.hid rfl⟩
    case round =>
      obtain ⟨k, hk, rfl, HQ, HK⟩ := hrel
      by_cases hlt : k < n
      · obtain ⟨b1, o1, rfl, _, _, hcells1⟩ := (h1.below (drew_below HQ.out)).at_ (by omega)
        obtain ⟨b2, o2, rfl, _, _, hcells2⟩ := (h2.below (drew_below HQ.out)).at_ (by omega)
        obtain ⟨x, hx⟩ : ∃ x, l[k]? = some x := ⟨l[k]'(by have := HL1.out; omega), List.getElem?_eq_getElem _⟩
        obtain ⟨y, hy⟩ : ∃ y, m[k]? = some y := ⟨m[k]'(by have := HL2.out; omega), List.getElem?_eq_getElem _⟩
        have q1 := hcells1 k _ (intCells_get hx)
        have q2 := hcells2 k _ (intCells_get hy)
        have HD : Hid (eqL intE l m = (intE x y && eqL intE (l.drop (k + 1)) (m.drop (k + 1)))) := Lib.hid (by
          obtain ⟨hl1, e1⟩ := List.getElem?_eq_some_iff.1 hx
          obtain ⟨hl2, e2⟩ := List.getElem?_eq_some_iff.1 hy
          rw [HK.out, List.drop_eq_getElem_cons hl1, List.drop_eq_getElem_cons hl2, e1, e2]; rfl)
        clear HK hx hy hcells1 hcells2
        by_cases e1 : x = y
        · have d1 : (x != y) = false := by rw [bne_eq_false_iff_eq]; exact e1
          have HZ : Hid (eqL intE l m = eqL intE (l.drop (k + 1)) (m.drop (k + 1))) := Lib.hid (by rw [HD.out]; simp [intE, e1])
          clear HD e1
          go_wp2_with fail
          go_quiet (fail)
          go_wp2_with fail
          go_roundw
          case rel => exact ⟨k + 1, by omega, by go_num, Lib.hid (drew_more HQ.out nq), HZ⟩
          case measure => simp [intOf]; omega
        · have d1 : (x != y) = true := by rw [bne_iff_ne]; exact e1
          have HZ : Hid (eqL intE l m = false) := Lib.hid (by rw [HD.out]; simp [intE, e1])
          clear HD e1
          go_wp2_with fail
          go_quiet (fail)
          go_wp2_with fail
          go_ret
          exact ⟨ret_bool HZ.out.symm, drew_more HQ.out nq⟩
      · have HZ : Hid (eqL intE l m = true) := Lib.hid (by rw [HK.out, List.drop_eq_nil_of_le (by have := HL1.out; omega), List.drop_eq_nil_of_le (by have := HL2.out; omega)]; rfl)
        clear HK
        go_wp2_with fail
        go_ret
        exact ⟨ret_bool HZ.out.symm, HQ.out⟩
  · have d0 : ((n : Int) != (n' : Int)) = true := by rw [bne_iff_ne]; omega
    have HZ : Hid (eqL intE l m = false) := Lib.hid (eqL_len _ (by have := HL1.out; have := HL2.out; omega))
    clear hne
    go_enter Tryz.func71, Tryz.ntmps71
    go_wp2_with fail
    go_ret
    exact ⟨ret_bool HZ.out.symm, 0, rfl⟩
end Go.Proofs.YtjjlofaejpnnnaaGreatDoor
namespace Go.Proofs.YtjjlofaejpnnnaaGreatDoor
open Go Go.RowKit Go.Sort
set_option linter.unusedVariables false
def nodeE (x y : Nd) : Bool := (x.id == y.id) && (x.con.toList == y.con.toList) && (x.par == y.par) && (x.role.toList == y.role.toList) && eqL propE x.props y.props && eqL intE x.kids y.kids && eqL refE x.refs y.refs
theorem nodeE_refl (x : Nd) : nodeE x x = true := by
  unfold nodeE
  rw [eqL_refl propE_refl, eqL_refl intE_refl, eqL_refl refE_refl]
  simp
/-- the boxes of two nodes -/
structure NW (w : World) (x : Nd) (L : Leaf) (y : Nd) (M : Leaf) (wr : World) : Prop where
  a : Blk wr w.heap.size 55 #[.int .i64 x.id, .string x.con, .int .i64 x.par, .string x.role, .slice L.p.A L.p.n L.p.c, .slice L.k.A L.k.n L.k.c, .slice L.r.A L.r.n L.r.c]
  b : Blk wr (w.heap.size + 1) 55 #[.int .i64 y.id, .string y.con, .int .i64 y.par, .string y.role, .slice M.p.A M.p.n M.p.c, .slice M.k.A M.k.n M.k.c, .slice M.r.A M.r.n M.r.c]
  bel : Below w.heap.size w wr
section
variable {w wr w' : World} {x y : Nd} {L M : Leaf}
theorem NW.start (w : World) (x : Nd) (L : Leaf) (y : Nd) (M : Leaf) : NW w x L y M ((w.alloc (.cells #[.int .i64 x.id, .string x.con, .int .i64 x.par, .string x.role, .slice L.p.A L.p.n L.p.c, .slice L.k.A L.k.n L.k.c, .slice L.r.A L.r.n L.r.c] 55)).alloc (.cells #[.int .i64 y.id, .string y.con, .int .i64 y.par, .string y.role, .slice M.p.A M.p.n M.p.c, .slice M.k.A M.k.n M.k.c, .slice M.r.A M.r.n M.r.c] 55)) :=
  ⟨(Blk.new _ _ _).alloc _, Blk.new' (by simp), (below_box _ _).alloc (by simp) _⟩
theorem NW.after (h : NW w x L y M wr) (hb : Below wr.heap.size wr w') : NW w x L y M w' := ⟨h.a.after hb, h.b.after hb, h.bel.trans (hb.mono h.bel.size)⟩
theorem NW.drewN (h : NW w x L y M wr) (q : Nat) : NW w x L y M (wr.drewN q) := ⟨h.a, h.b, below_drewN h.bel q⟩
theorem NW.size (h : NW w x L y M wr) : w.heap.size + 1 < wr.heap.size := h.b.lt
end
set_option maxRecDepth 100000 in
set_option maxHeartbeats 6400000 in
theorem sameNode_any (w : World) (hi : Nat) (x y : Nd) (L M : Leaf) (hx : LeafIn w 0 hi x L) (hy : LeafIn w 0 hi y M) (hh : hi ≤ w.heap.size) :
    Calls Tryz.prog 35 #[.agg #[.int .i64 x.id, .string x.con, .int .i64 x.par, .string x.role, .slice L.p.A L.p.n L.p.c, .slice L.k.A L.k.n L.k.c, .slice L.r.A L.r.n L.r.c], .agg #[.int .i64 y.id, .string y.con, .int .i64 y.par, .string y.role, .slice M.p.A M.p.n M.p.c, .slice M.k.A M.k.n M.k.c, .slice M.r.A M.r.n M.r.c]] w (Ret w (.bool (nodeE x y))) := by
  have HN : Hid (nodeE x y = ((x.id == y.id) && (x.con.toList == y.con.toList) && (x.par == y.par) && (x.role.toList == y.role.toList) && eqL propE x.props y.props && eqL intE x.kids y.kids && eqL refE x.refs y.refs)) := Lib.hid rfl
  have HW0 := Lib.hid (NW.start w x L y M)
  obtain ⟨⟨Apa, npa, cpa⟩, ⟨Aka, nka, cka⟩, ⟨Ara, nra, cra⟩⟩ := L
  obtain ⟨⟨Apb, npb, cpb⟩, ⟨Akb, nkb, ckb⟩, ⟨Arb, nrb, crb⟩⟩ := M
  obtain ⟨h1, h2, h3, h4, h5, h6, h7⟩ := hx
  obtain ⟨g1, g2, g3, g4, g5, g6, g7⟩ := hy
  simp only at h1 h2 h3 h4 h5 h6 g1 g2 g3 g4 g5 g6 HW0 ⊢
  have HL1 := Lib.hid h1
  have HL2 := Lib.hid g1
  have HL3 := Lib.hid h3
  have HL4 := Lib.hid g3
  have z1 := h4.2.2.1
  have z2 := h4.2.1
  have z3 := h6.2.2.1
  have z4 := h6.2.1
  have z5 := g4.2.2.1
  have z6 := g4.2.1
  have z7 := g6.2.2.1
  have z8 := g6.2.1
  unfold maxLen at z1 z3 z5 z7
  have HRPa := Lib.hid h4
  have HRRa := Lib.hid h6
  have HRPb := Lib.hid g4
  have HRRb := Lib.hid g6
  have hEp : ∀ w2, Below w.heap.size w w2 → Calls Tryz.prog 70 #[.slice Apa npa cpa, .slice Apb npb cpb] w2 (DrewV w2 (.bool (eqL propE x.props y.props))) := fun w2 hb2 => equalProps_any w2 0 hi 0 hi Apa Apb npa cpa npb cpb x.props y.props (h4.below (hb2.mono hh)) (g4.below (hb2.mono hh))
  have hEk : ∀ w2, Below w.heap.size w w2 → Calls Tryz.prog 71 #[.slice Aka nka cka, .slice Akb nkb ckb] w2 (DrewV w2 (.bool (eqL intE x.kids y.kids))) := fun w2 hb2 => equalInts_any w2 0 hi 0 hi Aka Akb nka cka nkb ckb x.kids y.kids (h5.below (hb2.mono hh)) (g5.below (hb2.mono hh))
  have hEr : ∀ w2, Below w.heap.size w w2 → Calls Tryz.prog 72 #[.slice Ara nra cra, .slice Arb nrb crb] w2 (DrewV w2 (.bool (eqL refE x.refs y.refs))) := fun w2 hb2 => equalRefs_any w2 0 hi 0 hi Ara Arb nra cra nrb crb x.refs y.refs (h6.below (hb2.mono hh)) (g6.below (hb2.mono hh))
  obtain ⟨ep, he1⟩ : ∃ b, eqL propE x.props y.props = b := ⟨_, rfl⟩
  obtain ⟨ek, he2⟩ : ∃ b, eqL intE x.kids y.kids = b := ⟨_, rfl⟩
  obtain ⟨er, he3⟩ : ∃ b, eqL refE x.refs y.refs = b := ⟨_, rfl⟩
  rw [he1, he2, he3] at HN
  rw [he1] at hEp
  rw [he2] at hEk
  rw [he3] at hEr
  have HEp := Lib.hid hEp
  have HEk := Lib.hid hEk
  have HEr := Lib.hid hEr
  clear h1 h2 h3 h4 h5 h6 h7 g1 g2 g3 g4 g5 g6 g7 hEp hEk hEr he1 he2 he3
  by_cases e0 : x.id = y.id
  · have d0 : (x.id == y.id) = true := by rw [beq_iff_eq]; exact e0
    have n0 : (x.id != y.id) = false := by rw [bne_eq_false_iff_eq]; exact e0
    clear e0
    cases d1 : (x.con.toList == y.con.toList) with
    | true =>
      by_cases e2 : x.par = y.par
      · have d2 : (x.par == y.par) = true := by rw [beq_iff_eq]; exact e2
        have n2 : (x.par != y.par) = false := by rw [bne_eq_false_iff_eq]; exact e2
        clear e2
        cases d3 : (x.role.toList == y.role.toList) with
        | true =>
          have hN : nodeE x y = (ep && ek && er) := by rw [HN.out, d0, d1, d2, d3]; rfl
          have HN := Lib.hid hN
          clear hN
          cases ep with
          | false =>
            go_enter Tryz.func35, Tryz.ntmps35
            go_wp2_with (first | (go_at_call 70; go_must (refine (HEp.out _ HW0.out.bel).mono ?_; rintro e w2 ⟨rfl, hq2⟩; obtain ⟨s1, s2⟩ := bcell (drew_below (B := _) hq2); have HB2 := Lib.hid (HW0.out.after (drew_below hq2)); have hz2 := HB2.out.size; have hz2' : w.heap.size < w2.heap.size := (by omega); clear hq2)) | (go_at_call 71; refine (HEk.out _ HB2.out.bel).mono ?_; rintro e w3 ⟨rfl, hq3⟩; obtain ⟨t1, t2⟩ := bcell (drew_below (B := _) hq3); have HB3 := Lib.hid (HB2.out.after (drew_below hq3)); have hz3 := HB3.out.size; have hz3' : w.heap.size < w3.heap.size := (by omega); clear hq3) | (go_at_call 72; refine (HEr.out _ HB3.out.bel).mono ?_; rintro e w4 ⟨rfl, hq4⟩; have HB4 := Lib.hid (HB3.out.after (drew_below hq4)); clear hq4))
            go_ret
            exact ret_b (by rw [HN.out]; rfl) rfl HB2.out.bel
          | true =>
            cases ek with
            | false =>
              go_enter Tryz.func35, Tryz.ntmps35
              go_wp2_with (first | (go_at_call 70; go_must (refine (HEp.out _ HW0.out.bel).mono ?_; rintro e w2 ⟨rfl, hq2⟩; obtain ⟨s1, s2⟩ := bcell (drew_below (B := _) hq2); have HB2 := Lib.hid (HW0.out.after (drew_below hq2)); have hz2 := HB2.out.size; have hz2' : w.heap.size < w2.heap.size := (by omega); clear hq2)) | (go_at_call 71; refine (HEk.out _ HB2.out.bel).mono ?_; rintro e w3 ⟨rfl, hq3⟩; obtain ⟨t1, t2⟩ := bcell (drew_below (B := _) hq3); have HB3 := Lib.hid (HB2.out.after (drew_below hq3)); have hz3 := HB3.out.size; have hz3' : w.heap.size < w3.heap.size := (by omega); clear hq3) | (go_at_call 72; refine (HEr.out _ HB3.out.bel).mono ?_; rintro e w4 ⟨rfl, hq4⟩; have HB4 := Lib.hid (HB3.out.after (drew_below hq4)); clear hq4))
              go_ret
              exact ret_b (by rw [HN.out]; rfl) rfl HB3.out.bel
            | true =>
              go_enter Tryz.func35, Tryz.ntmps35
              go_wp2_with (first | (go_at_call 70; go_must (refine (HEp.out _ HW0.out.bel).mono ?_; rintro e w2 ⟨rfl, hq2⟩; obtain ⟨s1, s2⟩ := bcell (drew_below (B := _) hq2); have HB2 := Lib.hid (HW0.out.after (drew_below hq2)); have hz2 := HB2.out.size; have hz2' : w.heap.size < w2.heap.size := (by omega); clear hq2)) | (go_at_call 71; refine (HEk.out _ HB2.out.bel).mono ?_; rintro e w3 ⟨rfl, hq3⟩; obtain ⟨t1, t2⟩ := bcell (drew_below (B := _) hq3); have HB3 := Lib.hid (HB2.out.after (drew_below hq3)); have hz3 := HB3.out.size; have hz3' : w.heap.size < w3.heap.size := (by omega); clear hq3) | (go_at_call 72; refine (HEr.out _ HB3.out.bel).mono ?_; rintro e w4 ⟨rfl, hq4⟩; have HB4 := Lib.hid (HB3.out.after (drew_below hq4)); clear hq4))
              go_ret
              exact ret_b (by rw [HN.out]; rfl) rfl HB4.out.bel
        | false =>
          have HZ : Hid (nodeE x y = false) := Lib.hid (by rw [HN.out, d3]; simp)
          go_enter Tryz.func35, Tryz.ntmps35
          go_wp2_with fail
          go_ret
          exact ret_b HZ.out rfl HW0.out.bel
      · have d2 : (x.par == y.par) = false := by rw [beq_eq_false_iff_ne]; exact e2
        have n2 : (x.par != y.par) = true := by rw [bne_iff_ne]; exact e2
        clear e2
        have HZ : Hid (nodeE x y = false) := Lib.hid (by rw [HN.out, d2]; simp)
        go_enter Tryz.func35, Tryz.ntmps35
        go_wp2_with fail
        go_ret
        exact ret_b HZ.out rfl HW0.out.bel
    | false =>
      have HZ : Hid (nodeE x y = false) := Lib.hid (by rw [HN.out, d1]; simp)
      go_enter Tryz.func35, Tryz.ntmps35
      go_wp2_with fail
      go_ret
      exact ret_b HZ.out rfl HW0.out.bel
  · have d0 : (x.id == y.id) = false := by rw [beq_eq_false_iff_ne]; exact e0
    have n0 : (x.id != y.id) = true := by rw [bne_iff_ne]; exact e0
    clear e0
    have HZ : Hid (nodeE x y = false) := Lib.hid (by rw [HN.out, d0]; simp)
    go_enter Tryz.func35, Tryz.ntmps35
    go_wp2_with fail
    go_ret
    exact ret_b HZ.out rfl HW0.out.bel
end Go.Proofs.YtjjlofaejpnnnaaGreatDoor
namespace Go.Proofs.YtjjlofaejpnnnaaGreatDoor
open Go Go.RowKit Go.Sort
set_option linter.unusedVariables false
def mdE (next next' : Int) (nds nds' : List Nd) : Bool := (next == next') && eqL nodeE nds nds'
theorem mdE_refl (next : Int) (nds : List Nd) : mdE next next nds nds = true := by unfold mdE; rw [eqL_refl nodeE_refl]; simp
/-- the boxes of two models -/
structure M2 (w : World) (next next' : Int) (A A' : Option Addr) (n c n' c' : Nat) (wr : World) : Prop where
  a : Blk wr w.heap.size 25 #[.int .i64 next, .slice A n c]
  b : Blk wr (w.heap.size + 1) 25 #[.int .i64 next', .slice A' n' c']
  bel : Below w.heap.size w wr
section
variable {w wr w' : World} {next next' : Int} {A A' : Option Addr} {n c n' c' : Nat}
theorem M2.start (w : World) (next next' : Int) (A A' : Option Addr) (n c n' c' : Nat) : M2 w next next' A A' n c n' c' ((w.alloc (.cells #[.int .i64 next, .slice A n c] 25)).alloc (.cells #[.int .i64 next', .slice A' n' c'] 25)) :=
  ⟨(Blk.new _ _ _).alloc _, Blk.new' (by simp), (below_box _ _).alloc (by simp) _⟩
theorem M2.after (h : M2 w next next' A A' n c n' c' wr) (hb : Below wr.heap.size wr w') : M2 w next next' A A' n c n' c' w' := ⟨h.a.after hb, h.b.after hb, h.bel.trans (hb.mono h.bel.size)⟩
theorem M2.size (h : M2 w next next' A A' n c n' c' wr) : w.heap.size + 1 < wr.heap.size := h.b.lt
end
set_option maxHeartbeats 3200000 in
theorem equalFunc_any (w : World) (hi : Nat) (A A' : Option Addr) (n c n' c' : Nat) (nds nds' : List Nd) (h : NodesIn w 0 hi A n c nds) (h' : NodesIn w 0 hi A' n' c' nds') (hh : hi ≤ w.heap.size) :
    Calls Tryz.prog 34 #[.slice A n c, .slice A' n' c', .func (.func 35) #[] #[]] w (Ret w (.bool (eqL nodeE nds nds'))) := by
  have hc := h.2.2.1
  have hnc := h.2.1
  have HL1 := Lib.hid h.1
  have hc' := h'.2.2.1
  have hnc' := h'.2.1
  have HL2 := Lib.hid h'.1
  unfold maxLen at hc hc'
  by_cases e2 : n = n'
  · have d2 : ((n : Int) != (n' : Int)) = false := by rw [bne_eq_false_iff_eq]; omega
    subst e2
    go_enter Tryz.func34, Tryz.ntmps34
    go_wp2_with fail
    go_loopw [17] (fun i wr => ∃ k : Nat, k ≤ n ∧ i = .int .i64 k ∧ Below w.heap.size w wr ∧ Hid (eqL nodeE nds nds' = eqL nodeE (nds.drop k) (nds'.drop k))) (fun i _ => n - (intOf i).toNat)
    case atStart => exact ⟨0, by omega, rfl, Below.refl _ _, Lib.hid rfl⟩
    case round =>
      obtain ⟨k, hk, rfl, hbel, HK⟩ := hrel
      have HB := Lib.hid hbel
      have hwz := hbel.size
      by_cases hlt : k < n
      · obtain ⟨b1, o1, hA1, _, hb1, V1, hV1⟩ := h.all (by omega)
        obtain ⟨b2, o2, hA2, _, hb2', V2, hV2⟩ := h'.all (by omega)
        subst hA1 hA2
        obtain ⟨x, hx⟩ : ∃ x, nds[k]? = some x := ⟨nds[k]'(by have := HL1.out; omega), List.getElem?_eq_getElem _⟩
        obtain ⟨y, hy⟩ : ∃ y, nds'[k]? = some y := ⟨nds'[k]'(by have := HL2.out; omega), List.getElem?_eq_getElem _⟩
        have hat1 := (hV1 k x hx).1.below hbel (by omega)
        have hlf1 := (hV1 k x hx).2
        have hat2 := (hV2 k y hy).1.below hbel (by omega)
        have hlf2 := (hV2 k y hy).2
        have HD : Hid (eqL nodeE nds nds' = (nodeE x y && eqL nodeE (nds.drop (k + 1)) (nds'.drop (k + 1)))) := Lib.hid (by
          obtain ⟨hl1, e1⟩ := List.getElem?_eq_some_iff.1 hx
          obtain ⟨hl2, e2⟩ := List.getElem?_eq_some_iff.1 hy
          rw [HK.out, List.drop_eq_getElem_cons hl1, List.drop_eq_getElem_cons hl2, e1, e2]; rfl)
        generalize V1 k = L1 at hat1 hlf1
        generalize V2 k = L2 at hat2 hlf2
        obtain ⟨⟨Ap1, np1, cp1⟩, ⟨Ak1, nk1, ck1⟩, ⟨Ar1, nr1, cr1⟩⟩ := L1
        obtain ⟨⟨Ap2, np2, cp2⟩, ⟨Ak2, nk2, ck2⟩, ⟨Ar2, nr2, cr2⟩⟩ := L2
        obtain ⟨a0, a1, a2, a3, a4, a5, a6⟩ := hat1
        obtain ⟨g0, g1, g2, g3, g4, g5, g6⟩ := hat2
        simp only at a4 a5 a6 g4 g5 g6
        obtain ⟨r, hr⟩ : ∃ b, nodeE x y = b := ⟨_, rfl⟩
        rw [hr] at HD
        have hS : ∀ w2, Below wr.heap.size wr w2 → Calls Tryz.prog 35 #[.agg #[.int .i64 x.id, .string x.con, .int .i64 x.par, .string x.role, .slice Ap1 np1 cp1, .slice Ak1 nk1 ck1, .slice Ar1 nr1 cr1], .agg #[.int .i64 y.id, .string y.con, .int .i64 y.par, .string y.role, .slice Ap2 np2 cp2, .slice Ak2 nk2 ck2, .slice Ar2 nr2 cr2]] w2 (Ret w2 (.bool (nodeE x y))) := fun w2 hb2 =>
          sameNode_any _ hi x y ⟨⟨Ap1, np1, cp1⟩, ⟨Ak1, nk1, ck1⟩, ⟨Ar1, nr1, cr1⟩⟩ ⟨⟨Ap2, np2, cp2⟩, ⟨Ak2, nk2, ck2⟩, ⟨Ar2, nr2, cr2⟩⟩ ((hlf1.below (hbel.mono hh)).below (hb2.mono (by omega))) ((hlf2.below (hbel.mono hh)).below (hb2.mono (by omega))) (by have := hb2.size; omega)
        rw [hr] at hS
        have HS := Lib.hid hS
        have hbl1 : b1 < wr.heap.size := by omega
        have hbl2 : b2 < wr.heap.size := by omega
        clear hS hr hx hy hV1 hV2 hlf1 hlf2 HK hbel
        have hbb := ((below_box wr (.cells #[.int .i64 x.id, .string x.con, .int .i64 x.par, .string x.role, .slice Ap1 np1 cp1, .slice Ak1 nk1 ck1, .slice Ar1 nr1 cr1] 55)).alloc (by simp) (.cells #[.int .i64 y.id, .string y.con, .int .i64 y.par, .string y.role, .slice Ap2 np2 cp2, .slice Ak2 nk2 ck2, .slice Ar2 nr2 cr2] 55))
        have HBB := Lib.hid hbb
        clear hbb
        cases r with
        | false =>
          have HZ : Hid (eqL nodeE nds nds' = false) := Lib.hid (by rw [HD.out]; rfl)
          clear HD
          go_wp2_with (go_at_call 35; go_must (refine (HS.out _ HBB.out).mono ?_; rintro e w2 ⟨rfl, hb2⟩; have HB2 := Lib.hid (HBB.out.trans (hb2.mono (by simp; omega))); clear hb2))
          go_ret
          exact ret_b HZ.out rfl (HB.out.trans (HB2.out.mono hwz))
        | true =>
          have HZ : Hid (eqL nodeE nds nds' = eqL nodeE (nds.drop (k + 1)) (nds'.drop (k + 1))) := Lib.hid (by rw [HD.out]; rfl)
          clear HD
          go_wp2_with (go_at_call 35; go_must (refine (HS.out _ HBB.out).mono ?_; rintro e w2 ⟨rfl, hb2⟩; have HB2 := Lib.hid (HBB.out.trans (hb2.mono (by simp; omega))); clear hb2))
          go_roundw
          case rel => exact ⟨k + 1, by omega, by go_num, HB.out.trans (HB2.out.mono hwz), HZ⟩
          case measure => simp [intOf]; omega
      · have HZ : Hid (eqL nodeE nds nds' = true) := Lib.hid (by rw [HK.out, List.drop_eq_nil_of_le (by have := HL1.out; omega), List.drop_eq_nil_of_le (by have := HL2.out; omega)]; rfl)
        clear HK
        go_wp2_with fail
        go_ret
        exact ret_b HZ.out rfl HB.out
  · have d2 : ((n : Int) != (n' : Int)) = true := by rw [bne_iff_ne]; omega
    have HZ : Hid (eqL nodeE nds nds' = false) := Lib.hid (eqL_len nodeE (by have := HL1.out; have := HL2.out; omega))
    clear e2
    go_enter Tryz.func34, Tryz.ntmps34
    go_wp2_with fail
    go_ret
    exact ret_b HZ.out rfl (Below.refl _ _)
set_option maxHeartbeats 1600000 in
theorem same_any (w : World) (hi : Nat) (next next' : Int) (A A' : Option Addr) (n c n' c' : Nat) (nds nds' : List Nd) (h : NodesIn w 0 hi A n c nds) (h' : NodesIn w 0 hi A' n' c' nds') (hh : hi ≤ w.heap.size) :
    Calls Tryz.prog 14 #[.agg #[.int .i64 next, .slice A n c], .agg #[.int .i64 next', .slice A' n' c']] w (Ret w (.bool (mdE next next' nds nds'))) := by
  have hM := M2.start w next next' A A' n c n' c'
  have HM0 := Lib.hid hM
  have HE := Lib.hid (equalFunc_any _ hi A A' n c n' c' nds nds' (h.below (hM.bel.mono hh)) (h'.below (hM.bel.mono hh)) (by have := hM.bel.size; omega))
  clear hM h h'
  by_cases e1 : next = next'
  · have d1 : (next == next') = true := by rw [beq_iff_eq]; exact e1
    have HN : Hid (mdE next next' nds nds' = eqL nodeE nds nds') := Lib.hid (by unfold mdE; rw [d1]; rfl)
    clear e1
    go_enter Tryz.func14, Tryz.ntmps14
    go_wp2_with (go_at_call 34; go_must (refine HE.out.mono ?_; rintro e w2 ⟨rfl, hb2⟩; have HB2 := Lib.hid (HM0.out.after hb2); clear hb2))
    go_ret
    exact ret_b HN.out rfl HB2.out.bel
  · have d1 : (next == next') = false := by rw [beq_eq_false_iff_ne]; exact e1
    have HN : Hid (mdE next next' nds nds' = false) := Lib.hid (by unfold mdE; rw [d1]; rfl)
    clear e1
    go_enter Tryz.func14, Tryz.ntmps14
    go_wp2_with fail
    go_ret
    exact ret_b HN.out rfl HM0.out.bel
end Go.Proofs.YtjjlofaejpnnnaaGreatDoor
namespace Go.Proofs.YtjjlofaejpnnnaaGreatDoor
open Go Go.RowKit Go.Sort
set_option linter.unusedVariables false
attribute [local go_sem ↓] Go.wp_at_zero Go.wp_at_succ
theorem MarkIn.row {w : World} {B : Nat} {e : TypeId} {size n : Nat} {s : Sl} {xs mark : List Value} (h : MarkIn w B e size s n xs mark) (hx : xs.length = n * size) : Row w B w.heap.size size s.A s.n s.c xs := by
  have h1 := own_row (own_take h.2.2 (Nat.le_succ n) h.2.1)
  rw [show (xs ++ mark).take (n * size) = xs from by rw [← hx]; simp] at h1
  rw [h.1]
  exact h1
/-- the mark behind the end: the room is there, and what lies in it -/
theorem MarkIn.mark {w : World} {B : Nat} {e : TypeId} {size n : Nat} {s : Sl} {xs : List Value} {m0 : Value} {ms : List Value} (h : MarkIn w B e size s n xs (m0 :: ms)) (hx : xs.length = n * size) :
    ∃ b o, s.A = some ⟨b, o, none⟩ ∧ b < w.heap.size ∧ s.n + 1 ≤ s.c ∧ s.c ≤ maxLen ∧ w.cell? ⟨b, o + s.n * size, none⟩ = some m0 := by
  have h1 := own_row h.2.2
  obtain ⟨b, o, hA, _, hb, hc⟩ := h1.2.2.2 (Nat.succ_pos _)
  refine ⟨b, o, hA, hb, ?_, h1.2.2.1, hc _ _ ?_⟩
  · rw [h.1]; exact h1.2.1
  · rw [h.1, ← hx]; simp
theorem LentLeaf.leafIn {w : World} {B : Nat} {nd : Nd} {L : Leaf} (h : LentLeaf w B nd L) : LeafIn w B w.heap.size nd L :=
  ⟨h.p.1, h.k.1, h.r.1, h.p.row (propCells_length _), h.k.row (by rw [intCells_length]; omega), h.r.row (refCells_length _), h.sz⟩
theorem LentAt.after {w w' : World} {B n c : Nat} {A : Option Addr} {nds : List Nd} {l : List (Nd × Leaf)} (h : LentAt w B A n c nds l) (hb : Below w.heap.size w w') : LentAt w' B A n c nds l :=
  ⟨h.nds_, h.len, fun p hp => (h.leaf p hp).after hb, h.some_, own_after h.own hb, h.le, h.max⟩
/-- where the nodes lie, each with its marks, and the last mark -/
theorem LentAt.all {w : World} {B n c : Nat} {A : Option Addr} {nds : List Nd} {l : List (Nd × Leaf)} (h : LentAt w B A n c nds l) :
    ∃ b o, A = some ⟨b, o, none⟩ ∧ b < w.heap.size ∧ w.cell? ⟨b, o + n * 7, none⟩ = some (.int .i64 (-7)) ∧ ∀ i p, l[i]? = some p → NodeAt w b (o + i * 7) p.1 p.2 ∧ LentLeaf w B p.1 p.2 := by
  have h1 := own_row h.own
  obtain ⟨b, o, hA, _, hb, hc⟩ := h1.2.2.2 (Nat.succ_pos _)
  refine ⟨b, o, hA, hb, hc _ _ (by rw [← h.len, ← allCells_len]; simp [markNd]), fun i p hp => ?_⟩
  have hi : i < l.length := (List.getElem?_eq_some_iff.1 hp).1
  have key : ∀ j u, j < 7 → (ndCells p)[j]? = some u → w.cell? ⟨b, o + i * 7 + j, none⟩ = some u := by
    intro j u hj hu
    have hlt : i * 7 + j < (allCells l).length := by rw [allCells_len]; omega
    have := hc (i * 7 + j) u (by rw [List.getElem?_append_left hlt]; unfold allCells; rw [flatN_get ndCells_len l i p hp j hj]; exact hu)
    rwa [Nat.add_assoc]
  exact ⟨⟨key 0 _ (by omega) rfl, key 1 _ (by omega) rfl, key 2 _ (by omega) rfl, key 3 _ (by omega) rfl, key 4 _ (by omega) rfl, key 5 _ (by omega) rfl, key 6 _ (by omega) rfl⟩, h.leaf p (List.mem_of_getElem? hp)⟩
end Go.Proofs.YtjjlofaejpnnnaaGreatDoor
namespace Go.Proofs.YtjjlofaejpnnnaaGreatDoor
open Go Go.RowKit Go.Sort
set_option linter.unusedVariables false
attribute [local go_sem ↓] Go.wp_at_zero Go.wp_at_succ
theorem step_call {P : Program} (w : World) {ops : Array Oper} {o : Oper} {a : Act} {K : Act → World → Prop} {Q : Exit → Act → World → Prop} {E : Prop} (hgd : o.guard = none) (f : FuncId) (vs : Array Value)
    (hrun : (execOp a.eval o).run P w = .ok (.enter f vs) w) {R : Ending → World → Prop} (h : Calls P f vs w R)
    (hK : ∀ e w', R e w' → ∃ u, e = .returned u ∧ K (a.put o.dst u) w') : if Region.wanted o (yielded ops a.tmps) = true then Oper.wp P o a w K Q else E := by
  have hw : Region.wanted o (yielded ops a.tmps) = true := by simp [Region.wanted, hgd]
  rw [if_pos hw]
  unfold Oper.wp
  rw [hrun]
  refine h.mono ?_
  intro e w' hR
  obtain ⟨u, rfl, hk⟩ := hK e w' hR
  exact hk
end Go.Proofs.YtjjlofaejpnnnaaGreatDoor

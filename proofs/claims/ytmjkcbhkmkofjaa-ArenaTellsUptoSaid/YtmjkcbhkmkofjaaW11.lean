/-
  WALKS: index, has of the document; the words for its plain.
-/
import Derived.Test.YtmjkcbhkmkofjaaW10
namespace Go.Proofs.Ytmjkcbhkmkofjaa
open Go Go.RowKit Go.Sort
set_option linter.unusedVariables false

def idxV (l : List Int) (x : Int) : Int := match l.findIdx? (· == x) with | some i => (i : Int) | none => -1
theorem idxV_at {l : List Int} {x : Int} {k : Nat} (h1 : ∀ (i : Nat) y, i < k → l[i]? = some y → y ≠ x) (h2 : l[k]? = some x) : idxV l x = k := by
  unfold idxV
  have : l.findIdx? (· == x) = some k := by
    rw [List.findIdx?_eq_some_iff_getElem]
    obtain ⟨hl, e⟩ := List.getElem?_eq_some_iff.1 h2
    refine ⟨hl, by simp [e], fun j hj => ?_⟩
    have := h1 j _ hj (List.getElem?_eq_getElem (by omega))
    simpa using this
  rw [this]
theorem idxV_no {l : List Int} {x : Int} (h1 : ∀ (i : Nat) y, l[i]? = some y → y ≠ x) : idxV l x = -1 := by
  unfold idxV
  have : l.findIdx? (· == x) = none := by
    rw [List.findIdx?_eq_none_iff]
    intro y hy
    obtain ⟨i, hi⟩ := List.getElem?_of_mem hy
    simpa using h1 i y hi
  rw [this]
theorem idxV_ge (l : List Int) (x : Int) : decide (0 ≤ idxV l x) = l.contains x := by
  unfold idxV
  cases h : l.findIdx? (· == x) with
  | some i =>
    obtain ⟨hl, hp, _⟩ := List.findIdx?_eq_some_iff_getElem.1 h
    have : x ∈ l := by have := List.getElem_mem hl; rw [show l[i] = x from by simpa using hp] at this; exact this
    simp [this]
  | none =>
    have := List.findIdx?_eq_none_iff.1 h
    have : x ∉ l := fun hm => by have := this x hm; simp at this
    simp [this]

set_option maxHeartbeats 800000 in
theorem refIndex_any (w : World) (lo hi : Nat) (A : Option Addr) (n c : Nat) (l : List Int) (x : Int) (h : Row w lo hi 1 A n c (intCells l)) :
    Calls Try.prog 61 #[.slice A n c, .int .i64 x] w fun e w' => e = .returned (.int .i64 (idxV l x)) ∧ w = w' := by
  have hc := h.2.2.1
  have hnc := h.2.1
  have hl : l.length = n := by have := h.1; rw [intCells_length] at this; omega
  have HL := Lib.hid hl
  unfold maxLen at hc
  clear hl
  go_enter Try.func61, Try.ntmps61
  go_wp2_with fail
  go_loop [5] (fun i => ∃ k : Nat, k ≤ n ∧ i = .int .i64 k ∧ Hid (∀ (i : Nat) y, i < k → l[i]? = some y → y ≠ x)) (fun i => n - (intOf i).toNat)
  case atStart => exact ⟨0, by omega, rfl, Lib.hid (fun i y hi => absurd hi (by omega))⟩
  case round =>
    obtain ⟨k, hk, rfl, HK⟩ := hrel
    by_cases hlt : k < n
    · obtain ⟨b, o, rfl, _, hb, hcells⟩ := h.at_ (by omega)
      obtain ⟨y, hy⟩ : ∃ y, l[k]? = some y := ⟨l[k]'(by have := HL.out; omega), List.getElem?_eq_getElem _⟩
      have hck := hcells k _ (intCells_get hy)
      by_cases e : y = x
      · have d1 : (y == x) = true := by rw [beq_iff_eq]; exact e
        have HX : Hid (idxV l x = k) := Lib.hid (idxV_at HK.out (by rw [hy, e]))
        clear e hy hcells
        go_wp2_with fail
        go_ret
        exact ⟨ret_int HX.out.symm, rfl⟩
      · have d1 : (y == x) = false := by rw [beq_eq_false_iff_ne]; exact e
        have HX : Hid (∀ (i : Nat) y, i < k + 1 → l[i]? = some y → y ≠ x) := Lib.hid (fun i z hi hz => by
          by_cases g : i = k
          · subst g; rw [hy] at hz; injection hz with hz; rw [← hz]; exact e
          · exact HK.out i z (by omega) hz)
        clear e hy hcells
        go_wp2_with fail
        go_round
        case rel => exact ⟨k + 1, by omega, by go_num, HX⟩
        case measure => simp [intOf]; omega
    · have HX : Hid (idxV l x = -1) := Lib.hid (idxV_no (fun i y hi => HK.out i y (by have := (List.getElem?_eq_some_iff.1 hi).1; have := HL.out; omega) hi))
      go_wp2_with fail
      go_ret
      exact ⟨ret_int HX.out.symm, rfl⟩
set_option maxHeartbeats 400000 in
theorem refHas_any (w : World) (lo hi : Nat) (A : Option Addr) (n c : Nat) (l : List Int) (x : Int) (h : Row w lo hi 1 A n c (intCells l)) :
    Calls Try.prog 52 #[.slice A n c, .int .i64 x] w (Says w (l.contains x)) := by
  have HI := Lib.hid (refIndex_any w lo hi A n c l x h)
  have HX := Lib.hid (idxV_ge l x)
  clear h
  go_enter Try.func52, Try.ntmps52
  go_wp2_with (go_at_call 61; refine HI.out.mono ?_; rintro e w' ⟨rfl, rfl⟩)
  go_ret
  exact ⟨ret_bool HX.out, rfl⟩

/-- a block of yes and no -/
def BBlk (w : World) (g : Nat) (a : List Bool) : Prop := Blk w g 4 (a.map Value.bool).toArray
section
variable {w w' : World} {g : Nat} {a : List Bool}
theorem BBlk.cell (h : BBlk w g a) {i : Nat} (hi : i < a.length) : w.cell? ⟨g, i, none⟩ = some (.bool (a.getD i false)) := by
  rw [Blk.cell h]
  simp [hi]
theorem BBlk.set_ (h : BBlk w g a) (i : Nat) (x : Bool) : BBlk (w.setCell ⟨g, i, none⟩ (.bool x)) g (a.set i x) := by
  have := Blk.set_ h i (.bool x)
  unfold BBlk
  have e : ((a.set i x).map Value.bool).toArray = (a.map Value.bool).toArray.setIfInBounds i (.bool x) := by simp [List.map_set]
  rw [e]; exact this
end
theorem boolInfo : (Try.prog.info? 4).map (fun i => (i.zero, i.size, i.bytes)) = some (some (.bool false), 1, 1) := by kernel_rfl
theorem made_bools (n : Nat) : madeCells #[.bool false] n = ((List.replicate n false).map Value.bool).toArray := by
  apply Array.ext_getElem?
  intro i
  by_cases hi : i < n
  · simp [madeCells, hi, Nat.mod_one]
  · simp [madeCells, hi]
def noB (n : Nat) : Array Value := ((List.replicate n false).map Value.bool).toArray
theorem BBlk.start (w : World) (n : Nat) : BBlk (w.alloc (.cells (noB n) 4)) w.heap.size (List.replicate n false) := Blk.new _ _ _
theorem make_bools (n : Nat) (hn : n ≤ 281474976710656) (w : World) :
    (Instr.makeSlice 87 (.int .i64 (n : Int)) (.int .i64 (n : Int))).run Try.prog w = .ok (.slice (some ⟨w.heap.size, 0, none⟩) n n) (w.alloc (.cells (noB n) 4)) := by
  unfold noB
  rw [← made_bools]
  exact run_make_row' (P := Try.prog) 87 4 (.bool false) 1 Try.underlying87 boolInfo rfl .i64 .i64 n (by omega) (by omega) w

/-- the kids that were met so far are marked -/
def MetOk (nds : List Nd) (n : Nat) (seen : List Int) (mt : List Bool) : Prop := mt.length = n ∧ ∀ k j, ixOf nds k = some j → mt.getD j false = seen.contains k
theorem MetOk.start (nds : List Nd) (n : Nat) : MetOk nds n [] (List.replicate n false) := ⟨by simp, fun k j h => by
  rw [List.getD_eq_getElem?_getD, List.getElem?_replicate]; split <;> simp⟩
theorem MetOk.step {nds : List Nd} {n : Nat} {seen : List Int} {mt : List Bool} (h : MetOk nds n seen mt) {k : Int} {j : Nat} (hj : ixOf nds k = some j) (hn : j < n) : MetOk nds n (k :: seen) (mt.set j true) := by
  refine ⟨by rw [List.length_set]; exact h.1, fun k' j' hj' => ?_⟩
  rw [List.getD_eq_getElem?_getD, List.getElem?_set]
  by_cases e : j = j'
  · subst e
    obtain rfl := ixOf_inj hj hj'
    simp [h.1, hn]
  · rw [if_neg e, ← List.getD_eq_getElem?_getD, h.2 k' j' hj']
    have : k' ≠ k := by rintro rfl; rw [hj] at hj'; injection hj' with hj'; exact e hj'
    simp [this]

/-- the boxes of the document's plain, below: the model, the node -/
structure PW (w : World) (next : Int) (A : Option Addr) (n c : Nat) (nd : Nd) (L : Leaf) (wr : World) : Prop where
  md : Blk wr w.heap.size 24 #[.int .i64 next, .slice A n c]
  nb : Blk wr (w.heap.size + 1) 51 #[.int .i64 nd.id, .string nd.con, .int .i64 nd.par, .string nd.role, .slice L.p.A L.p.n L.p.c, .slice L.k.A L.k.n L.k.c, .slice L.r.A L.r.n L.r.c]
  bel : Below w.heap.size w wr
section
variable {w wr w' : World} {next : Int} {A : Option Addr} {n c : Nat} {nd : Nd} {L : Leaf}
theorem PW.start (w : World) (next : Int) (A : Option Addr) (n c : Nat) (nd : Nd) (L : Leaf) : PW w next A n c nd L ((w.alloc (.cells #[.int .i64 next, .slice A n c] 24)).alloc (.cells #[.int .i64 nd.id, .string nd.con, .int .i64 nd.par, .string nd.role, .slice L.p.A L.p.n L.p.c, .slice L.k.A L.k.n L.k.c, .slice L.r.A L.r.n L.r.c] 51)) :=
  ⟨(Blk.new _ _ _).alloc _, Blk.new' (by simp), (below_box _ _).alloc (by simp) _⟩
theorem PW.after (h : PW w next A n c nd L wr) (hb : Below wr.heap.size wr w') : PW w next A n c nd L w' := ⟨h.md.after hb, h.nb.after hb, h.bel.trans (hb.mono h.bel.size)⟩
theorem PW.drewN (h : PW w next A n c nd L wr) (q : Nat) : PW w next A n c nd L (wr.drewN q) := ⟨h.md, h.nb, below_drewN h.bel q⟩
theorem PW.size (h : PW w next A n c nd L wr) : w.heap.size + 1 < wr.heap.size := h.nb.lt
end
end Go.Proofs.Ytmjkcbhkmkofjaa

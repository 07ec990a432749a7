/-
  WALKS: Check of the program.
  WALKS: index, has of the document; the words for its plain.
  PLAIN MATHEMATICS: places among kids, depths, and what a model is behind a node that is added.
-/
import Derived.Test.YtdeoblhdojbbbaaDoorZ9
import Derived.Deep.DeepMust
namespace Go.Proofs.YtdeoblhdojbbbaaDoor
open Go Go.RowKit Go.Sort
set_option linter.unusedVariables false
def checkV (next : Int) (nds : List Nd) : Int := if rightB next nds then 0 else 29
theorem check_no {next : Int} {nds : List Nd} (h : checkB next nds = false) : checkV next nds = 29 := by unfold checkV; rw [← checkB_eq, h]; rfl
theorem check_yes {next : Int} {nds : List Nd} (h : checkB next nds = true) : checkV next nds = 0 := by unfold checkV; rw [← checkB_eq, h]; rfl
theorem numB_facts {next : Int} {nds : List Nd} (h : numB next nds = true) : Rise nds ∧ nds.length ≤ 4096 ∧ 1 ≤ next ∧ next ≤ 1048577 := by
  unfold numB headB at h
  simp only [Bool.and_eq_true, decide_eq_true_eq] at h
  exact ⟨Rise.of h.2, h.1.2, h.1.1.1, h.1.1.2⟩
set_option maxHeartbeats 1600000 in
theorem check_any (w : World) (hi : Nat) (next : Int) (A : Option Addr) (n c : Nat) (nds : List Nd) (h : NodesIn w 0 hi A n c nds) (hh : hi ≤ w.heap.size) :
    Calls Tryd.prog 10 #[.agg #[.int .i64 next, .slice A n c]] w (Ret w (.int .i64 (checkV next nds))) := by
  have hbx := below_box w (mdObj next A n c)
  unfold mdObj at hbx
  have HB := Lib.hid hbx
  have HC : Hid (checkB next nds = (numB next nds && nds.all (speltB next) && (match joinS nds with | none => false | some a => rootedB a))) := Lib.hid rfl
  have HNu := Lib.hid (numbered_any (w.alloc (.cells #[.int .i64 next, .slice A n c] 24)) hi next A n c nds (h.below (hbx.mono hh)) (by simp; omega))
  have HSp : Hid (∀ w2, Below (w.alloc (.cells #[.int .i64 next, .slice A n c] 24)).heap.size (w.alloc (.cells #[.int .i64 next, .slice A n c] 24)) w2 → Calls Tryd.prog 27 #[.agg #[.int .i64 next, .slice A n c]] w2 (Ret w2 (.bool (nds.all (speltB next))))) := Lib.hid (fun w2 hb2 =>
    spelt_any w2 hi next A n c nds ((h.below (hbx.mono hh)).below (hb2.mono (by simp; omega))) (by have := hb2.size; simp at this; omega))
  have HJo : Hid (Rise nds → n ≤ 4096 → ∀ w2, Below (w.alloc (.cells #[.int .i64 next, .slice A n c] 24)).heap.size (w.alloc (.cells #[.int .i64 next, .slice A n c] 24)) w2 → Calls Tryd.prog 28 #[.agg #[.int .i64 next, .slice A n c]] w2 (Joined w2 n (joinS nds))) := Lib.hid (fun hr hn w2 hb2 =>
    joined_any w2 hi next A n c nds ((h.below (hbx.mono hh)).below (hb2.mono (by simp; omega))) (by have := hb2.size; simp at this; omega) hr hn)
  have HL := Lib.hid h.1
  clear hbx
  cases h1 : numB next nds with
  | false =>
    have HX : Hid (checkV next nds = 29) := Lib.hid (check_no (by rw [HC.out, h1]; rfl))
    rw [h1] at HNu
    clear h1 h
    go_enter Tryd.func10, Tryd.ntmps10
    go_wp2_with (go_at_call 26; refine HNu.out.mono ?_; rintro e w2 ⟨rfl, hb2⟩; obtain ⟨q1, q2⟩ := bcell hb2)
    go_ret
    exact ret_i HX.out rfl (HB.out.trans (hb2.mono (by simp)))
  | true =>
    obtain ⟨hr, hn, _, _⟩ := numB_facts h1
    rw [HL.out] at hn
    rw [h1] at HNu
    cases h2 : nds.all (speltB next) with
    | false =>
      have HX : Hid (checkV next nds = 29) := Lib.hid (check_no (by rw [HC.out, h2]; simp))
      rw [h2] at HSp
      clear h1 h2 h hr
      go_enter Tryd.func10, Tryd.ntmps10
      go_wp2_with (first | (go_at_call 26; refine HNu.out.mono ?_; rintro e w2 ⟨rfl, hb2⟩; obtain ⟨q1, q2⟩ := bcell hb2; have HB2 := Lib.hid hb2; have hz2 : w.heap.size < w2.heap.size := Nat.lt_of_lt_of_le (by simp) hb2.size; clear hb2) | (go_at_call 27; go_must (refine (HSp.out w2 HB2.out).mono ?_; rintro e w3 ⟨rfl, hb3⟩; have HB3 := Lib.hid hb3; clear hb3)))
      go_ret
      exact ret_i HX.out rfl (HB.out.trans ((HB2.out.mono (by simp)).trans (HB3.out.mono (by omega))))
    | true =>
      rw [h2] at HSp
      have hJo := HJo.out hr hn
      cases h3 : joinS nds with
      | none =>
        have HX : Hid (checkV next nds = 29) := Lib.hid (check_no (by rw [HC.out, h3]; simp))
        rw [h3] at hJo
        have HJ := Lib.hid hJo
        clear h1 h2 h3 h hr hJo HJo
        go_enter Tryd.func10, Tryd.ntmps10
        go_wp2_with (first | (go_at_call 26; refine HNu.out.mono ?_; rintro e w2 ⟨rfl, hb2⟩; obtain ⟨q1, q2⟩ := bcell hb2; have HB2 := Lib.hid hb2; have hz2 : w.heap.size < w2.heap.size := Nat.lt_of_lt_of_le (by simp) hb2.size; clear hb2) | (go_at_call 27; go_must (refine (HSp.out w2 HB2.out).mono ?_; rintro e w3 ⟨rfl, hb3⟩; obtain ⟨r1, r2⟩ := bcell hb3; have HB3 := Lib.hid (HB2.out.trans (hb3.mono (by simp; omega))); have hz3 := hb3.size; clear hb3)) | (go_at_call 28; refine (HJ.out w3 HB3.out).mono ?_; rintro e w4 ⟨hb4, rfl⟩; have HB4 := Lib.hid hb4; clear hb4))
        go_ret
        exact ret_i HX.out rfl (HB.out.trans ((HB3.out.mono (by simp)).trans (HB4.out.mono (by omega))))
      | some a =>
        rw [h3] at hJo
        have HJ := Lib.hid hJo
        have J := join_of hr h3
        have hav : ∀ j, j < n → -1 ≤ a.getD j (-1) ∧ a.getD j (-1) < n := by
          intro j hj
          have hjl : j < a.length := by rw [J.len, HL.out]; exact hj
          have e : a.getD j (-1) = a.getD j 0 := by rw [List.getD_eq_getElem?_getD, List.getD_eq_getElem?_getD, List.getElem?_eq_getElem hjl]; rfl
          rw [e]
          by_cases hx : a.getD j 0 = -1
          · omega
          · obtain ⟨i, p, h1, _, h2, _⟩ := J.from_ j (nds[j]'(by rw [HL.out]; exact hj)) (List.getElem?_eq_getElem _) hx
            have := (List.getElem?_eq_some_iff.1 h1).1
            rw [HL.out] at this
            omega
        have HAV := Lib.hid hav
        have HR : Hid (∀ (w4 : World) (g : Nat), IBlk w4 g a → a.length = n → Calls Tryd.prog 29 #[.slice (some ⟨g, 0, none⟩) n n] w4 (Ret w4 (.bool (rootedB a)))) := Lib.hid (fun w4 g hg hl => rooted_any w4 w4.heap.size (some ⟨g, 0, none⟩) n n a (hg.row hl (Nat.le_refl _) (by unfold maxLen; omega) (Nat.zero_le _) hg.lt) (Nat.le_refl _) hn hl HAV.out)
        obtain ⟨x, hx⟩ : ∃ x, rootedB a = x := ⟨_, rfl⟩
        rw [hx] at HR
        have HX : Hid (checkV next nds = if x then 0 else 29) := Lib.hid (by
          cases x with
          | false => exact check_no (by rw [HC.out, h3]; simp [hx])
          | true => exact check_yes (by rw [HC.out, h1, h2, h3]; simp [hx]))
        clear h1 h2 h3 h hr hJo HJo hav J hx
        cases x
        all_goals
          go_enter Tryd.func10, Tryd.ntmps10
          go_wp2_with (first | (go_at_call 26; refine HNu.out.mono ?_; rintro e w2 ⟨rfl, hb2⟩; obtain ⟨q1, q2⟩ := bcell hb2; have HB2 := Lib.hid hb2; have hz2 : w.heap.size < w2.heap.size := Nat.lt_of_lt_of_le (by simp) hb2.size; clear hb2) | (go_at_call 27; go_must (refine (HSp.out w2 HB2.out).mono ?_; rintro e w3 ⟨rfl, hb3⟩; obtain ⟨r1, r2⟩ := bcell hb3; have HB3 := Lib.hid (HB2.out.trans (hb3.mono (by simp; omega))); have hz3 := hb3.size; clear hb3)) | (go_at_call 28; refine (HJ.out w3 HB3.out).mono ?_; rintro e w4 ⟨hb4, g, rfl, hg, hl, _⟩; have HB4 := Lib.hid hb4; have HG := Lib.hid hg; have HLL := Lib.hid hl; have hz4 := hb4.size; clear hb4 hg hl) | (go_at_call 29; refine (HR.out w4 g HG.out HLL.out).mono ?_; rintro e w5 ⟨rfl, hb5⟩; have HB5 := Lib.hid hb5; clear hb5))
          go_ret
          exact ret_i HX.out rfl (HB.out.trans ((HB3.out.mono (by simp)).trans ((HB4.out.mono (by omega)).trans (HB5.out.mono (by omega)))))
end Go.Proofs.YtdeoblhdojbbbaaDoor
namespace Go.Proofs.YtdeoblhdojbbbaaDoor
open Go Go.RowKit Go.Sort
set_option linter.unusedVariables false
def idxV (l : List Int) (x : Int) : Int := match l.findIdx? (· == x) with | some i => (i : Int) | none => -1
theorem idxV_at {l : List Int} {x : Int} {k : Nat} (h1 : ∀ (i : Nat) y, i < k → l[i]? = some y → y ≠ x) (h2 : l[k]? = some x) : idxV l x = k := by
  unfold idxV
  have : l.findIdx? (· == x) = some k := by
    rw [List.findIdx?_eq_some_iff_getElem]
    obtain ⟨hl, e⟩ := List.getElem?_eq_some_iff.1 h2
    refine ⟨hl, by simp [e], fun j hj => ?_⟩
    have := h1 j _ hj (List.getElem?_eq_getElem (by omega))
    simpa using this
  rw [this]
theorem idxV_no {l : List Int} {x : Int} (h1 : ∀ (i : Nat) y, l[i]? = some y → y ≠ x) : idxV l x = -1 := by
  unfold idxV
  have : l.findIdx? (· == x) = none := by
    rw [List.findIdx?_eq_none_iff]
    intro y hy
    obtain ⟨i, hi⟩ := List.getElem?_of_mem hy
    simpa using h1 i y hi
  rw [this]
theorem idxV_ge (l : List Int) (x : Int) : decide (0 ≤ idxV l x) = l.contains x := by
  unfold idxV
  cases h : l.findIdx? (· == x) with
  | some i =>
    obtain ⟨hl, hp, _⟩ := List.findIdx?_eq_some_iff_getElem.1 h
    have : x ∈ l := by have := List.getElem_mem hl; rw [show l[i] = x from by simpa using hp] at this; exact this
    simp [this]
  | none =>
    have := List.findIdx?_eq_none_iff.1 h
    have : x ∉ l := fun hm => by have := this x hm; simp at this
    simp [this]
set_option maxHeartbeats 800000 in
theorem refIndex_any (w : World) (lo hi : Nat) (A : Option Addr) (n c : Nat) (l : List Int) (x : Int) (h : Row w lo hi 1 A n c (intCells l)) :
    Calls Tryd.prog 61 #[.slice A n c, .int .i64 x] w fun e w' => e = .returned (.int .i64 (idxV l x)) ∧ w = w' := by
  have hc := h.2.2.1
  have hnc := h.2.1
  have hl : l.length = n := by have := h.1; rw [intCells_length] at this; omega
  have HL := Lib.hid hl
  unfold maxLen at hc
  clear hl
  go_enter Tryd.func61, Tryd.ntmps61
  go_wp2_with fail
  go_loop [5] (fun i => ∃ k : Nat, k ≤ n ∧ i = .int .i64 k ∧ Hid (∀ (i : Nat) y, i < k → l[i]? = some y → y ≠ x)) (fun i => n - (intOf i).toNat)
  case atStart => exact ⟨0, by omega, rfl, Lib.hid (fun i y hi => absurd hi (by omega))⟩
  case round =>
    obtain ⟨k, hk, rfl, HK⟩ := hrel
    by_cases hlt : k < n
    · obtain ⟨b, o, rfl, _, hb, hcells⟩ := h.at_ (by omega)
      obtain ⟨y, hy⟩ : ∃ y, l[k]? = some y := ⟨l[k]'(by have := HL.out; omega), List.getElem?_eq_getElem _⟩
      have hck := hcells k _ (intCells_get hy)
      by_cases e : y = x
      · have d1 : (y == x) = true := by rw [beq_iff_eq]; exact e
        have HX : Hid (idxV l x = k) := Lib.hid (idxV_at HK.out (by rw [hy, e]))
        clear e hy hcells
        go_wp2_with fail
        go_ret
        exact ⟨ret_int HX.out.symm, rfl⟩
      · have d1 : (y == x) = false := by rw [beq_eq_false_iff_ne]; exact e
        have HX : Hid (∀ (i : Nat) y, i < k + 1 → l[i]? = some y → y ≠ x) := Lib.hid (fun i z hi hz => by
          by_cases g : i = k
          · subst g; rw [hy] at hz; injection hz with hz; rw [← hz]; exact e
          · exact HK.out i z (by omega) hz)
        clear e hy hcells
        go_wp2_with fail
        go_round
        case rel => exact ⟨k + 1, by omega, by go_num, HX⟩
        case measure => simp [intOf]; omega
    · have HX : Hid (idxV l x = -1) := Lib.hid (idxV_no (fun i y hi => HK.out i y (by have := (List.getElem?_eq_some_iff.1 hi).1; have := HL.out; omega) hi))
      go_wp2_with fail
      go_ret
      exact ⟨ret_int HX.out.symm, rfl⟩
set_option maxHeartbeats 400000 in
theorem refHas_any (w : World) (lo hi : Nat) (A : Option Addr) (n c : Nat) (l : List Int) (x : Int) (h : Row w lo hi 1 A n c (intCells l)) :
    Calls Tryd.prog 54 #[.slice A n c, .int .i64 x] w (Says w (l.contains x)) := by
  have HI := Lib.hid (refIndex_any w lo hi A n c l x h)
  have HX := Lib.hid (idxV_ge l x)
  clear h
  go_enter Tryd.func54, Tryd.ntmps54
  go_wp2_with (go_at_call 61; refine HI.out.mono ?_; rintro e w' ⟨rfl, rfl⟩)
  go_ret
  exact ⟨ret_bool HX.out, rfl⟩
/-- a block of yes and no -/
def BBlk (w : World) (g : Nat) (a : List Bool) : Prop := Blk w g 4 (a.map Value.bool).toArray
section
variable {w w' : World} {g : Nat} {a : List Bool}
theorem BBlk.cell (h : BBlk w g a) {i : Nat} (hi : i < a.length) : w.cell? ⟨g, i, none⟩ = some (.bool (a.getD i false)) := by
  rw [Blk.cell h]
  simp [hi]
theorem BBlk.set_ (h : BBlk w g a) (i : Nat) (x : Bool) : BBlk (w.setCell ⟨g, i, none⟩ (.bool x)) g (a.set i x) := by
  have := Blk.set_ h i (.bool x)
  unfold BBlk
  have e : ((a.set i x).map Value.bool).toArray = (a.map Value.bool).toArray.setIfInBounds i (.bool x) := by simp [List.map_set]
  rw [e]; exact this
end
theorem boolInfo : (Tryd.prog.info? 4).map (fun i => (i.zero, i.size, i.bytes)) = some (some (.bool false), 1, 1) := by kernel_rfl
theorem made_bools (n : Nat) : madeCells #[.bool false] n = ((List.replicate n false).map Value.bool).toArray := by
  apply Array.ext_getElem?
  intro i
  by_cases hi : i < n
  · simp [madeCells, hi, Nat.mod_one]
  · simp [madeCells, hi]
def noB (n : Nat) : Array Value := ((List.replicate n false).map Value.bool).toArray
theorem BBlk.start (w : World) (n : Nat) : BBlk (w.alloc (.cells (noB n) 4)) w.heap.size (List.replicate n false) := Blk.new _ _ _
theorem make_bools (n : Nat) (hn : n ≤ 281474976710656) (w : World) :
    (Instr.makeSlice 84 (.int .i64 (n : Int)) (.int .i64 (n : Int))).run Tryd.prog w = .ok (.slice (some ⟨w.heap.size, 0, none⟩) n n) (w.alloc (.cells (noB n) 4)) := by
  unfold noB
  rw [← made_bools]
  exact run_make_row' (P := Tryd.prog) 84 4 (.bool false) 1 Tryd.underlying84 boolInfo rfl .i64 .i64 n (by omega) (by omega) w
/-- the kids that were met so far are marked -/
def MetOk (nds : List Nd) (n : Nat) (seen : List Int) (mt : List Bool) : Prop := mt.length = n ∧ ∀ k j, ixOf nds k = some j → mt.getD j false = seen.contains k
theorem MetOk.start (nds : List Nd) (n : Nat) : MetOk nds n [] (List.replicate n false) := ⟨by simp, fun k j h => by
  rw [List.getD_eq_getElem?_getD, List.getElem?_replicate]; split <;> simp⟩
theorem MetOk.step {nds : List Nd} {n : Nat} {seen : List Int} {mt : List Bool} (h : MetOk nds n seen mt) {k : Int} {j : Nat} (hj : ixOf nds k = some j) (hn : j < n) : MetOk nds n (k :: seen) (mt.set j true) := by
  refine ⟨by rw [List.length_set]; exact h.1, fun k' j' hj' => ?_⟩
  rw [List.getD_eq_getElem?_getD, List.getElem?_set]
  by_cases e : j = j'
  · subst e
    obtain rfl := ixOf_inj hj hj'
    simp [h.1, hn]
  · rw [if_neg e, ← List.getD_eq_getElem?_getD, h.2 k' j' hj']
    have : k' ≠ k := by rintro rfl; rw [hj] at hj'; injection hj' with hj'; exact e hj'
    simp [this]
/-- the boxes of the document's plain, below: the model, the node -/
structure PW (w : World) (next : Int) (A : Option Addr) (n c : Nat) (nd : Nd) (L : Leaf) (wr : World) : Prop where
  md : Blk wr w.heap.size 24 #[.int .i64 next, .slice A n c]
  nb : Blk wr (w.heap.size + 1) 37 #[.int .i64 nd.id, .string nd.con, .int .i64 nd.par, .string nd.role, .slice L.p.A L.p.n L.p.c, .slice L.k.A L.k.n L.k.c, .slice L.r.A L.r.n L.r.c]
  bel : Below w.heap.size w wr
section
variable {w wr w' : World} {next : Int} {A : Option Addr} {n c : Nat} {nd : Nd} {L : Leaf}
theorem PW.start (w : World) (next : Int) (A : Option Addr) (n c : Nat) (nd : Nd) (L : Leaf) : PW w next A n c nd L ((w.alloc (.cells #[.int .i64 next, .slice A n c] 24)).alloc (.cells #[.int .i64 nd.id, .string nd.con, .int .i64 nd.par, .string nd.role, .slice L.p.A L.p.n L.p.c, .slice L.k.A L.k.n L.k.c, .slice L.r.A L.r.n L.r.c] 37)) :=
  ⟨(Blk.new _ _ _).alloc _, Blk.new' (by simp), (below_box _ _).alloc (by simp) _⟩
theorem PW.after (h : PW w next A n c nd L wr) (hb : Below wr.heap.size wr w') : PW w next A n c nd L w' := ⟨h.md.after hb, h.nb.after hb, h.bel.trans (hb.mono h.bel.size)⟩
theorem PW.drewN (h : PW w next A n c nd L wr) (q : Nat) : PW w next A n c nd L (wr.drewN q) := ⟨h.md, h.nb, below_drewN h.bel q⟩
theorem PW.size (h : PW w next A n c nd L wr) : w.heap.size + 1 < wr.heap.size := h.nb.lt
end
end Go.Proofs.YtdeoblhdojbbbaaDoor
namespace Go.Proofs.YtdeoblhdojbbbaaDoor
open Go Go.RowKit
set_option linter.unusedVariables false
/-- what a right model is -/
structure RightM (next : Int) (nds : List Nd) : Prop where
  rise : Rise nds
  lo : 1 ≤ next
  hi : next ≤ 1048577
  len : nds.length ≤ 4096
  lt : ∀ (i : Nat) nd, nds[i]? = some nd → nd.id < next
  plain : ∀ nd ∈ nds, plainB next nds nd = true
  below : ∀ nd ∈ nds, belowB nds 64 nd = true
theorem rightM {next : Int} {nds : List Nd} (h : rightB next nds = true) : RightM next nds := by
  unfold rightB numB headB at h
  simp only [Bool.and_eq_true, decide_eq_true_eq, List.all_eq_true] at h
  obtain ⟨⟨⟨⟨h1, h2⟩, h3⟩, h4⟩, h5⟩ := h
  exact ⟨Rise.of h4, h1, h2, h3, fun i nd hi => ((idsB_rise (by omega) h4).1 i nd hi).2, fun nd hnd => (h5 nd hnd).1, fun nd hnd => (h5 nd hnd).2⟩
theorem RightM.kids {next : Int} {nds : List Nd} (h : RightM next nds) {nd : Nd} (hnd : nd ∈ nds) : (∀ k ∈ nd.kids, ∃ x, ndOf nds k = some x ∧ x.par = nd.id) ∧ nd.kids.Nodup := by
  have h1 := h.plain nd hnd
  unfold plainB at h1
  simp only [Bool.and_eq_true] at h1
  have h2 := kidsB_spec.1 h1.2
  exact ⟨fun k hk => (h2.1 k hk).1, h2.2⟩
/-- the k-th one up from a node -/
def upI (nds : List Nd) (id : Int) : Nat → Int
  | 0 => id
  | k + 1 => match ndOf nds (upI nds id k) with
    | some nd => nd.par
    | none => 0
/-- so many nodes stand on the way from a node up -/
structure DepthIs (nds : List Nd) (id : Int) (K : Nat) : Prop where
  top : upI nds id K = 0
  way : ∀ k, k < K → upI nds id k ≠ 0 ∧ ∃ nd, ndOf nds (upI nds id k) = some nd
theorem upI_succ {nds : List Nd} {id : Int} {k : Nat} {nd : Nd} (h : ndOf nds (upI nds id k) = some nd) : upI nds id (k + 1) = nd.par := by
  rw [upI, h]
theorem upI_shift {nds : List Nd} {id : Int} {nd : Nd} (h : ndOf nds id = some nd) : ∀ k, upI nds id (k + 1) = upI nds nd.par k
  | 0 => by rw [upI, upI, upI, h]
  | k + 1 => by rw [upI, upI_shift h k, upI]
theorem depth_zero (nds : List Nd) : DepthIs nds 0 0 := ⟨rfl, fun k hk => absurd hk (Nat.not_lt_zero _)⟩
theorem DepthIs.succ {nds : List Nd} {id : Int} {nd : Nd} {K : Nat} (h : DepthIs nds nd.par K) (hnd : ndOf nds id = some nd) (h0 : id ≠ 0) : DepthIs nds id (K + 1) := by
  refine ⟨by rw [upI_shift hnd]; exact h.top, fun k hk => ?_⟩
  cases k with
  | zero => exact ⟨h0, nd, hnd⟩
  | succ k => rw [upI_shift hnd]; exact h.way k (by omega)
theorem DepthIs.eq {nds : List Nd} {id : Int} {K K' : Nat} (h : DepthIs nds id K) (h' : DepthIs nds id K') : K = K' := by
  rcases Nat.lt_trichotomy K K' with k | k | k
  · exact absurd h.top (h'.way K k).1
  · exact k
  · exact absurd h'.top (h.way K' k).1
theorem depth_of {next : Int} {nds : List Nd} (hr : RightM next nds) : ∀ (f : Nat) (nd : Nd), nd ∈ nds → belowB nds f nd = true → ∃ K, 1 ≤ K ∧ K ≤ f ∧ DepthIs nds nd.id K
  | 0, nd, _, h => by simp [belowB] at h
  | f + 1, nd, hm, h => by
    obtain ⟨i, hi⟩ := List.getElem?_of_mem hm
    have hnd := ndOf_is hr.rise hi
    have h0 : nd.id ≠ 0 := by have := hr.rise.pos i nd hi; omega
    rw [belowB] at h
    split at h
    · rename_i hp
      exact ⟨1, by omega, by omega, (show DepthIs nds nd.par 0 from by rw [hp]; exact depth_zero nds).succ hnd h0⟩
    · split at h
      · cases h
      · rename_i p hp
        simp only [Bool.and_eq_true] at h
        obtain ⟨j, _, hj, he⟩ := ndOf_some hp
        obtain ⟨K, h1, h2, h3⟩ := depth_of hr f p (List.mem_of_getElem? hj) h.2
        rw [he] at h3
        exact ⟨K + 1, by omega, by omega, h3.succ hnd h0⟩
/-- how deep a node stands; 0: there is none -/
def depthV (nds : List Nd) (id : Int) : Nat := ((List.range 65).find? (fun k => upI nds id k == 0)).getD 0
theorem DepthIs.val {nds : List Nd} {id : Int} {K : Nat} (h : DepthIs nds id K) (hK : K ≤ 64) : depthV nds id = K := by
  unfold depthV
  have : (List.range 65).find? (fun k => upI nds id k == 0) = some K := by
    rw [List.find?_range_eq_some]
    refine ⟨by simpa using h.top, by simp; omega, fun j hj => ?_⟩
    simpa using (h.way j hj).1
  rw [this]; rfl
theorem RightM.depth {next : Int} {nds : List Nd} (hr : RightM next nds) {id : Int} {nd : Nd} (h : ndOf nds id = some nd) : DepthIs nds id (depthV nds id) ∧ 1 ≤ depthV nds id ∧ depthV nds id ≤ 64 := by
  obtain ⟨i, _, hi, he⟩ := ndOf_some h
  have hm := List.mem_of_getElem? hi
  obtain ⟨K, h1, h2, h3⟩ := depth_of hr 64 nd hm (hr.below nd hm)
  rw [he] at h3
  rw [h3.val h2]
  exact ⟨h3, h1, h2⟩
end Go.Proofs.YtdeoblhdojbbbaaDoor

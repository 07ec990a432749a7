/-
  WALKS: Check of the program.
  WALKS: index, has of the document; the words for its plain.
  PLAIN MATHEMATICS: places among kids, depths, and what a model is behind a node that is added.
  PLAIN MATHEMATICS: document order.
  A REGION THAT DRAWS ITS ORDER, AND ENDS IN OPERATIONS WHOSE ORDER IS FORCED: what comes ahead of them is walked under a condition on the world, what they do is walked behind it. No program stands in it.
  WALKS: what is done at each node: a function value that is called at nodes in document order.
-/
import Derived.Test.YtbkmdlfenbfdlaaGreatZC3
import Derived.Deep.DeepMust
import Derived.WalkKit
import Derived.StillTail
import Derived.Deep.RegionHeld3
import Derived.Deep.DrawnRows
namespace Go.Proofs.YtbkmdlfenbfdlaaGreat
open Go Go.RowKit Go.Sort
set_option linter.unusedVariables false
def checkV (next : Int) (nds : List Nd) : Int := if rightB next nds then 0 else 29
theorem check_no {next : Int} {nds : List Nd} (h : checkB next nds = false) : checkV next nds = 29 := by unfold checkV; rw [← checkB_eq, h]; rfl
theorem check_yes {next : Int} {nds : List Nd} (h : checkB next nds = true) : checkV next nds = 0 := by unfold checkV; rw [← checkB_eq, h]; rfl
theorem numB_facts {next : Int} {nds : List Nd} (h : numB next nds = true) : Rise nds ∧ nds.length ≤ 4096 ∧ 1 ≤ next ∧ next ≤ 1048577 := by
  unfold numB headB at h
  simp only [Bool.and_eq_true, decide_eq_true_eq] at h
  exact ⟨Rise.of h.2, h.1.2, h.1.1.1, h.1.1.2⟩
set_option maxHeartbeats 1600000 in
theorem check_any (w : World) (hi : Nat) (next : Int) (A : Option Addr) (n c : Nat) (nds : List Nd) (h : NodesIn w 0 hi A n c nds) (hh : hi ≤ w.heap.size) :
    Calls Tryz.prog 12 #[.agg #[.int .i64 next, .slice A n c]] w (Ret w (.int .i64 (checkV next nds))) := by
  have hbx := below_box w (mdObj next A n c)
  unfold mdObj at hbx
  have HB := Lib.hid hbx
  have HC : Hid (checkB next nds = (numB next nds && nds.all (speltB next) && (match joinS nds with | none => false | some a => rootedB a))) := Lib.hid rfl
  have HNu := Lib.hid (numbered_any (w.alloc (.cells #[.int .i64 next, .slice A n c] 26)) hi next A n c nds (h.below (hbx.mono hh)) (by simp; omega))
  have HSp : Hid (∀ w2, Below (w.alloc (.cells #[.int .i64 next, .slice A n c] 26)).heap.size (w.alloc (.cells #[.int .i64 next, .slice A n c] 26)) w2 → Calls Tryz.prog 37 #[.agg #[.int .i64 next, .slice A n c]] w2 (Ret w2 (.bool (nds.all (speltB next))))) := Lib.hid (fun w2 hb2 =>
    spelt_any w2 hi next A n c nds ((h.below (hbx.mono hh)).below (hb2.mono (by simp; omega))) (by have := hb2.size; simp at this; omega))
  have HJo : Hid (Rise nds → n ≤ 4096 → ∀ w2, Below (w.alloc (.cells #[.int .i64 next, .slice A n c] 26)).heap.size (w.alloc (.cells #[.int .i64 next, .slice A n c] 26)) w2 → Calls Tryz.prog 38 #[.agg #[.int .i64 next, .slice A n c]] w2 (Joined w2 n (joinS nds))) := Lib.hid (fun hr hn w2 hb2 =>
    joined_any w2 hi next A n c nds ((h.below (hbx.mono hh)).below (hb2.mono (by simp; omega))) (by have := hb2.size; simp at this; omega) hr hn)
  have HL := Lib.hid h.1
  clear hbx
  cases h1 : numB next nds with
  | false =>
    have HX : Hid (checkV next nds = 29) := Lib.hid (check_no (by rw [HC.out, h1]; rfl))
    rw [h1] at HNu
    clear h1 h
    go_enter Tryz.func12, Tryz.ntmps12
    go_wp2_with (go_at_call 36; refine HNu.out.mono ?_; rintro e w2 ⟨rfl, hb2⟩; obtain ⟨q1, q2⟩ := bcell hb2)
    go_ret
    exact ret_i HX.out rfl (HB.out.trans (hb2.mono (by simp)))
  | true =>
    obtain ⟨hr, hn, _, _⟩ := numB_facts h1
    rw [HL.out] at hn
    rw [h1] at HNu
    cases h2 : nds.all (speltB next) with
    | false =>
      have HX : Hid (checkV next nds = 29) := Lib.hid (check_no (by rw [HC.out, h2]; simp))
      rw [h2] at HSp
      clear h1 h2 h hr
      go_enter Tryz.func12, Tryz.ntmps12
      go_wp2_with (first | (go_at_call 36; refine HNu.out.mono ?_; rintro e w2 ⟨rfl, hb2⟩; obtain ⟨q1, q2⟩ := bcell hb2; have HB2 := Lib.hid hb2; have hz2 : w.heap.size < w2.heap.size := Nat.lt_of_lt_of_le (by simp) hb2.size; clear hb2) | (go_at_call 37; go_must (refine (HSp.out w2 HB2.out).mono ?_; rintro e w3 ⟨rfl, hb3⟩; have HB3 := Lib.hid hb3; clear hb3)))
      go_ret
      exact ret_i HX.out rfl (HB.out.trans ((HB2.out.mono (by simp)).trans (HB3.out.mono (by omega))))
    | true =>
      rw [h2] at HSp
      have hJo := HJo.out hr hn
      cases h3 : joinS nds with
      | none =>
        have HX : Hid (checkV next nds = 29) := Lib.hid (check_no (by rw [HC.out, h3]; simp))
        rw [h3] at hJo
        have HJ := Lib.hid hJo
        clear h1 h2 h3 h hr hJo HJo
        go_enter Tryz.func12, Tryz.ntmps12
        go_wp2_with (first | (go_at_call 36; refine HNu.out.mono ?_; rintro e w2 ⟨rfl, hb2⟩; obtain ⟨q1, q2⟩ := bcell hb2; have HB2 := Lib.hid hb2; have hz2 : w.heap.size < w2.heap.size := Nat.lt_of_lt_of_le (by simp) hb2.size; clear hb2) | (go_at_call 37; go_must (refine (HSp.out w2 HB2.out).mono ?_; rintro e w3 ⟨rfl, hb3⟩; obtain ⟨r1, r2⟩ := bcell hb3; have HB3 := Lib.hid (HB2.out.trans (hb3.mono (by simp; omega))); have hz3 := hb3.size; clear hb3)) | (go_at_call 38; refine (HJ.out w3 HB3.out).mono ?_; rintro e w4 ⟨hb4, rfl⟩; have HB4 := Lib.hid hb4; clear hb4))
        go_ret
        exact ret_i HX.out rfl (HB.out.trans ((HB3.out.mono (by simp)).trans (HB4.out.mono (by omega))))
      | some a =>
        rw [h3] at hJo
        have HJ := Lib.hid hJo
        have J := join_of hr h3
        have hav : ∀ j, j < n → -1 ≤ a.getD j (-1) ∧ a.getD j (-1) < n := by
          intro j hj
          have hjl : j < a.length := by rw [J.len, HL.out]; exact hj
          have e : a.getD j (-1) = a.getD j 0 := by rw [List.getD_eq_getElem?_getD, List.getD_eq_getElem?_getD, List.getElem?_eq_getElem hjl]; rfl
          rw [e]
          by_cases hx : a.getD j 0 = -1
          · omega
          · obtain ⟨i, p, h1, _, h2, _⟩ := J.from_ j (nds[j]'(by rw [HL.out]; exact hj)) (List.getElem?_eq_getElem _) hx
            have := (List.getElem?_eq_some_iff.1 h1).1
            rw [HL.out] at this
            omega
        have HAV := Lib.hid hav
        have HR : Hid (∀ (w4 : World) (g : Nat), IBlk w4 g a → a.length = n → Calls Tryz.prog 39 #[.slice (some ⟨g, 0, none⟩) n n] w4 (Ret w4 (.bool (rootedB a)))) := Lib.hid (fun w4 g hg hl => rooted_any w4 w4.heap.size (some ⟨g, 0, none⟩) n n a (hg.row hl (Nat.le_refl _) (by unfold maxLen; omega) (Nat.zero_le _) hg.lt) (Nat.le_refl _) hn hl HAV.out)
        obtain ⟨x, hx⟩ : ∃ x, rootedB a = x := ⟨_, rfl⟩
        rw [hx] at HR
        have HX : Hid (checkV next nds = if x then 0 else 29) := Lib.hid (by
          cases x with
          | false => exact check_no (by rw [HC.out, h3]; simp [hx])
          | true => exact check_yes (by rw [HC.out, h1, h2, h3]; simp [hx]))
        clear h1 h2 h3 h hr hJo HJo hav J hx
        cases x
        all_goals
          go_enter Tryz.func12, Tryz.ntmps12
          go_wp2_with (first | (go_at_call 36; refine HNu.out.mono ?_; rintro e w2 ⟨rfl, hb2⟩; obtain ⟨q1, q2⟩ := bcell hb2; have HB2 := Lib.hid hb2; have hz2 : w.heap.size < w2.heap.size := Nat.lt_of_lt_of_le (by simp) hb2.size; clear hb2) | (go_at_call 37; go_must (refine (HSp.out w2 HB2.out).mono ?_; rintro e w3 ⟨rfl, hb3⟩; obtain ⟨r1, r2⟩ := bcell hb3; have HB3 := Lib.hid (HB2.out.trans (hb3.mono (by simp; omega))); have hz3 := hb3.size; clear hb3)) | (go_at_call 38; refine (HJ.out w3 HB3.out).mono ?_; rintro e w4 ⟨hb4, g, rfl, hg, hl, _⟩; have HB4 := Lib.hid hb4; have HG := Lib.hid hg; have HLL := Lib.hid hl; have hz4 := hb4.size; clear hb4 hg hl) | (go_at_call 39; refine (HR.out w4 g HG.out HLL.out).mono ?_; rintro e w5 ⟨rfl, hb5⟩; have HB5 := Lib.hid hb5; clear hb5))
          go_ret
          exact ret_i HX.out rfl (HB.out.trans ((HB3.out.mono (by simp)).trans ((HB4.out.mono (by omega)).trans (HB5.out.mono (by omega)))))
end Go.Proofs.YtbkmdlfenbfdlaaGreat
namespace Go.Proofs.YtbkmdlfenbfdlaaGreat
open Go Go.RowKit Go.Sort
set_option linter.unusedVariables false
def idxV (l : List Int) (x : Int) : Int := match l.findIdx? (· == x) with | some i => (i : Int) | none => -1
theorem idxV_at {l : List Int} {x : Int} {k : Nat} (h1 : ∀ (i : Nat) y, i < k → l[i]? = some y → y ≠ x) (h2 : l[k]? = some x) : idxV l x = k := by
  unfold idxV
  have : l.findIdx? (· == x) = some k := by
    rw [List.findIdx?_eq_some_iff_getElem]
    obtain ⟨hl, e⟩ := List.getElem?_eq_some_iff.1 h2
    refine ⟨hl, by simp [e], fun j hj => ?_⟩
    have := h1 j _ hj (List.getElem?_eq_getElem (by omega))
    simpa using this
  rw [this]
theorem idxV_no {l : List Int} {x : Int} (h1 : ∀ (i : Nat) y, l[i]? = some y → y ≠ x) : idxV l x = -1 := by
  unfold idxV
  have : l.findIdx? (· == x) = none := by
    rw [List.findIdx?_eq_none_iff]
    intro y hy
    obtain ⟨i, hi⟩ := List.getElem?_of_mem hy
    simpa using h1 i y hi
  rw [this]
theorem idxV_ge (l : List Int) (x : Int) : decide (0 ≤ idxV l x) = l.contains x := by
  unfold idxV
  cases h : l.findIdx? (· == x) with
  | some i =>
    obtain ⟨hl, hp, _⟩ := List.findIdx?_eq_some_iff_getElem.1 h
    have : x ∈ l := by have := List.getElem_mem hl; rw [show l[i] = x from by simpa using hp] at this; exact this
    simp [this]
  | none =>
    have := List.findIdx?_eq_none_iff.1 h
    have : x ∉ l := fun hm => by have := this x hm; simp at this
    simp [this]
/-- a block of yes and no -/
def BBlk (w : World) (g : Nat) (a : List Bool) : Prop := Blk w g 4 (a.map Value.bool).toArray
section
variable {w w' : World} {g : Nat} {a : List Bool}
theorem BBlk.cell (h : BBlk w g a) {i : Nat} (hi : i < a.length) : w.cell? ⟨g, i, none⟩ = some (.bool (a.getD i false)) := by
  rw [Blk.cell h]
  simp [hi]
theorem BBlk.set_ (h : BBlk w g a) (i : Nat) (x : Bool) : BBlk (w.setCell ⟨g, i, none⟩ (.bool x)) g (a.set i x) := by
  have := Blk.set_ h i (.bool x)
  unfold BBlk
  have e : ((a.set i x).map Value.bool).toArray = (a.map Value.bool).toArray.setIfInBounds i (.bool x) := by simp [List.map_set]
  rw [e]; exact this
end
def noB (n : Nat) : Array Value := ((List.replicate n false).map Value.bool).toArray
theorem BBlk.start (w : World) (n : Nat) : BBlk (w.alloc (.cells (noB n) 4)) w.heap.size (List.replicate n false) := Blk.new _ _ _
/-- the kids that were met so far are marked -/
def MetOk (nds : List Nd) (n : Nat) (seen : List Int) (mt : List Bool) : Prop := mt.length = n ∧ ∀ k j, ixOf nds k = some j → mt.getD j false = seen.contains k
theorem MetOk.start (nds : List Nd) (n : Nat) : MetOk nds n [] (List.replicate n false) := ⟨by simp, fun k j h => by
  rw [List.getD_eq_getElem?_getD, List.getElem?_replicate]; split <;> simp⟩
theorem MetOk.step {nds : List Nd} {n : Nat} {seen : List Int} {mt : List Bool} (h : MetOk nds n seen mt) {k : Int} {j : Nat} (hj : ixOf nds k = some j) (hn : j < n) : MetOk nds n (k :: seen) (mt.set j true) := by
  refine ⟨by rw [List.length_set]; exact h.1, fun k' j' hj' => ?_⟩
  rw [List.getD_eq_getElem?_getD, List.getElem?_set]
  by_cases e : j = j'
  · subst e
    obtain rfl := ixOf_inj hj hj'
    simp [h.1, hn]
  · rw [if_neg e, ← List.getD_eq_getElem?_getD, h.2 k' j' hj']
    have : k' ≠ k := by rintro rfl; rw [hj] at hj'; injection hj' with hj'; exact e hj'
    simp [this]
/-- the boxes of the document's plain, below: the model, the node -/
structure PW (w : World) (next : Int) (A : Option Addr) (n c : Nat) (nd : Nd) (L : Leaf) (wr : World) : Prop where
  md : Blk wr w.heap.size 26 #[.int .i64 next, .slice A n c]
  nb : Blk wr (w.heap.size + 1) 41 #[.int .i64 nd.id, .string nd.con, .int .i64 nd.par, .string nd.role, .slice L.p.A L.p.n L.p.c, .slice L.k.A L.k.n L.k.c, .slice L.r.A L.r.n L.r.c]
  bel : Below w.heap.size w wr
section
variable {w wr w' : World} {next : Int} {A : Option Addr} {n c : Nat} {nd : Nd} {L : Leaf}
theorem PW.start (w : World) (next : Int) (A : Option Addr) (n c : Nat) (nd : Nd) (L : Leaf) : PW w next A n c nd L ((w.alloc (.cells #[.int .i64 next, .slice A n c] 26)).alloc (.cells #[.int .i64 nd.id, .string nd.con, .int .i64 nd.par, .string nd.role, .slice L.p.A L.p.n L.p.c, .slice L.k.A L.k.n L.k.c, .slice L.r.A L.r.n L.r.c] 41)) :=
  ⟨(Blk.new _ _ _).alloc _, Blk.new' (by simp), (below_box _ _).alloc (by simp) _⟩
theorem PW.after (h : PW w next A n c nd L wr) (hb : Below wr.heap.size wr w') : PW w next A n c nd L w' := ⟨h.md.after hb, h.nb.after hb, h.bel.trans (hb.mono h.bel.size)⟩
theorem PW.drewN (h : PW w next A n c nd L wr) (q : Nat) : PW w next A n c nd L (wr.drewN q) := ⟨h.md, h.nb, below_drewN h.bel q⟩
theorem PW.size (h : PW w next A n c nd L wr) : w.heap.size + 1 < wr.heap.size := h.nb.lt
end
end Go.Proofs.YtbkmdlfenbfdlaaGreat
namespace Go.Proofs.YtbkmdlfenbfdlaaGreat
open Go Go.RowKit
set_option linter.unusedVariables false
/-- what a right model is -/
structure RightM (next : Int) (nds : List Nd) : Prop where
  rise : Rise nds
  lo : 1 ≤ next
  hi : next ≤ 1048577
  len : nds.length ≤ 4096
  lt : ∀ (i : Nat) nd, nds[i]? = some nd → nd.id < next
  plain : ∀ nd ∈ nds, plainB next nds nd = true
  below : ∀ nd ∈ nds, belowB nds 64 nd = true
theorem rightM {next : Int} {nds : List Nd} (h : rightB next nds = true) : RightM next nds := by
  unfold rightB numB headB at h
  simp only [Bool.and_eq_true, decide_eq_true_eq, List.all_eq_true] at h
  obtain ⟨⟨⟨⟨h1, h2⟩, h3⟩, h4⟩, h5⟩ := h
  exact ⟨Rise.of h4, h1, h2, h3, fun i nd hi => ((idsB_rise (by omega) h4).1 i nd hi).2, fun nd hnd => (h5 nd hnd).1, fun nd hnd => (h5 nd hnd).2⟩
theorem RightM.kids {next : Int} {nds : List Nd} (h : RightM next nds) {nd : Nd} (hnd : nd ∈ nds) : (∀ k ∈ nd.kids, ∃ x, ndOf nds k = some x ∧ x.par = nd.id) ∧ nd.kids.Nodup := by
  have h1 := h.plain nd hnd
  unfold plainB at h1
  simp only [Bool.and_eq_true] at h1
  have h2 := kidsB_spec.1 h1.2
  exact ⟨fun k hk => (h2.1 k hk).1, h2.2⟩
/-- the kids of a node are nodes of the list, and not too many -/
structure KOk (nds : List Nd) (nd : Nd) : Prop where
  rise : Rise nds
  len : nds.length ≤ 4096
  kl : nd.kids.length ≤ 4096
  kids : ∀ k ∈ nd.kids, ∃ x, ndOf nds k = some x
theorem RightM.kOk {next : Int} {nds : List Nd} (h : RightM next nds) {nd : Nd} (hnd : nd ∈ nds) : KOk nds nd := by
  refine ⟨h.rise, h.len, ?_, fun k hk => ?_⟩
  · have h1 := h.plain nd hnd
    unfold plainB at h1
    simp only [Bool.and_eq_true, decide_eq_true_eq] at h1
    have := h.len
    omega
  · obtain ⟨x, hx, _⟩ := (h.kids hnd).1 k hk
    exact ⟨x, hx⟩
/-- the k-th one up from a node -/
def upI (nds : List Nd) (id : Int) : Nat → Int
  | 0 => id
  | k + 1 => match ndOf nds (upI nds id k) with
    | some nd => nd.par
    | none => 0
/-- so many nodes stand on the way from a node up -/
structure DepthIs (nds : List Nd) (id : Int) (K : Nat) : Prop where
  top : upI nds id K = 0
  way : ∀ k, k < K → upI nds id k ≠ 0 ∧ ∃ nd, ndOf nds (upI nds id k) = some nd
theorem upI_succ {nds : List Nd} {id : Int} {k : Nat} {nd : Nd} (h : ndOf nds (upI nds id k) = some nd) : upI nds id (k + 1) = nd.par := by
  rw [upI, h]
theorem upI_shift {nds : List Nd} {id : Int} {nd : Nd} (h : ndOf nds id = some nd) : ∀ k, upI nds id (k + 1) = upI nds nd.par k
  | 0 => by rw [upI, upI, upI, h]
  | k + 1 => by rw [upI, upI_shift h k, upI]
theorem depth_zero (nds : List Nd) : DepthIs nds 0 0 := ⟨rfl, fun k hk => absurd hk (Nat.not_lt_zero _)⟩
theorem DepthIs.succ {nds : List Nd} {id : Int} {nd : Nd} {K : Nat} (h : DepthIs nds nd.par K) (hnd : ndOf nds id = some nd) (h0 : id ≠ 0) : DepthIs nds id (K + 1) := by
  refine ⟨by rw [upI_shift hnd]; exact h.top, fun k hk => ?_⟩
  cases k with
  | zero => exact ⟨h0, nd, hnd⟩
  | succ k => rw [upI_shift hnd]; exact h.way k (by omega)
theorem DepthIs.eq {nds : List Nd} {id : Int} {K K' : Nat} (h : DepthIs nds id K) (h' : DepthIs nds id K') : K = K' := by
  rcases Nat.lt_trichotomy K K' with k | k | k
  · exact absurd h.top (h'.way K k).1
  · exact k
  · exact absurd h'.top (h.way K' k).1
theorem depth_of {next : Int} {nds : List Nd} (hr : RightM next nds) : ∀ (f : Nat) (nd : Nd), nd ∈ nds → belowB nds f nd = true → ∃ K, 1 ≤ K ∧ K ≤ f ∧ DepthIs nds nd.id K
  | 0, nd, _, h => by simp [belowB] at h
  | f + 1, nd, hm, h => by
    obtain ⟨i, hi⟩ := List.getElem?_of_mem hm
    have hnd := ndOf_is hr.rise hi
    have h0 : nd.id ≠ 0 := by have := hr.rise.pos i nd hi; omega
    rw [belowB] at h
    split at h
    · rename_i hp
      exact ⟨1, by omega, by omega, (show DepthIs nds nd.par 0 from by rw [hp]; exact depth_zero nds).succ hnd h0⟩
    · split at h
      · cases h
      · rename_i p hp
        simp only [Bool.and_eq_true] at h
        obtain ⟨j, _, hj, he⟩ := ndOf_some hp
        obtain ⟨K, h1, h2, h3⟩ := depth_of hr f p (List.mem_of_getElem? hj) h.2
        rw [he] at h3
        exact ⟨K + 1, by omega, by omega, h3.succ hnd h0⟩
/-- how deep a node stands; 0: there is none -/
def depthV (nds : List Nd) (id : Int) : Nat := ((List.range 65).find? (fun k => upI nds id k == 0)).getD 0
theorem DepthIs.val {nds : List Nd} {id : Int} {K : Nat} (h : DepthIs nds id K) (hK : K ≤ 64) : depthV nds id = K := by
  unfold depthV
  have : (List.range 65).find? (fun k => upI nds id k == 0) = some K := by
    rw [List.find?_range_eq_some]
    refine ⟨by simpa using h.top, by simp; omega, fun j hj => ?_⟩
    simpa using (h.way j hj).1
  rw [this]; rfl
theorem RightM.depth {next : Int} {nds : List Nd} (hr : RightM next nds) {id : Int} {nd : Nd} (h : ndOf nds id = some nd) : DepthIs nds id (depthV nds id) ∧ 1 ≤ depthV nds id ∧ depthV nds id ≤ 64 := by
  obtain ⟨i, _, hi, he⟩ := ndOf_some h
  have hm := List.mem_of_getElem? hi
  obtain ⟨K, h1, h2, h3⟩ := depth_of hr 64 nd hm (hr.below nd hm)
  rw [he] at h3
  rw [h3.val h2]
  exact ⟨h3, h1, h2⟩
theorem depth_root {nds : List Nd} : DepthIs nds 0 (depthV nds 0) ∧ depthV nds 0 = 0 := by
  rw [(depth_zero nds).val (by omega)]; exact ⟨depth_zero nds, rfl⟩
/-- the program's search for a place among kids: the index, and whether there is that place -/
def amongF (f : Int → Bool) (at_ : Int) : Nat → Nat → Nat → List Int → Int × Bool
  | _, behind, places, [] => ((behind : Int), (places : Int) == at_)
  | i, behind, places, k :: r => if f k then (if (places : Int) = at_ then ((i : Int), true) else amongF f at_ (i + 1) (i + 1) (places + 1) r) else amongF f at_ (i + 1) behind places r
/-- the document's: the number of the one ahead of which the place is; -1: there is none -/
def beforeV (f : Int → Bool) (at_ : Int) (all : List Int) : Int :=
  if at_ < 0 ∨ ((all.filter f).length : Int) < at_ then -1
  else match (all.filter f)[at_.toNat]? with
    | some k => idxV all k
    | none => match (all.filter f).getLast? with
      | some k => idxV all k + 1
      | none => all.length
theorem idx_nodup {pre r : List Int} {k : Int} (h : (pre ++ k :: r).Nodup) : idxV (pre ++ k :: r) k = pre.length := by
  refine idxV_at (fun i y hi hy => ?_) (by simp)
  rw [List.getElem?_append_left hi] at hy
  have hm := List.mem_of_getElem? hy
  rw [List.nodup_append] at h
  exact h.2.2 y hm k (by simp)
/-- 'behind' as the search has it -/
def behindV (f : Int → Bool) (all pre : List Int) : Int := match (pre.filter f).getLast? with
  | some k => idxV all k + 1
  | none => all.length
theorem among_spec {f : Int → Bool} {at_ : Int} {all : List Int} (hn : all.Nodup) : ∀ (r pre : List Int) (behind : Nat), all = pre ++ r → (behind : Int) = behindV f all pre → (at_ < 0 ∨ ((pre.filter f).length : Int) ≤ at_) →
    (amongF f at_ pre.length behind (pre.filter f).length r).2 = decide (beforeV f at_ all ≠ -1) ∧
    ((amongF f at_ pre.length behind (pre.filter f).length r).2 = true → (amongF f at_ pre.length behind (pre.filter f).length r).1 = beforeV f at_ all)
  | [], pre, behind, he, hb, ha => by
    rw [List.append_nil] at he
    subst he
    simp only [amongF]
    unfold behindV at hb
    by_cases h1 : at_ < 0
    · have hv : beforeV f at_ all = -1 := by unfold beforeV; rw [if_pos (.inl h1)]
      have h2 : ((all.filter f).length : Int) ≠ at_ := by omega
      have h3 : (((all.filter f).length : Int) == at_) = false := by rw [beq_eq_false_iff_ne]; exact h2
      rw [hv, h3]; simp
    · by_cases h2 : ((all.filter f).length : Int) < at_
      · have hv : beforeV f at_ all = -1 := by unfold beforeV; rw [if_pos (.inr h2)]
        have h3 : (((all.filter f).length : Int) == at_) = false := by rw [beq_eq_false_iff_ne]; omega
        rw [hv, h3]; simp
      · have e : at_ = ((all.filter f).length : Int) := by omega
        have e2 : (all.filter f)[at_.toNat]? = none := by rw [List.getElem?_eq_none]; omega
        have hv : beforeV f at_ all = behind := by unfold beforeV; rw [if_neg (by omega), e2]; exact hb.symm
        have h3 : (((all.filter f).length : Int) == at_) = true := by rw [beq_iff_eq]; exact e.symm
        have h4 : (behind : Int) ≠ -1 := by omega
        rw [hv, h3]; simp [h4]
  | k :: r, pre, behind, he, hb, ha => by
    have hsplit : pre ++ k :: r = (pre ++ [k]) ++ r := by simp
    rw [amongF]
    by_cases hk : f k = true
    · rw [if_pos hk]
      by_cases hp : ((pre.filter f).length : Int) = at_
      · rw [if_pos hp]
        have hl : all.filter f = pre.filter f ++ k :: r.filter f := by rw [he, List.filter_append, List.filter_cons_of_pos hk]
        have hv : beforeV f at_ all = pre.length := by
          unfold beforeV
          rw [if_neg (by rw [hl, List.length_append, List.length_cons]; omega), hl, ← hp, Int.toNat_natCast, List.getElem?_append_right (Nat.le_refl _), Nat.sub_self]
          simp only [List.getElem?_cons_zero]
          rw [he]
          exact idx_nodup (he ▸ hn)
        rw [hv]
        have : ((pre.length : Nat) : Int) ≠ -1 := by omega
        simp [this]
      · rw [if_neg hp]
        have hf : (pre ++ [k]).filter f = pre.filter f ++ [k] := by rw [List.filter_append, List.filter_cons_of_pos hk, List.filter_nil]
        have := among_spec (f := f) (at_ := at_) hn r (pre ++ [k]) (pre.length + 1) (by rw [he, hsplit]) (by
          unfold behindV
          rw [hf, List.getLast?_append]
          simp only [List.getLast?_singleton, Option.some_or]
          rw [he, idx_nodup (he ▸ hn)]; omega) (by rw [hf, List.length_append, List.length_singleton]; omega)
        rw [hf, List.length_append, List.length_append, List.length_singleton] at this
        exact this
    · have hk' : f k = false := by simpa using hk
      rw [hk']
      simp only [Bool.false_eq_true, if_false]
      have hf : (pre ++ [k]).filter f = pre.filter f := by rw [List.filter_append, List.filter_cons_of_neg (by simp [hk']), List.filter_nil, List.append_nil]
      have := among_spec (f := f) (at_ := at_) hn r (pre ++ [k]) behind (by rw [he, hsplit]) (by rw [hb]; unfold behindV; rw [hf]) (by rw [hf]; exact ha)
      rw [hf, List.length_append, List.length_singleton] at this
      exact this
theorem among_before {f : Int → Bool} {at_ : Int} {all : List Int} (hn : all.Nodup) : (amongF f at_ 0 all.length 0 all).2 = decide (beforeV f at_ all ≠ -1) ∧ ((amongF f at_ 0 all.length 0 all).2 = true → (amongF f at_ 0 all.length 0 all).1 = beforeV f at_ all) :=
  among_spec (f := f) (at_ := at_) hn all [] all.length rfl rfl (by simp; omega)
end Go.Proofs.YtbkmdlfenbfdlaaGreat
namespace Go.Proofs.YtbkmdlfenbfdlaaGreat
open Go Go.RowKit
set_option linter.unusedVariables false
def kidsV (nds : List Nd) (x : Int) : List Int := match ndOf nds x with
  | some nd => nd.kids
  | none => []
theorem kidsV_of {nds : List Nd} {x : Int} {nd : Nd} (h : ndOf nds x = some nd) : kidsV nds x = nd.kids := by unfold kidsV; rw [h]
/-- nodes with all that is below them, in document order, each with how deep it stands -/
def pre (nds : List Nd) : Nat → Nat → List Int → List (Int × Nat)
  | 0, _, _ => []
  | f + 1, d, ids => ids.flatMap fun x => (x, d) :: pre nds f (d + 1) (kidsV nds x)
theorem pre_nil (nds : List Nd) (f d : Nat) : pre nds f d [] = [] := by cases f <;> simp [pre]
theorem pre_cons (nds : List Nd) (f d : Nat) (x : Int) (r : List Int) : pre nds (f + 1) d (x :: r) = ((x, d) :: pre nds f (d + 1) (kidsV nds x)) ++ pre nds (f + 1) d r := by
  simp only [pre, List.flatMap_cons]
theorem pre_append (nds : List Nd) (f d : Nat) (a b : List Int) : pre nds f d (a ++ b) = pre nds f d a ++ pre nds f d b := by
  cases f <;> simp [pre]
/-- so many levels are enough -/
def OkF (nds : List Nd) : Nat → List Int → Prop
  | 0, ids => ids = []
  | f + 1, ids => ∀ x ∈ ids, (∃ nd, ndOf nds x = some nd) ∧ OkF nds f (kidsV nds x)
/-- all of them are nodes that stand so deep -/
def AtD (nds : List Nd) (D : Nat) (ids : List Int) : Prop := ∀ x ∈ ids, (∃ nd, ndOf nds x = some nd) ∧ depthV nds x = D
section
variable {next : Int} {nds : List Nd}
theorem kid_depth (hr : RightM next nds) {x k : Int} {nd : Nd} (hx : ndOf nds x = some nd) (hk : k ∈ nd.kids) : ∃ y, ndOf nds k = some y ∧ y.par = x ∧ depthV nds k = depthV nds x + 1 := by
  obtain ⟨i, _, hi, he⟩ := ndOf_some hx
  obtain ⟨y, hy, hp⟩ := (hr.kids (List.mem_of_getElem? hi)).1 k hk
  rw [he] at hp
  obtain ⟨j, _, hj, hje⟩ := ndOf_some hy
  have h0 : k ≠ 0 := by have := hr.rise.pos j y hj; omega
  have h1 := (show DepthIs nds y.par (depthV nds x) from by rw [hp]; exact (hr.depth hx).1).succ hy h0
  exact ⟨y, hy, hp, (hr.depth hy).1.eq h1⟩
theorem AtD.kids (hr : RightM next nds) {D : Nat} {x : Int} (h : (∃ nd, ndOf nds x = some nd) ∧ depthV nds x = D) : AtD nds (D + 1) (kidsV nds x) := by
  obtain ⟨⟨nd, hx⟩, hd⟩ := h
  rw [kidsV_of hx]
  intro k hk
  obtain ⟨y, h1, _, h2⟩ := kid_depth hr hx hk
  exact ⟨⟨y, h1⟩, by omega⟩
theorem AtD.le (hr : RightM next nds) {D : Nat} {ids : List Int} (h : AtD nds D ids) (h0 : 65 ≤ D) : ids = [] := by
  cases ids with
  | nil => rfl
  | cons x r =>
    obtain ⟨⟨nd, hx⟩, hd⟩ := h x (by simp)
    have := (hr.depth hx).2.2
    omega
theorem ok_of (hr : RightM next nds) : ∀ (f D : Nat) (ids : List Int), f + D = 65 → AtD nds D ids → OkF nds f ids
  | 0, D, ids, he, h => h.le hr (by omega)
  | f + 1, D, ids, he, h => fun x hx => ⟨(h x hx).1, ok_of hr f (D + 1) _ (by omega) (AtD.kids hr (h x hx))⟩
theorem pre_mem (hr : RightM next nds) : ∀ (f d D : Nat) (ids : List Int), AtD nds D ids → ∀ p ∈ pre nds f d ids, (∃ nd, ndOf nds p.1 = some nd) ∧ d ≤ p.2 ∧ depthV nds p.1 + d = D + p.2 ∧ upI nds p.1 (p.2 - d) ∈ ids
  | 0, d, D, ids, h, p, hp => by simp [pre] at hp
  | f + 1, d, D, ids, h, p, hp => by
    simp only [pre, List.mem_flatMap, List.mem_cons] at hp
    obtain ⟨x, hx, rfl | hp⟩ := hp
    · exact ⟨(h x hx).1, Nat.le_refl _, by have := (h x hx).2; simp only; omega, by rw [show (x, d).2 - d = 0 from by simp, upI]; exact hx⟩
    · obtain ⟨h1, h2, h3, h4⟩ := pre_mem hr f (d + 1) (D + 1) _ (AtD.kids hr (h x hx)) p hp
      refine ⟨h1, by omega, by omega, ?_⟩
      obtain ⟨nd, hnd⟩ := (h x hx).1
      rw [kidsV_of hnd] at h4
      obtain ⟨y, hy, hyp, _⟩ := kid_depth hr hnd h4
      rw [show p.2 - d = (p.2 - (d + 1)) + 1 from by omega, upI_succ hy, hyp]
      exact hx
theorem pre_nodup (hr : RightM next nds) : ∀ (f d D : Nat) (ids : List Int), ids.Nodup → AtD nds D ids → ((pre nds f d ids).map (·.1)).Nodup
  | 0, d, D, ids, _, _ => by simp [pre]
  | f + 1, d, D, [], _, _ => by rw [pre_nil]; simp
  | f + 1, d, D, x :: r, hn, h => by
    have hx := h x (by simp)
    have hrD : AtD nds D r := fun y hy => h y (by simp [hy])
    rw [pre_cons, List.map_append, List.nodup_append]
    refine ⟨?_, pre_nodup hr (f + 1) d D r (List.nodup_cons.1 hn).2 hrD, ?_⟩
    · rw [List.map_cons, List.nodup_cons]
      refine ⟨?_, ?_⟩
      · intro hm
        obtain ⟨p, hp, he⟩ := List.mem_map.1 hm
        obtain ⟨_, h2, h3, _⟩ := pre_mem hr f (d + 1) (D + 1) _ (AtD.kids hr hx) p hp
        have h4 := hx.2
        rw [he] at h3
        simp only at h3
        omega
      · obtain ⟨nd, hnd⟩ := hx.1
        refine pre_nodup hr f (d + 1) (D + 1) _ ?_ (AtD.kids hr hx)
        rw [kidsV_of hnd]
        obtain ⟨i, _, hi, _⟩ := ndOf_some hnd
        exact (hr.kids (List.mem_of_getElem? hi)).2
    · intro a ha b hb hab
      obtain ⟨p, hp, rfl⟩ := List.mem_map.1 ha
      obtain ⟨q, hq, rfl⟩ := List.mem_map.1 hb
      have hp' : p ∈ pre nds (f + 1) d [x] := by rw [pre_cons, pre_nil, List.append_nil]; exact hp
      obtain ⟨_, p2, p3, p4⟩ := pre_mem hr (f + 1) d D [x] (fun y hy => by rw [List.mem_singleton.1 hy]; exact hx) p hp'
      obtain ⟨_, q2, q3, q4⟩ := pre_mem hr (f + 1) d D r hrD q hq
      rw [← hab] at q3 q4
      have e : q.2 = p.2 := by omega
      rw [e, List.mem_singleton.1 p4] at q4
      exact (List.nodup_cons.1 hn).1 q4
termination_by f _ _ ids => (f, ids.length)
theorem pre_len (hr : RightM next nds) {f d D : Nat} {ids : List Int} (hn : ids.Nodup) (h : AtD nds D ids) : (pre nds f d ids).length ≤ nds.length := by
  have h1 := nodup_le (m := nds.map (·.id)) (pre_nodup hr f d D ids hn h) (fun x hx => by
    obtain ⟨p, hp, rfl⟩ := List.mem_map.1 hx
    obtain ⟨nd, hnd⟩ := (pre_mem hr f d D ids h p hp).1
    obtain ⟨i, _, hi, he⟩ := ndOf_some hnd
    exact List.mem_map.2 ⟨nd, List.mem_of_getElem? hi, he⟩)
  rwa [List.length_map, List.length_map] at h1
/-- the same without how deep they stand -/
def pl (nds : List Nd) : Nat → List Int → List Int
  | 0, _ => []
  | f + 1, ids => ids.flatMap fun x => x :: pl nds f (kidsV nds x)
theorem pre_pl : ∀ (f d : Nat) (ids : List Int), (pre nds f d ids).map (·.1) = pl nds f ids
  | 0, d, ids => rfl
  | f + 1, d, ids => by
    simp only [pre, pl, List.map_flatMap, List.map_cons]
    congr 1
    funext x
    rw [pre_pl f]
/-- a node and all below it, in document order -/
def preI (nds : List Nd) (x : Int) : List Int := pl nds (65 - depthV nds x) [x]
theorem depthV_le (nds : List Nd) (x : Int) : depthV nds x ≤ 64 := by
  unfold depthV
  cases h : (List.range 65).find? (fun k => upI nds x k == 0) with
  | none => simp
  | some k =>
    have := List.mem_of_find?_eq_some h
    simp at this ⊢
    omega
theorem preI_cons (nds : List Nd) (x : Int) : ∃ r, preI nds x = x :: r := by
  unfold preI
  have := depthV_le nds x
  rw [show 65 - depthV nds x = (64 - depthV nds x) + 1 from by omega]
  exact ⟨pl nds (64 - depthV nds x) (kidsV nds x), by simp [pl]⟩
theorem pl_flat (hr : RightM next nds) : ∀ (f D : Nat) (ids : List Int), f + D = 65 → AtD nds D ids → pl nds f ids = ids.flatMap (preI nds)
  | 0, D, ids, he, h => by rw [h.le hr (by omega)]; rfl
  | f + 1, D, ids, he, h => by
    rw [pl]
    have : ∀ x ∈ ids, (x :: pl nds f (kidsV nds x)) = preI nds x := fun x hx => by
      unfold preI
      rw [(h x hx).2, show 65 - D = f + 1 from by omega]
      simp [pl]
    clear he h
    induction ids with
    | nil => rfl
    | cons y r ih =>
      rw [List.flatMap_cons, List.flatMap_cons, this y (by simp), ih fun x hx => this x (by simp [hx])]
theorem preI_eq (hr : RightM next nds) {x : Int} {nd : Nd} (hx : ndOf nds x = some nd) : preI nds x = x :: nd.kids.flatMap (preI nds) := by
  have hd := hr.depth hx
  have hk := AtD.kids hr (x := x) ⟨⟨nd, hx⟩, rfl⟩
  rw [kidsV_of hx] at hk
  rw [← pl_flat hr (64 - depthV nds x) _ nd.kids (by omega) hk]
  unfold preI
  rw [show 65 - depthV nds x = (64 - depthV nds x) + 1 from by omega]
  simp [pl, kidsV_of hx]
theorem preI_pre (hr : RightM next nds) {x : Int} {nd : Nd} (hx : ndOf nds x = some nd) : AtD nds (depthV nds x) [x] := fun y hy => by
  rw [List.mem_singleton.1 hy]; exact ⟨⟨nd, hx⟩, rfl⟩
theorem preI_nodup (hr : RightM next nds) {x : Int} {nd : Nd} (hx : ndOf nds x = some nd) : (preI nds x).Nodup := by
  unfold preI
  rw [← pre_pl _ 0]
  exact pre_nodup hr _ _ _ _ (by simp) (preI_pre hr hx)
theorem preI_mem (hr : RightM next nds) {x y : Int} {nd : Nd} (hx : ndOf nds x = some nd) (hy : y ∈ preI nds x) : ∃ nd', ndOf nds y = some nd' := by
  unfold preI at hy
  rw [← pre_pl _ 0] at hy
  obtain ⟨p, hp, rfl⟩ := List.mem_map.1 hy
  exact (pre_mem hr _ _ _ _ (preI_pre hr hx) p hp).1
theorem preI_len (hr : RightM next nds) {x : Int} {nd : Nd} (hx : ndOf nds x = some nd) : (preI nds x).length ≤ nds.length := by
  unfold preI
  rw [← pre_pl _ 0, List.length_map]
  exact pre_len hr (by simp) (preI_pre hr hx)
/-- the roots -/
def rootsV (nds : List Nd) : List Int := (nds.filter (fun nd => nd.par == 0)).map (·.id)
theorem roots_at (hr : RightM next nds) : AtD nds 1 (rootsV nds) := by
  intro x hx
  obtain ⟨nd, hnd, rfl⟩ := List.mem_map.1 hx
  obtain ⟨h1, h2⟩ := List.mem_filter.1 hnd
  obtain ⟨i, hi⟩ := List.getElem?_of_mem h1
  have hnd := ndOf_is hr.rise hi
  have h0 : nd.id ≠ 0 := by have := hr.rise.pos i nd hi; omega
  have h3 := (show DepthIs nds nd.par 0 from by rw [show nd.par = 0 from by simpa using h2]; exact depth_zero nds).succ hnd h0
  exact ⟨⟨nd, hnd⟩, (hr.depth hnd).1.eq h3⟩
theorem ids_nodup (hr : Rise nds) : (nds.map (·.id)).Nodup := by
  rw [List.nodup_iff_pairwise_ne, List.pairwise_iff_getElem]
  intro i j hi hj hij e
  rw [List.getElem_map, List.getElem_map] at e
  rw [List.length_map] at hi hj
  have := hr.inj (List.getElem?_eq_getElem hi) (List.getElem?_eq_getElem hj) e
  omega
theorem roots_nodup (hr : Rise nds) : (rootsV nds).Nodup := by
  unfold rootsV
  exact List.Sublist.nodup (List.Sublist.map _ List.filter_sublist) (ids_nodup hr)
/-- document order -/
def orderV (nds : List Nd) : List Int := (rootsV nds).flatMap (preI nds)
theorem order_pre (hr : RightM next nds) : (pre nds 64 1 (rootsV nds)).map (·.1) = orderV nds := by
  rw [pre_pl, pl_flat hr 64 1 _ (by omega) (roots_at hr)]
  rfl
theorem order_len (hr : RightM next nds) : (orderV nds).length ≤ nds.length := by
  rw [← order_pre hr, List.length_map]
  exact pre_len hr (roots_nodup hr.rise) (roots_at hr)
/-- what is below a node -/
def belowV (nds : List Nd) (x : Int) : List Int := (kidsV nds x).flatMap (preI nds)
theorem below_pre (hr : RightM next nds) {x : Int} {nd : Nd} (hx : ndOf nds x = some nd) : (pre nds (64 - depthV nds x) 1 nd.kids).map (·.1) = belowV nds x := by
  have hd := hr.depth hx
  have hk := AtD.kids hr (x := x) ⟨⟨nd, hx⟩, rfl⟩
  unfold belowV
  rw [kidsV_of hx] at hk ⊢
  rw [pre_pl, pl_flat hr _ _ _ (by omega) hk]
end
end Go.Proofs.YtbkmdlfenbfdlaaGreat
namespace Go.Proofs.YtbkmdlfenbfdlaaGreat
open Go Go.RowKit
set_option linter.unusedVariables false
/-- Q, but K where the region goes on -/
def tailQ (Q : Exit → Act → World → Prop) (K : Act → World → Prop) : Exit → Act → World → Prop
  | .normal, a, w => K a w
  | e, a, w => Q e a w
section
variable {P : Program} {Q : Exit → Act → World → Prop} {K : Act → World → Prop} {md : Region.Mode} {S : World → Prop}
theorem lets_tail (h : LetsOut (tailQ Q K)) : LetsOut Q := h
theorem oper_tail {o : Oper} {a : Act} {w : World} {next : Act → World → Prop} (h : Oper.wp P o a w next (tailQ Q K)) : Oper.wp P o a w next Q := by
  unfold Oper.wp at *
  generalize (execOp a.eval o).run P w = r at *
  cases r with
  | ok n w' =>
    cases n <;> simp only [Oper.upon] at h ⊢ <;>
      first
        | exact h
        | exact Calls.mono h (fun e w'' he => by cases e <;> exact he)
  | halt x w' => cases x <;> simp only [Oper.upon] at h ⊢ <;> exact h
/-- each operation ahead of number n is asked for whatever comes, and waits for earlier ones alone -/
def aheadB (md : Region.Mode) (ops : Array Oper) (n : Nat) : Bool :=
  (List.range n).all fun j => match ops[j]? with
    | some o => o.guard.isNone && o.after.all fun e => !Region.binds md e || decide (e.on < j)
    | none => false
theorem aheadB_spec {ops : Array Oper} {n : Nat} (h : aheadB md ops n = true) {j : Nat} (hj : j < n) : ∃ o, ops[j]? = some o ∧ o.guard = none ∧ ∀ e ∈ o.after, Region.binds md e = true → e.on < j := by
  have h1 := List.all_eq_true.1 h j (List.mem_range.2 hj)
  cases ho : ops[j]? with
  | none => simp [ho] at h1
  | some o =>
    rw [ho] at h1
    simp only [Bool.and_eq_true, Option.isNone_iff_eq_none] at h1
    refine ⟨o, rfl, h1.1, fun e he hb => ?_⟩
    have := Array.all_eq_true_iff_forall_mem.1 h1.2 e he
    rw [hb] at this
    simpa using this
theorem wpAny_more {ops : Array Oper} {listed : Array Bool} : ∀ (f : Nat) (listed : Array Bool) (a : Act) (w : World), wpAny P md ops Q f listed a w → wpAny P md ops Q (f + 1) listed a w
  | 0, _, _, _, h => ⟨fun _ => h.2, fun i hi => by rw [h.1] at hi; cases hi⟩
  | f + 1, _, _, _, h => ⟨h.1, fun i hi => wpOp_mono (fun a' w' h' => wpAny_more (listed := listed) f _ a' w' h') (h.2 i hi)⟩
theorem wpAny_more' {ops : Array Oper} {listed : Array Bool} {a : Act} {w : World} {g : Nat} (h : wpAny P md ops Q g listed a w) : ∀ f, wpAny P md ops Q (f + g) listed a w
  | 0 => by rw [Nat.zero_add]; exact h
  | f + 1 => by rw [show f + 1 + g = (f + g) + 1 from by omega]; exact wpAny_more (listed := listed) _ _ _ _ (wpAny_more' h f)
variable {hops : Array Oper} {ops : Array Oper} {n g : Nat}
theorem getD_app {L R : Array Bool} {j : Nat} {d : Bool} (hj : j < L.size) : (L ++ R).getD j d = L.getD j d := by
  simp [Array.getD_eq_getD_getElem?, Array.getElem?_append_left hj]
theorem ready_head (hs : hops.size = n) (hh : ∀ j, j < n → hops[j]? = ops[j]?) (hB : aheadB md ops n = true) {L R : Array Bool} (hL : L.size = n) {j : Nat} (hj : j < n) :
    j ∈ Region.ready md ops (L ++ R) ↔ j ∈ Region.ready md hops L := by
  rw [mem_ready, mem_ready, hh j hj, getD_app (by omega)]
  obtain ⟨o, ho, _, hd⟩ := aheadB_spec hB hj
  refine and_congr_right fun _ => ?_
  refine exists_congr fun o' => and_congr_right fun ho' => forall_congr' fun e => forall_congr' fun he => forall_congr' fun hb => ?_
  have : o' = o := Option.some.inj (ho'.symm.trans ho)
  subst this
  rw [getD_app (by have := hd e he hb; omega)]
theorem some_ready (hs : hops.size = n) (hh : ∀ j, j < n → hops[j]? = ops[j]?) (hB : aheadB md ops n = true) {L : Array Bool} (hL : L.size = n) : ∀ (j : Nat), j < n → L.getD j true = false → ∃ i, i < n ∧ i ∈ Region.ready md hops L := by
  intro j
  induction j using Nat.strongRecOn with
  | _ j ih =>
    intro hj hun
    obtain ⟨o, ho, _, hd⟩ := aheadB_spec hB hj
    by_cases h : ∃ e ∈ o.after, Region.binds md e = true ∧ L.getD e.on false = false
    · obtain ⟨e, he, hb, hl⟩ := h
      have hlt := hd e he hb
      exact ih e.on hlt (by omega) (getD_in (by omega) hl)
    · refine ⟨j, hj, mem_ready.2 ⟨hun, o, by rw [hh j hj]; exact ho, fun e he hb => ?_⟩⟩
      cases hl : L.getD e.on false with
      | true => rfl
      | false => exact absurd ⟨e, he, hb, hl⟩ h
theorem op_head (hh : ∀ j, j < n → hops[j]? = ops[j]?) (hB : aheadB md ops n = true) {i : Nat} (hi : i < n) {K1 K2 : Act → World → Prop} {a : Act} {w : World} (hK : ∀ a w, K1 a w → K2 a w)
    (h : wpOp P hops (tailQ Q K) i K1 a w) : wpOp P ops Q i K2 a w := by
  obtain ⟨o, ho, hg, _⟩ := aheadB_spec hB hi
  unfold wpOp at *
  rw [hh i hi] at h
  simp only [ho] at h ⊢
  have hw : ∀ y, Region.wanted o y = true := fun y => by simp [Region.wanted, hg]
  rw [hw, if_pos rfl] at h ⊢
  exact h.imp (fun h => oper_tail (Oper.wp_mono hK h)) (fun h => ⟨h.1, lets_tail h.2⟩)
theorem head_tail {l : List Oper} (hs : hops.size = n) (hh : ∀ j, j < n → hops[j]? = ops[j]?) (hB : aheadB md ops n = true) (hsk : Region.sinkB md ops n = true) (hch : Region.chainB md ops n = true) (hn : n < ops.size)
    (hl : ∀ j, l[j]? = ops[n + j]?) (hseq : Region.seqB md ops l.length n (Array.replicate n true ++ Array.replicate l.length false) = true) (hsize : ops.size = n + l.length) :
    ∀ (fuel : Nat) (L : Array Bool) (a : Act) (w : World), L.size = n → HeadInv md ops n (L ++ Array.replicate l.length false) →
      wpAnyH P md hops (tailQ Q (wpList P ops Q l)) S fuel L a w → wpAny P md ops Q (fuel + l.length) (L ++ Array.replicate l.length false) a w := by
  intro fuel
  induction fuel with
  | zero =>
    intro L a w hL inv h
    have hall : ∀ j, j < n → L.getD j true = true := fun j hj => by
      cases hx : L.getD j true with
      | true => rfl
      | false =>
        obtain ⟨i, _, hi⟩ := some_ready hs hh hB hL j hj hx
        rw [h.1] at hi; cases hi
    have hLe : L = Array.replicate n true := by
      refine Array.ext (by simp [hL]) fun j h1 h2 => ?_
      have := hall j (by omega)
      rw [Array.getElem_replicate]
      simpa [h1] using this
    rw [Nat.zero_add, hLe]
    exact wpAny_of_seq l n _ a w hl hseq h.2
  | succ fuel ih =>
    intro L a w hL inv h
    by_cases hun : ∃ j, j < n ∧ L.getD j true = false
    · obtain ⟨j, hj, hx⟩ := hun
      obtain ⟨i, hin, hi⟩ := some_ready hs hh hB hL j hj hx
      have hif := (ready_head (R := Array.replicate l.length false) hs hh hB hL hin).2 hi
      rw [show fuel + 1 + l.length = (fuel + l.length) + 1 from by omega]
      refine ⟨fun h0 => (by rw [h0] at hif; cases hif), fun k hk => ?_⟩
      have hkn : k < n := by
        rcases Nat.lt_or_ge k n with h | h
        · exact h
        · exact absurd hk (tail_waits hsk hch hn inv _ j rfl hj (by rw [getD_app (by omega)]; exact hx) k h)
      have hkh := (ready_head hs hh hB hL hkn).1 hk
      refine op_head hh hB hkn (fun a' w' h' => ?_) (h.2 k hkh)
      have e : (L ++ Array.replicate l.length false).setIfInBounds k true = L.setIfInBounds k true ++ Array.replicate l.length false := by
        rw [Array.setIfInBounds_append_left (by omega)]
      rw [e]
      exact ih _ a' w' (by simpa using hL) (by rw [← e]; exact inv.set hk hkn) h'.2
    · have hall : ∀ j, j < n → L.getD j true = true := fun j hj => by
        cases hx : L.getD j true with
        | true => rfl
        | false => exact absurd ⟨j, hj, hx⟩ hun
      have hLe : L = Array.replicate n true := by
        refine Array.ext (by simp [hL]) fun j h1 h2 => ?_
        have := hall j (by omega)
        rw [Array.getElem_replicate]
        simpa [h1] using this
      have hr0 : Region.ready md hops L = [] := by
        rcases hx : Region.ready md hops L with _ | ⟨i, rs⟩
        · rfl
        · have hi : i ∈ Region.ready md hops L := by rw [hx]; exact List.mem_cons_self
          obtain ⟨h1, o, ho, _⟩ := mem_ready.1 hi
          have hin : i < n := by rw [← hs]; exact (Array.getElem?_eq_some_iff.1 ho).1
          rw [hall i hin] at h1; cases h1
      refine wpAny_more' ?_ (fuel + 1)
      rw [hLe]
      exact wpAny_of_seq l n _ a w hl hseq (h.1 hr0)
/-- what the kernel looks at -/
def tailB (ops : Array Oper) (n : Nat) : Bool :=
  aheadB .any ops n && Region.sinkB .any ops n && Region.chainB .any ops n && decide (n < ops.size) && Region.seqB .any ops (ops.size - n) n (Array.replicate n true ++ Array.replicate (ops.size - n) false)
/-- **the beginning**: n operations in whatever order, under S; then the others as they stand -/
theorem wp_region_held_tail {id : Nat} {a : Act} {w : World} {l : List Oper} (n : Nat) (S : World → Prop) (hm : P.follows .mixedOrders = true) (hB : tailB l.toArray n = true) (hS : S w.drew)
    (h : S w.drew → wpAnyH P .any (l.take n).toArray (tailQ Q (wpList P l.toArray Q (l.drop n))) S n (Array.replicate n false) a w.drew) : (Code.region id l.toArray true).wp P Q a w := by
  simp only [tailB, Bool.and_eq_true, decide_eq_true_eq] at hB
  obtain ⟨⟨⟨⟨h1, h2⟩, h3⟩, h4⟩, h5⟩ := hB
  have hn : n < l.length := by simpa using h4
  have hdl : l.toArray.size - n = (l.drop n).length := by simp
  have hsz : l.toArray.size = n + (l.drop n).length := by simp; omega
  refine wp_region_any hm ?_
  have := head_tail (P := P) (Q := Q) (S := S) (hops := (l.take n).toArray) (ops := l.toArray) (n := n) (md := .any) (l := l.drop n) (by simp; omega) (fun j hj => by simp [hj]) h1 h2 h3 h4 (fun j => by simp [List.getElem?_drop]) (by rw [← hdl]; exact h5) hsz
    n (Array.replicate n false) a w.drew (by simp) ?_ (h hS)
  · rw [← hsz] at this
    have e : Array.replicate n false ++ Array.replicate (l.drop n).length false = Array.replicate l.toArray.size false := by
      rw [Array.replicate_append_replicate, ← hsz]
    rw [e] at this
    exact this
  · refine ⟨by simp; omega, fun j oj _ hl => ?_, fun t ht ht' => ?_⟩
    · rw [Array.replicate_append_replicate, getD_replicate_false] at hl; cases hl
    · rw [Array.replicate_append_replicate]
      exact getD_in (by rw [← hsz]; simpa using ht') (getD_replicate_false _ _)
end
end Go.Proofs.YtbkmdlfenbfdlaaGreat
namespace Go.Proofs.YtbkmdlfenbfdlaaGreat
open Go Go.RowKit Go.Sort
set_option linter.unusedVariables false
attribute [local go_sem ↓] Go.wp_at_zero Go.wp_at_succ
theorem below_drew1 (w : World) : Below w.heap.size w w.drew := ⟨rfl, rfl, rfl, Nat.le_refl _, fun _ _ => rfl⟩
/-- numbers in memory that is left alone: it was there at w0, and is not the block g0 -/
def RowF (w0 : World) (g0 : Nat) (A : Option Addr) (n c : Nat) (ids : List Int) : Prop :=
  ids.length = n ∧ n ≤ c ∧ c ≤ maxLen ∧ (0 < n → ∃ b o, A = some ⟨b, o, none⟩ ∧ b < w0.heap.size ∧ b ≠ g0 ∧ ∀ j u, (intCells ids)[j]? = some u → w0.cell? ⟨b, o + j, none⟩ = some u)
theorem RowF.of {w0 : World} {g0 lo hi n c : Nat} {A : Option Addr} {ids : List Int} (h : Row w0 lo hi 1 A n c (intCells ids)) (hh : hi ≤ w0.heap.size) (hg : g0 < lo ∨ hi ≤ g0) : RowF w0 g0 A n c ids := by
  refine ⟨by have := h.1; rw [intCells_length] at this; omega, h.2.1, h.2.2.1, fun hn => ?_⟩
  obtain ⟨b, o, e, h1, h2, hc⟩ := h.2.2.2 hn
  exact ⟨b, o, e, by omega, by omega, hc⟩
/-- blocks of other types stay -/
def Keeps (X X' : World) : Prop := X.heap.size ≤ X'.heap.size ∧ ∀ g t cs, t ≠ 3 → t ≠ 33 → Blk X g t cs → Blk X' g t cs
theorem Keeps.of {X X' : World} (h : Below X.heap.size X X') : Keeps X X' := ⟨h.size, fun g t cs _ _ hb => hb.after h⟩
theorem Keeps.trans {X X' X'' : World} (h : Keeps X X') (h' : Keeps X' X'') : Keeps X X'' := ⟨Nat.le_trans h.1 h'.1, fun g t cs h1 h2 hb => h'.2 g t cs h1 h2 (h.2 g t cs h1 h2 hb)⟩
/-- a function value that is called at nodes: what holds of the world behind the nodes so far -/
structure Visit (w0 : World) (g0 M : Nat) (A : Option Addr) (nds : List Nd) (F : FuncId) (caps : Array Value) (Inv : World → List (Int × Nat) → Prop) : Prop where
  enters : ∀ args w, Sem.run Tryz.prog (callFunc F args) w = .ok (.enter F args) w
  grown : ∀ X l, Inv X l → w0.grownBy X (some g0)
  after : ∀ X X' l, Inv X l → Below X.heap.size X X' → Inv X' l
  call : ∀ X l (i : Nat) nd (d : Nat) b o, Inv X l → l.length < M → nds[i]? = some nd → A = some ⟨b, o, none⟩ → d ≤ 65 →
    Calls Tryz.prog F (#[.pointer (some ⟨b, o + i * 7, none⟩), .int .i64 d] ++ caps) X fun e X' => e = .returned (.tuple #[]) ∧ Inv X' (l ++ [(nd.id, d)]) ∧ Keeps X X'
/-- .. and the boxes of the walk -/
structure OV (next : Int) (A : Option Addr) (n c : Nat) (g1 g2 g3 : Nat) (F : FuncId) (caps : Array Value) (Inv : World → List (Int × Nat) → Prop) (l : List (Int × Nat)) (X : World) : Prop where
  inv : Inv X l
  m : Blk X g1 26 #[.int .i64 next, .slice A n c]
  v : Blk X g2 68 #[.func (.func F) #[] caps]
  d : Blk X g3 101 #[.func (.func 69) #[] #[.pointer (some ⟨g1, 0, none⟩), .pointer (some ⟨g2, 0, none⟩), .pointer (some ⟨g3, 0, none⟩)]]
section
variable {w0 : World} {g0 M : Nat} {A : Option Addr} {nds : List Nd} {F : FuncId} {caps : Array Value} {Inv : World → List (Int × Nat) → Prop} {next : Int} {n c g1 g2 g3 : Nat} {l : List (Int × Nat)} {X X' : World}
theorem OV.after (V : Visit w0 g0 M A nds F caps Inv) (h : OV next A n c g1 g2 g3 F caps Inv l X) (hb : Below X.heap.size X X') : OV next A n c g1 g2 g3 F caps Inv l X' :=
  ⟨V.after _ _ _ h.inv hb, h.m.after hb, h.v.after hb, h.d.after hb⟩
theorem OV.step {l' : List (Int × Nat)} (h : OV next A n c g1 g2 g3 F caps Inv l X) (hi : Inv X' l') (hk : Keeps X X') : OV next A n c g1 g2 g3 F caps Inv l' X' :=
  ⟨hi, hk.2 _ _ _ (by decide) (by decide) h.m, hk.2 _ _ _ (by decide) (by decide) h.v, hk.2 _ _ _ (by decide) (by decide) h.d⟩
theorem grown_cell {b o : Nat} (h : w0.grownBy X (some g0)) (hb : b < w0.heap.size) (hne : b ≠ g0) : X.cell? ⟨b, o, none⟩ = w0.cell? ⟨b, o, none⟩ := only_cell h hb hne
theorem grown_nodes {lo hi : Nat} (h : w0.grownBy X (some g0)) (hn : NodesIn w0 lo hi A n c nds) (hh : hi ≤ w0.heap.size) (hg : hi ≤ g0) : NodesIn X lo hi A n c nds :=
  hn.keep fun b o hb => only_cell h (by omega) (by omega)
end
set_option maxRecDepth 100000 in
set_option maxHeartbeats 3200000 in
theorem down_any (w0 : World) (hi g0 M : Nat) (next : Int) (A : Option Addr) (n c : Nat) (nds : List Nd) (F : FuncId) (caps : Array Value) (Inv : World → List (Int × Nat) → Prop) (V : Visit w0 g0 M A nds F caps Inv)
    (hN : NodesIn w0 0 hi A n c nds) (hh : hi ≤ w0.heap.size) (hg : hi ≤ g0) (hr : Rise nds) (hn : n ≤ 4096) (g1 g2 g3 : Nat) : ∀ (f : Nat) (X : World) (l : List (Int × Nat)) (ids : List Int) (A' : Option Addr) (n' c' d : Nat),
    OV next A n c g1 g2 g3 F caps Inv l X → OkF nds f ids → RowF w0 g0 A' n' c' ids → l.length + (pre nds f d ids).length ≤ M → d + f ≤ 66 →
    Calls Tryz.prog 69 #[.slice A' n' c', .int .i64 d, .pointer (some ⟨g1, 0, none⟩), .pointer (some ⟨g2, 0, none⟩), .pointer (some ⟨g3, 0, none⟩)] X
      fun e X' => e = .returned (.tuple #[]) ∧ OV next A n c g1 g2 g3 F caps Inv (l ++ pre nds f d ids) X' := by
  intro f
  induction f using Nat.strongRecOn with
  | _ f ih =>
  intro X l ids A' n' c' d hO hok hrow hM hd
  have hlen := hrow.1
  have hnc' := hrow.2.1
  have hc' := hrow.2.2.1
  have hrw := hrow.2.2.2
  unfold maxLen at hc'
  have HLEN := Lib.hid hlen
  have HOK := Lib.hid hok
  have HRW := Lib.hid hrw
  have HO0 := Lib.hid hO
  have HIHs := Lib.hid ih
  have HM := Lib.hid hM
  have hen := V.enters
  have HV := Lib.hid V
  have HNN := Lib.hid hN
  clear hlen hok hrw hrow hO ih hM V hN
  go_enter Tryz.func69, Tryz.ntmps69
  go_wp2_with fail
  go_loopw [12] (fun i wr => ∃ k : Nat, k ≤ n' ∧ i = .int .i64 k ∧ OV next A n c g1 g2 g3 F caps Inv (l ++ pre nds f d (ids.take k)) wr) (fun i _ => n' - (intOf i).toNat)
  case atStart => exact ⟨0, Nat.zero_le _, rfl, by rw [List.take_zero, pre_nil, List.append_nil]; exact HO0.out⟩
  case round =>
    obtain ⟨k, hk, rfl, hv⟩ := hrel
    rename World => wr
    have HVr := Lib.hid hv
    clear hv
    by_cases hlt : k < n'
    · obtain ⟨x, hx⟩ : ∃ x, ids[k]? = some x := ⟨ids[k]'(by have := HLEN.out; omega), List.getElem?_eq_getElem _⟩
      have hxm := List.mem_of_getElem? hx
      obtain ⟨f', rfl⟩ : ∃ f', f = f' + 1 := by
        cases f with
        | zero => have := HOK.out; rw [OkF] at this; rw [this] at hxm; cases hxm
        | succ f' => exact ⟨f', rfl⟩
      obtain ⟨⟨nd, hnd⟩, hokk⟩ := HOK.out x hxm
      rw [kidsV_of hnd] at hokk
      obtain ⟨i, hix, hgi, hie⟩ := ndOf_some hnd
      have hin := ixOf_lt hix
      rw [HNN.out.1] at hin
      obtain ⟨b, o, hA, _, hb, Vl, hVl⟩ := HNN.out.all (by omega)
      have hat := (hVl i nd hgi).1.c5
      have hlf := (hVl i nd hgi).2
      generalize Vl i = L at hat hlf
      obtain ⟨_, ⟨Ak, nk, ck⟩, _⟩ := L
      have hkrow : RowF w0 g0 Ak nk ck nd.kids := RowF.of hlf.k hh (.inr hg)
      obtain ⟨bi, oi, rfl, hbi, hbig, hcell⟩ := HRW.out (by omega)
      have hkc := (grown_cell (HV.out.grown _ _ HVr.out.inv) hbi hbig).trans (hcell k _ (intCells_get hx))
      have htk : ids.take (k + 1) = ids.take k ++ [x] := by rw [List.take_add_one, hx]; rfl
      have hpr : pre nds (f' + 1) d (ids.take (k + 1)) = pre nds (f' + 1) d (ids.take k) ++ [(nd.id, d)] ++ pre nds f' (d + 1) nd.kids := by
        rw [htk, pre_append, pre_cons, pre_nil, List.append_nil, kidsV_of hnd, hie]; simp
      have hprl : (pre nds (f' + 1) d (ids.take (k + 1))).length ≤ (pre nds (f' + 1) d ids).length := by
        conv => rhs; rw [← List.take_append_drop (k + 1) ids]
        rw [pre_append, List.length_append]; omega
      have hll := hprl
      rw [hpr] at hll
      simp only [List.length_append, List.length_singleton] at hll
      have hMM := HM.out
      subst hA
      have c0 := HVr.out.m.cell 0
      have c1 := HVr.out.m.cell 1
      simp at c0 c1
      have HNo := Lib.hid (node_any wr hi next x (some ⟨b, o, none⟩) n c nds (grown_nodes (HV.out.grown _ _ HVr.out.inv) HNN.out hh hg) (Nat.le_trans hh (HV.out.grown _ _ HVr.out.inv).size) hr hn (.pointer (some ⟨b, o + i * 7, none⟩)) (by rw [hix]; exact ⟨b, o, rfl, rfl⟩))
      have HCA : Hid (∀ Y, OV next (some ⟨b, o, none⟩) n c g1 g2 g3 F caps Inv (l ++ pre nds (f' + 1) d (ids.take k)) Y → Calls Tryz.prog F (#[.pointer (some ⟨b, o + i * 7, none⟩), .int .i64 d] ++ caps) Y fun e Y' => e = .returned (.tuple #[]) ∧ OV next (some ⟨b, o, none⟩) n c g1 g2 g3 F caps Inv (l ++ pre nds (f' + 1) d (ids.take k) ++ [(nd.id, d)]) Y') := Lib.hid fun Y hY =>
        (HV.out.call Y _ i nd d b o hY.inv (by simp only [List.length_append]; omega) hgi rfl (by omega)).mono fun e Y' ⟨h1, h2, h3⟩ => ⟨h1, hY.step h2 h3⟩
      have HIH : Hid (∀ (Y : World) (l' : List (Int × Nat)), OV next (some ⟨b, o, none⟩) n c g1 g2 g3 F caps Inv (l ++ pre nds (f' + 1) d (ids.take k) ++ [(nd.id, d)]) Y → Calls Tryz.prog 69 #[.slice Ak nk ck, .int .i64 (d + 1), .pointer (some ⟨g1, 0, none⟩), .pointer (some ⟨g2, 0, none⟩), .pointer (some ⟨g3, 0, none⟩)] Y
          fun e X' => e = .returned (.tuple #[]) ∧ OV next (some ⟨b, o, none⟩) n c g1 g2 g3 F caps Inv (l ++ pre nds (f' + 1) d (ids.take k) ++ [(nd.id, d)] ++ pre nds f' (d + 1) nd.kids) X') := Lib.hid fun Y _ hY => by
        have := HIHs.out f' (by omega) Y _ nd.kids Ak nk ck (d + 1) hY hokk hkrow (by simp only [List.length_append, List.length_singleton]; omega) (by omega)
        rw [show ((d + 1 : Nat) : Int) = (d : Int) + 1 from by omega] at this
        exact this
      have HSof : Hid (∀ Y l', OV next (some ⟨b, o, none⟩) n c g1 g2 g3 F caps Inv l' Y → Y.cell? ⟨g3, 0, none⟩ = some (.func (.func 69) #[] #[.pointer (some ⟨g1, 0, none⟩), .pointer (some ⟨g2, 0, none⟩), .pointer (some ⟨g3, 0, none⟩)]) ∧ Y.cell? ⟨b, o + i * 7 + 5, none⟩ = some (.slice Ak nk ck)) := Lib.hid fun Y l' hY => ⟨(hY.d.cell 0).trans rfl, (grown_cell (HV.out.grown _ _ hY.inv) (by omega) (by omega)).trans hat⟩
      have HPR : Hid (l ++ pre nds (f' + 1) d (ids.take (k + 1)) = l ++ pre nds (f' + 1) d (ids.take k) ++ [(nd.id, d)] ++ pre nds f' (d + 1) nd.kids) := Lib.hid (by rw [hpr]; simp only [List.append_assoc])
      have hwr : IntKind.i64.wrap ((d : Int) + 1) = (d : Int) + 1 := IntWalk.i64_in _ (by omega)
      clear hx hxm hnd hokk hix hgi hie hat hlf hkrow hcell htk hpr hprl hll hMM hVl HM HIHs HOK HRW
      go_wp2_with (first | (go_at_call 42; go_must (refine HNo.out.mono ?_; rintro e w2 ⟨rfl, hb2⟩; have hv2 := HVr.out.after HV.out hb2; have v2 := hv2.v.cell 0; simp at v2; have HV2 := Lib.hid hv2; clear hb2 hv2)) | (with_reducible refine (HCA.out _ HV2.out).mono ?_; go_must (rintro e wr3 ⟨rfl, hv4⟩; have HV4 := Lib.hid hv4; clear hv4)))
      refine wp_region_held_tail 7 (fun w' => w'.cell? ⟨g3, 0, none⟩ = some (.func (.func 69) #[] #[.pointer (some ⟨g1, 0, none⟩), .pointer (some ⟨g2, 0, none⟩), .pointer (some ⟨g3, 0, none⟩)]) ∧ w'.cell? ⟨b, o + i * 7 + 5, none⟩ = some (.slice Ak nk ck)) (by kernel_rfl) (by kernel_rfl) ?hSt (fun hHeld => ?qt0)
      case hSt => exact HSof.out _ _ (HV4.out.after HV.out (below_drew1 _))
      case qt0 =>
        simp only [List.take_succ_cons, List.take_zero, List.drop_succ_cons, List.drop_zero]
        refine wpAnyH_take (i := 0) (v := (.func (.func 69) #[] #[.pointer (some ⟨g1, 0, none⟩), .pointer (some ⟨g2, 0, none⟩), .pointer (some ⟨g3, 0, none⟩)])) rfl (by kernel_rfl) (by kernel_rfl) (by kernel_rfl) (fun _ _ _ h => h) (Or.inl ⟨by rfl, ?yt_1⟩) (by assumption) ?qt_1
        case yt_1 => (intro w hSw; (try dsimp only at hSw); go_simp)
        case qt_1 =>
          (try simp only [Act.put]); (try simp only [List.setIfInBounds_toArray])
          refine wpAnyH_take (i := 1) (v := (.pointer (some ⟨b, o + i * 7, none⟩))) rfl (by kernel_rfl) (by kernel_rfl) (by kernel_rfl) (fun _ _ _ h => h) (Or.inl ⟨by rfl, ?yt_2⟩) (by assumption) ?qt_2
          case yt_2 => (intro w hSw; (try dsimp only at hSw); go_simp)
          case qt_2 =>
            (try simp only [Act.put]); (try simp only [List.setIfInBounds_toArray])
            refine wpAnyH_take (i := 2) (v := (.pointer (some ⟨b, o + i * 7, none⟩))) rfl (by kernel_rfl) (by kernel_rfl) (by kernel_rfl) (fun _ _ _ h => h) (Or.inl ⟨by rfl, ?yt_3⟩) (by assumption) ?qt_3
            case yt_3 => (intro w hSw; (try dsimp only at hSw); go_simp)
            case qt_3 =>
              (try simp only [Act.put]); (try simp only [List.setIfInBounds_toArray])
              refine wpAnyH_take (i := 3) (v := (.pointer (some ⟨b, o + i * 7 + 5, none⟩))) rfl (by kernel_rfl) (by kernel_rfl) (by kernel_rfl) (fun _ _ _ h => h) (Or.inl ⟨by rfl, ?yt_4⟩) (by assumption) ?qt_4
              case yt_4 => (intro w hSw; (try dsimp only at hSw); go_simp)
              case qt_4 =>
                (try simp only [Act.put]); (try simp only [List.setIfInBounds_toArray])
                refine wpAnyH_take (i := 4) (v := (.slice Ak nk ck)) rfl (by kernel_rfl) (by kernel_rfl) (by kernel_rfl) (fun _ _ _ h => h) (Or.inl ⟨by rfl, ?yt_5⟩) (by assumption) ?qt_5
                case yt_5 => (intro w hSw; (try dsimp only at hSw); go_simp)
                case qt_5 =>
                  (try simp only [Act.put]); (try simp only [List.setIfInBounds_toArray])
                  refine wpAnyH_take (i := 5) (v := (.int .i64 d)) rfl (by kernel_rfl) (by kernel_rfl) (by kernel_rfl) (fun _ _ _ h => h) (Or.inl ⟨by rfl, ?yt_6⟩) (by assumption) ?qt_6
                  case yt_6 => (intro w hSw; (try dsimp only at hSw); go_simp)
                  case qt_6 =>
                    (try simp only [Act.put]); (try simp only [List.setIfInBounds_toArray])
                    refine wpAnyH_take (i := 6) (v := (.int .i64 (d + 1))) rfl (by kernel_rfl) (by kernel_rfl) (by kernel_rfl) (fun _ _ _ h => h) (Or.inl ⟨by rfl, ?yt_7⟩) (by assumption) ?qt_7
                    case yt_7 => (intro w hSw; (try dsimp only at hSw); go_simp)
                    case qt_7 =>
                      (try simp only [Act.put]); (try simp only [List.setIfInBounds_toArray])
                      refine wpAnyH_done (by kernel_rfl) ?_ _
                      obtain ⟨hs0, hs1⟩ := hHeld
                      show wpList _ _ _ _ _ _
                      go_wp2_with (go_at_call 69; go_must (refine (HIH.out _ [] (HV4.out.after HV.out (below_drew1 _))).mono ?_; rintro e w5 ⟨rfl, hv5⟩; have HV5 := Lib.hid hv5; clear hv5))
                      go_roundw
                      case measure => simp only [intOf]; omega
                      case rel => exact ⟨k + 1, by omega, by simp, by rw [HPR.out]; exact HV5.out⟩
    · have hkn : k = n' := by omega
      subst hkn
      have HF : Hid (ids.take k = ids) := Lib.hid (List.take_of_length_le (by have := HLEN.out; omega))
      go_wp2_with fail
      (try simp only [Exit.inBlock, Exit.then])
      first | refine bodyPost_ret (results_none (by kernel_rfl) _ _ _) rfl ?_ | refine bodyPost_end (results_none (by kernel_rfl) _ _ _) rfl ?_
      rw [HF.out] at HVr
      exact ⟨rfl, HVr.out⟩
end Go.Proofs.YtbkmdlfenbfdlaaGreat

/-
  WALKS: Check of the program.
  WALKS: index, has of the document; the words for its plain.
  PLAIN MATHEMATICS: places among kids, depths, and what a model is behind a node that is added.
  PLAIN MATHEMATICS: document order.
  A MODEL's TEXT in plain mathematics: its lines; a page that takes no more once it is too long.
  A MODEL's TEXT IS READ, in plain mathematics, line by line, as the document's own reader does (topiaryref03.Parse): takesV, parseV.
  WHERE THE LAST NODES STAND, in plain mathematics: the way from the last root down to the last node, and what a node more makes of it.
-/
import Derived.Test.YtjjlofaejpnnnaaGreatDoorZO5
import Derived.Deep.DeepMust
import Derived.Lib.ItoaLen
namespace Go.Proofs.YtjjlofaejpnnnaaGreatDoor
open Go Go.RowKit Go.Sort
set_option linter.unusedVariables false
def checkV (next : Int) (nds : List Nd) : Int := if rightB next nds then 0 else 29
theorem check_no {next : Int} {nds : List Nd} (h : checkB next nds = false) : checkV next nds = 29 := by unfold checkV; rw [← checkB_eq, h]; rfl
theorem check_yes {next : Int} {nds : List Nd} (h : checkB next nds = true) : checkV next nds = 0 := by unfold checkV; rw [← checkB_eq, h]; rfl
theorem numB_facts {next : Int} {nds : List Nd} (h : numB next nds = true) : Rise nds ∧ nds.length ≤ 4096 ∧ 1 ≤ next ∧ next ≤ 1048577 := by
  unfold numB headB at h
  simp only [Bool.and_eq_true, decide_eq_true_eq] at h
  exact ⟨Rise.of h.2, h.1.2, h.1.1.1, h.1.1.2⟩
set_option maxHeartbeats 1600000 in
theorem check_any (w : World) (hi : Nat) (next : Int) (A : Option Addr) (n c : Nat) (nds : List Nd) (h : NodesIn w 0 hi A n c nds) (hh : hi ≤ w.heap.size) :
    Calls Tryz.prog 13 #[.agg #[.int .i64 next, .slice A n c]] w (Ret w (.int .i64 (checkV next nds))) := by
  have hbx := below_box w (mdObj next A n c)
  unfold mdObj at hbx
  have HB := Lib.hid hbx
  have HC : Hid (checkB next nds = (numB next nds && nds.all (speltB next) && (match joinS nds with | none => false | some a => rootedB a))) := Lib.hid rfl
  have HNu := Lib.hid (numbered_any (w.alloc (.cells #[.int .i64 next, .slice A n c] 25)) hi next A n c nds (h.below (hbx.mono hh)) (by simp; omega))
  have HSp : Hid (∀ w2, Below (w.alloc (.cells #[.int .i64 next, .slice A n c] 25)).heap.size (w.alloc (.cells #[.int .i64 next, .slice A n c] 25)) w2 → Calls Tryz.prog 31 #[.agg #[.int .i64 next, .slice A n c]] w2 (Ret w2 (.bool (nds.all (speltB next))))) := Lib.hid (fun w2 hb2 =>
    spelt_any w2 hi next A n c nds ((h.below (hbx.mono hh)).below (hb2.mono (by simp; omega))) (by have := hb2.size; simp at this; omega))
  have HJo : Hid (Rise nds → n ≤ 4096 → ∀ w2, Below (w.alloc (.cells #[.int .i64 next, .slice A n c] 25)).heap.size (w.alloc (.cells #[.int .i64 next, .slice A n c] 25)) w2 → Calls Tryz.prog 32 #[.agg #[.int .i64 next, .slice A n c]] w2 (Joined w2 n (joinS nds))) := Lib.hid (fun hr hn w2 hb2 =>
    joined_any w2 hi next A n c nds ((h.below (hbx.mono hh)).below (hb2.mono (by simp; omega))) (by have := hb2.size; simp at this; omega) hr hn)
  have HL := Lib.hid h.1
  clear hbx
  cases h1 : numB next nds with
  | false =>
    have HX : Hid (checkV next nds = 29) := Lib.hid (check_no (by rw [HC.out, h1]; rfl))
    rw [h1] at HNu
    clear h1 h
    go_enter Tryz.func13, Tryz.ntmps13
    go_wp2_with (go_at_call 30; refine HNu.out.mono ?_; rintro e w2 ⟨rfl, hb2⟩; obtain ⟨q1, q2⟩ := bcell hb2)
    go_ret
    exact ret_i HX.out rfl (HB.out.trans (hb2.mono (by simp)))
  | true =>
    obtain ⟨hr, hn, _, _⟩ := numB_facts h1
    rw [HL.out] at hn
    rw [h1] at HNu
    cases h2 : nds.all (speltB next) with
    | false =>
      have HX : Hid (checkV next nds = 29) := Lib.hid (check_no (by rw [HC.out, h2]; simp))
      rw [h2] at HSp
      clear h1 h2 h hr
      go_enter Tryz.func13, Tryz.ntmps13
      go_wp2_with (first | (go_at_call 30; refine HNu.out.mono ?_; rintro e w2 ⟨rfl, hb2⟩; obtain ⟨q1, q2⟩ := bcell hb2; have HB2 := Lib.hid hb2; have hz2 : w.heap.size < w2.heap.size := Nat.lt_of_lt_of_le (by simp) hb2.size; clear hb2) | (go_at_call 31; go_must (refine (HSp.out w2 HB2.out).mono ?_; rintro e w3 ⟨rfl, hb3⟩; have HB3 := Lib.hid hb3; clear hb3)))
      go_ret
      exact ret_i HX.out rfl (HB.out.trans ((HB2.out.mono (by simp)).trans (HB3.out.mono (by omega))))
    | true =>
      rw [h2] at HSp
      have hJo := HJo.out hr hn
      cases h3 : joinS nds with
      | none =>
        have HX : Hid (checkV next nds = 29) := Lib.hid (check_no (by rw [HC.out, h3]; simp))
        rw [h3] at hJo
        have HJ := Lib.hid hJo
        clear h1 h2 h3 h hr hJo HJo
        go_enter Tryz.func13, Tryz.ntmps13
        go_wp2_with (first | (go_at_call 30; refine HNu.out.mono ?_; rintro e w2 ⟨rfl, hb2⟩; obtain ⟨q1, q2⟩ := bcell hb2; have HB2 := Lib.hid hb2; have hz2 : w.heap.size < w2.heap.size := Nat.lt_of_lt_of_le (by simp) hb2.size; clear hb2) | (go_at_call 31; go_must (refine (HSp.out w2 HB2.out).mono ?_; rintro e w3 ⟨rfl, hb3⟩; obtain ⟨r1, r2⟩ := bcell hb3; have HB3 := Lib.hid (HB2.out.trans (hb3.mono (by simp; omega))); have hz3 := hb3.size; clear hb3)) | (go_at_call 32; refine (HJ.out w3 HB3.out).mono ?_; rintro e w4 ⟨hb4, rfl⟩; have HB4 := Lib.hid hb4; clear hb4))
        go_ret
        exact ret_i HX.out rfl (HB.out.trans ((HB3.out.mono (by simp)).trans (HB4.out.mono (by omega))))
      | some a =>
        rw [h3] at hJo
        have HJ := Lib.hid hJo
        have J := join_of hr h3
        have hav : ∀ j, j < n → -1 ≤ a.getD j (-1) ∧ a.getD j (-1) < n := by
          intro j hj
          have hjl : j < a.length := by rw [J.len, HL.out]; exact hj
          have e : a.getD j (-1) = a.getD j 0 := by rw [List.getD_eq_getElem?_getD, List.getD_eq_getElem?_getD, List.getElem?_eq_getElem hjl]; rfl
          rw [e]
          by_cases hx : a.getD j 0 = -1
          · omega
          · obtain ⟨i, p, h1, _, h2, _⟩ := J.from_ j (nds[j]'(by rw [HL.out]; exact hj)) (List.getElem?_eq_getElem _) hx
            have := (List.getElem?_eq_some_iff.1 h1).1
            rw [HL.out] at this
            omega
        have HAV := Lib.hid hav
        have HR : Hid (∀ (w4 : World) (g : Nat), IBlk w4 g a → a.length = n → Calls Tryz.prog 33 #[.slice (some ⟨g, 0, none⟩) n n] w4 (Ret w4 (.bool (rootedB a)))) := Lib.hid (fun w4 g hg hl => rooted_any w4 w4.heap.size (some ⟨g, 0, none⟩) n n a (hg.row hl (Nat.le_refl _) (by unfold maxLen; omega) (Nat.zero_le _) hg.lt) (Nat.le_refl _) hn hl HAV.out)
        obtain ⟨x, hx⟩ : ∃ x, rootedB a = x := ⟨_, rfl⟩
        rw [hx] at HR
        have HX : Hid (checkV next nds = if x then 0 else 29) := Lib.hid (by
          cases x with
          | false => exact check_no (by rw [HC.out, h3]; simp [hx])
          | true => exact check_yes (by rw [HC.out, h1, h2, h3]; simp [hx]))
        clear h1 h2 h3 h hr hJo HJo hav J hx
        cases x
        all_goals
          go_enter Tryz.func13, Tryz.ntmps13
          go_wp2_with (first | (go_at_call 30; refine HNu.out.mono ?_; rintro e w2 ⟨rfl, hb2⟩; obtain ⟨q1, q2⟩ := bcell hb2; have HB2 := Lib.hid hb2; have hz2 : w.heap.size < w2.heap.size := Nat.lt_of_lt_of_le (by simp) hb2.size; clear hb2) | (go_at_call 31; go_must (refine (HSp.out w2 HB2.out).mono ?_; rintro e w3 ⟨rfl, hb3⟩; obtain ⟨r1, r2⟩ := bcell hb3; have HB3 := Lib.hid (HB2.out.trans (hb3.mono (by simp; omega))); have hz3 := hb3.size; clear hb3)) | (go_at_call 32; refine (HJ.out w3 HB3.out).mono ?_; rintro e w4 ⟨hb4, g, rfl, hg, hl, _⟩; have HB4 := Lib.hid hb4; have HG := Lib.hid hg; have HLL := Lib.hid hl; have hz4 := hb4.size; clear hb4 hg hl) | (go_at_call 33; refine (HR.out w4 g HG.out HLL.out).mono ?_; rintro e w5 ⟨rfl, hb5⟩; have HB5 := Lib.hid hb5; clear hb5))
          go_ret
          exact ret_i HX.out rfl (HB.out.trans ((HB3.out.mono (by simp)).trans ((HB4.out.mono (by omega)).trans (HB5.out.mono (by omega)))))
end Go.Proofs.YtjjlofaejpnnnaaGreatDoor
namespace Go.Proofs.YtjjlofaejpnnnaaGreatDoor
open Go Go.RowKit Go.Sort
set_option linter.unusedVariables false
/-- a block of yes and no -/
def BBlk (w : World) (g : Nat) (a : List Bool) : Prop := Blk w g 4 (a.map Value.bool).toArray
section
variable {w w' : World} {g : Nat} {a : List Bool}
theorem BBlk.cell (h : BBlk w g a) {i : Nat} (hi : i < a.length) : w.cell? ⟨g, i, none⟩ = some (.bool (a.getD i false)) := by
  rw [Blk.cell h]
  simp [hi]
theorem BBlk.set_ (h : BBlk w g a) (i : Nat) (x : Bool) : BBlk (w.setCell ⟨g, i, none⟩ (.bool x)) g (a.set i x) := by
  have := Blk.set_ h i (.bool x)
  unfold BBlk
  have e : ((a.set i x).map Value.bool).toArray = (a.map Value.bool).toArray.setIfInBounds i (.bool x) := by simp [List.map_set]
  rw [e]; exact this
end
def noB (n : Nat) : Array Value := ((List.replicate n false).map Value.bool).toArray
theorem BBlk.start (w : World) (n : Nat) : BBlk (w.alloc (.cells (noB n) 4)) w.heap.size (List.replicate n false) := Blk.new _ _ _
/-- the kids that were met so far are marked -/
def MetOk (nds : List Nd) (n : Nat) (seen : List Int) (mt : List Bool) : Prop := mt.length = n ∧ ∀ k j, ixOf nds k = some j → mt.getD j false = seen.contains k
theorem MetOk.start (nds : List Nd) (n : Nat) : MetOk nds n [] (List.replicate n false) := ⟨by simp, fun k j h => by
  rw [List.getD_eq_getElem?_getD, List.getElem?_replicate]; split <;> simp⟩
theorem MetOk.step {nds : List Nd} {n : Nat} {seen : List Int} {mt : List Bool} (h : MetOk nds n seen mt) {k : Int} {j : Nat} (hj : ixOf nds k = some j) (hn : j < n) : MetOk nds n (k :: seen) (mt.set j true) := by
  refine ⟨by rw [List.length_set]; exact h.1, fun k' j' hj' => ?_⟩
  rw [List.getD_eq_getElem?_getD, List.getElem?_set]
  by_cases e : j = j'
  · subst e
    obtain rfl := ixOf_inj hj hj'
    simp [h.1, hn]
  · rw [if_neg e, ← List.getD_eq_getElem?_getD, h.2 k' j' hj']
    have : k' ≠ k := by rintro rfl; rw [hj] at hj'; injection hj' with hj'; exact e hj'
    simp [this]
/-- the boxes of the document's plain, below: the model, the node -/
structure PW (w : World) (next : Int) (A : Option Addr) (n c : Nat) (nd : Nd) (L : Leaf) (wr : World) : Prop where
  md : Blk wr w.heap.size 25 #[.int .i64 next, .slice A n c]
  nb : Blk wr (w.heap.size + 1) 55 #[.int .i64 nd.id, .string nd.con, .int .i64 nd.par, .string nd.role, .slice L.p.A L.p.n L.p.c, .slice L.k.A L.k.n L.k.c, .slice L.r.A L.r.n L.r.c]
  bel : Below w.heap.size w wr
section
variable {w wr w' : World} {next : Int} {A : Option Addr} {n c : Nat} {nd : Nd} {L : Leaf}
theorem PW.start (w : World) (next : Int) (A : Option Addr) (n c : Nat) (nd : Nd) (L : Leaf) : PW w next A n c nd L ((w.alloc (.cells #[.int .i64 next, .slice A n c] 25)).alloc (.cells #[.int .i64 nd.id, .string nd.con, .int .i64 nd.par, .string nd.role, .slice L.p.A L.p.n L.p.c, .slice L.k.A L.k.n L.k.c, .slice L.r.A L.r.n L.r.c] 55)) :=
  ⟨(Blk.new _ _ _).alloc _, Blk.new' (by simp), (below_box _ _).alloc (by simp) _⟩
theorem PW.after (h : PW w next A n c nd L wr) (hb : Below wr.heap.size wr w') : PW w next A n c nd L w' := ⟨h.md.after hb, h.nb.after hb, h.bel.trans (hb.mono h.bel.size)⟩
theorem PW.drewN (h : PW w next A n c nd L wr) (q : Nat) : PW w next A n c nd L (wr.drewN q) := ⟨h.md, h.nb, below_drewN h.bel q⟩
theorem PW.size (h : PW w next A n c nd L wr) : w.heap.size + 1 < wr.heap.size := h.nb.lt
end
end Go.Proofs.YtjjlofaejpnnnaaGreatDoor
namespace Go.Proofs.YtjjlofaejpnnnaaGreatDoor
open Go Go.RowKit
set_option linter.unusedVariables false
/-- what a right model is -/
structure RightM (next : Int) (nds : List Nd) : Prop where
  rise : Rise nds
  lo : 1 ≤ next
  hi : next ≤ 1048577
  len : nds.length ≤ 4096
  lt : ∀ (i : Nat) nd, nds[i]? = some nd → nd.id < next
  plain : ∀ nd ∈ nds, plainB next nds nd = true
  below : ∀ nd ∈ nds, belowB nds 64 nd = true
theorem rightM {next : Int} {nds : List Nd} (h : rightB next nds = true) : RightM next nds := by
  unfold rightB numB headB at h
  simp only [Bool.and_eq_true, decide_eq_true_eq, List.all_eq_true] at h
  obtain ⟨⟨⟨⟨h1, h2⟩, h3⟩, h4⟩, h5⟩ := h
  exact ⟨Rise.of h4, h1, h2, h3, fun i nd hi => ((idsB_rise (by omega) h4).1 i nd hi).2, fun nd hnd => (h5 nd hnd).1, fun nd hnd => (h5 nd hnd).2⟩
theorem RightM.kids {next : Int} {nds : List Nd} (h : RightM next nds) {nd : Nd} (hnd : nd ∈ nds) : (∀ k ∈ nd.kids, ∃ x, ndOf nds k = some x ∧ x.par = nd.id) ∧ nd.kids.Nodup := by
  have h1 := h.plain nd hnd
  unfold plainB at h1
  simp only [Bool.and_eq_true] at h1
  have h2 := kidsB_spec.1 h1.2
  exact ⟨fun k hk => (h2.1 k hk).1, h2.2⟩
/-- the k-th one up from a node -/
def upI (nds : List Nd) (id : Int) : Nat → Int
  | 0 => id
  | k + 1 => match ndOf nds (upI nds id k) with
    | some nd => nd.par
    | none => 0
/-- so many nodes stand on the way from a node up -/
structure DepthIs (nds : List Nd) (id : Int) (K : Nat) : Prop where
  top : upI nds id K = 0
  way : ∀ k, k < K → upI nds id k ≠ 0 ∧ ∃ nd, ndOf nds (upI nds id k) = some nd
theorem upI_succ {nds : List Nd} {id : Int} {k : Nat} {nd : Nd} (h : ndOf nds (upI nds id k) = some nd) : upI nds id (k + 1) = nd.par := by
  rw [upI, h]
theorem upI_shift {nds : List Nd} {id : Int} {nd : Nd} (h : ndOf nds id = some nd) : ∀ k, upI nds id (k + 1) = upI nds nd.par k
  | 0 => by rw [upI, upI, upI, h]
  | k + 1 => by rw [upI, upI_shift h k, upI]
theorem depth_zero (nds : List Nd) : DepthIs nds 0 0 := ⟨rfl, fun k hk => absurd hk (Nat.not_lt_zero _)⟩
theorem DepthIs.succ {nds : List Nd} {id : Int} {nd : Nd} {K : Nat} (h : DepthIs nds nd.par K) (hnd : ndOf nds id = some nd) (h0 : id ≠ 0) : DepthIs nds id (K + 1) := by
  refine ⟨by rw [upI_shift hnd]; exact h.top, fun k hk => ?_⟩
  cases k with
  | zero => exact ⟨h0, nd, hnd⟩
  | succ k => rw [upI_shift hnd]; exact h.way k (by omega)
theorem DepthIs.eq {nds : List Nd} {id : Int} {K K' : Nat} (h : DepthIs nds id K) (h' : DepthIs nds id K') : K = K' := by
  rcases Nat.lt_trichotomy K K' with k | k | k
  · exact absurd h.top (h'.way K k).1
  · exact k
  · exact absurd h'.top (h.way K' k).1
theorem depth_of {next : Int} {nds : List Nd} (hr : RightM next nds) : ∀ (f : Nat) (nd : Nd), nd ∈ nds → belowB nds f nd = true → ∃ K, 1 ≤ K ∧ K ≤ f ∧ DepthIs nds nd.id K
  | 0, nd, _, h => by simp [belowB] at h
  | f + 1, nd, hm, h => by
    obtain ⟨i, hi⟩ := List.getElem?_of_mem hm
    have hnd := ndOf_is hr.rise hi
    have h0 : nd.id ≠ 0 := by have := hr.rise.pos i nd hi; omega
    rw [belowB] at h
    split at h
    · rename_i hp
      exact ⟨1, by omega, by omega, (show DepthIs nds nd.par 0 from by rw [hp]; exact depth_zero nds).succ hnd h0⟩
    · split at h
      · cases h
      · rename_i p hp
        simp only [Bool.and_eq_true] at h
        obtain ⟨j, _, hj, he⟩ := ndOf_some hp
        obtain ⟨K, h1, h2, h3⟩ := depth_of hr f p (List.mem_of_getElem? hj) h.2
        rw [he] at h3
        exact ⟨K + 1, by omega, by omega, h3.succ hnd h0⟩
/-- how deep a node stands; 0: there is none -/
def depthV (nds : List Nd) (id : Int) : Nat := ((List.range 65).find? (fun k => upI nds id k == 0)).getD 0
theorem DepthIs.val {nds : List Nd} {id : Int} {K : Nat} (h : DepthIs nds id K) (hK : K ≤ 64) : depthV nds id = K := by
  unfold depthV
  have : (List.range 65).find? (fun k => upI nds id k == 0) = some K := by
    rw [List.find?_range_eq_some]
    refine ⟨by simpa using h.top, by simp; omega, fun j hj => ?_⟩
    simpa using (h.way j hj).1
  rw [this]; rfl
theorem RightM.depth {next : Int} {nds : List Nd} (hr : RightM next nds) {id : Int} {nd : Nd} (h : ndOf nds id = some nd) : DepthIs nds id (depthV nds id) ∧ 1 ≤ depthV nds id ∧ depthV nds id ≤ 64 := by
  obtain ⟨i, _, hi, he⟩ := ndOf_some h
  have hm := List.mem_of_getElem? hi
  obtain ⟨K, h1, h2, h3⟩ := depth_of hr 64 nd hm (hr.below nd hm)
  rw [he] at h3
  rw [h3.val h2]
  exact ⟨h3, h1, h2⟩
theorem depth_root {nds : List Nd} : DepthIs nds 0 (depthV nds 0) ∧ depthV nds 0 = 0 := by
  rw [(depth_zero nds).val (by omega)]; exact ⟨depth_zero nds, rfl⟩
end Go.Proofs.YtjjlofaejpnnnaaGreatDoor
namespace Go.Proofs.YtjjlofaejpnnnaaGreatDoor
open Go Go.RowKit
set_option linter.unusedVariables false
def kidsV (nds : List Nd) (x : Int) : List Int := match ndOf nds x with
  | some nd => nd.kids
  | none => []
theorem kidsV_of {nds : List Nd} {x : Int} {nd : Nd} (h : ndOf nds x = some nd) : kidsV nds x = nd.kids := by unfold kidsV; rw [h]
/-- nodes with all that is below them, in document order, each with how deep it stands -/
def pre (nds : List Nd) : Nat → Nat → List Int → List (Int × Nat)
  | 0, _, _ => []
  | f + 1, d, ids => ids.flatMap fun x => (x, d) :: pre nds f (d + 1) (kidsV nds x)
theorem pre_nil (nds : List Nd) (f d : Nat) : pre nds f d [] = [] := by cases f <;> simp [pre]
theorem pre_cons (nds : List Nd) (f d : Nat) (x : Int) (r : List Int) : pre nds (f + 1) d (x :: r) = ((x, d) :: pre nds f (d + 1) (kidsV nds x)) ++ pre nds (f + 1) d r := by
  simp only [pre, List.flatMap_cons]
theorem pre_append (nds : List Nd) (f d : Nat) (a b : List Int) : pre nds f d (a ++ b) = pre nds f d a ++ pre nds f d b := by
  cases f <;> simp [pre]
/-- so many levels are enough -/
def OkF (nds : List Nd) : Nat → List Int → Prop
  | 0, ids => ids = []
  | f + 1, ids => ∀ x ∈ ids, (∃ nd, ndOf nds x = some nd) ∧ OkF nds f (kidsV nds x)
/-- all of them are nodes that stand so deep -/
def AtD (nds : List Nd) (D : Nat) (ids : List Int) : Prop := ∀ x ∈ ids, (∃ nd, ndOf nds x = some nd) ∧ depthV nds x = D
section
variable {next : Int} {nds : List Nd}
theorem kid_depth (hr : RightM next nds) {x k : Int} {nd : Nd} (hx : ndOf nds x = some nd) (hk : k ∈ nd.kids) : ∃ y, ndOf nds k = some y ∧ y.par = x ∧ depthV nds k = depthV nds x + 1 := by
  obtain ⟨i, _, hi, he⟩ := ndOf_some hx
  obtain ⟨y, hy, hp⟩ := (hr.kids (List.mem_of_getElem? hi)).1 k hk
  rw [he] at hp
  obtain ⟨j, _, hj, hje⟩ := ndOf_some hy
  have h0 : k ≠ 0 := by have := hr.rise.pos j y hj; omega
  have h1 := (show DepthIs nds y.par (depthV nds x) from by rw [hp]; exact (hr.depth hx).1).succ hy h0
  exact ⟨y, hy, hp, (hr.depth hy).1.eq h1⟩
theorem AtD.kids (hr : RightM next nds) {D : Nat} {x : Int} (h : (∃ nd, ndOf nds x = some nd) ∧ depthV nds x = D) : AtD nds (D + 1) (kidsV nds x) := by
  obtain ⟨⟨nd, hx⟩, hd⟩ := h
  rw [kidsV_of hx]
  intro k hk
  obtain ⟨y, h1, _, h2⟩ := kid_depth hr hx hk
  exact ⟨⟨y, h1⟩, by omega⟩
theorem AtD.le (hr : RightM next nds) {D : Nat} {ids : List Int} (h : AtD nds D ids) (h0 : 65 ≤ D) : ids = [] := by
  cases ids with
  | nil => rfl
  | cons x r =>
    obtain ⟨⟨nd, hx⟩, hd⟩ := h x (by simp)
    have := (hr.depth hx).2.2
    omega
theorem ok_of (hr : RightM next nds) : ∀ (f D : Nat) (ids : List Int), f + D = 65 → AtD nds D ids → OkF nds f ids
  | 0, D, ids, he, h => h.le hr (by omega)
  | f + 1, D, ids, he, h => fun x hx => ⟨(h x hx).1, ok_of hr f (D + 1) _ (by omega) (AtD.kids hr (h x hx))⟩
theorem pre_mem (hr : RightM next nds) : ∀ (f d D : Nat) (ids : List Int), AtD nds D ids → ∀ p ∈ pre nds f d ids, (∃ nd, ndOf nds p.1 = some nd) ∧ d ≤ p.2 ∧ depthV nds p.1 + d = D + p.2 ∧ upI nds p.1 (p.2 - d) ∈ ids
  | 0, d, D, ids, h, p, hp => by simp [pre] at hp
  | f + 1, d, D, ids, h, p, hp => by
    simp only [pre, List.mem_flatMap, List.mem_cons] at hp
    obtain ⟨x, hx, rfl | hp⟩ := hp
    · exact ⟨(h x hx).1, Nat.le_refl _, by have := (h x hx).2; simp only; omega, by rw [show (x, d).2 - d = 0 from by simp, upI]; exact hx⟩
    · obtain ⟨h1, h2, h3, h4⟩ := pre_mem hr f (d + 1) (D + 1) _ (AtD.kids hr (h x hx)) p hp
      refine ⟨h1, by omega, by omega, ?_⟩
      obtain ⟨nd, hnd⟩ := (h x hx).1
      rw [kidsV_of hnd] at h4
      obtain ⟨y, hy, hyp, _⟩ := kid_depth hr hnd h4
      rw [show p.2 - d = (p.2 - (d + 1)) + 1 from by omega, upI_succ hy, hyp]
      exact hx
theorem pre_nodup (hr : RightM next nds) : ∀ (f d D : Nat) (ids : List Int), ids.Nodup → AtD nds D ids → ((pre nds f d ids).map (·.1)).Nodup
  | 0, d, D, ids, _, _ => by simp [pre]
  | f + 1, d, D, [], _, _ => by rw [pre_nil]; simp
  | f + 1, d, D, x :: r, hn, h => by
    have hx := h x (by simp)
    have hrD : AtD nds D r := fun y hy => h y (by simp [hy])
    rw [pre_cons, List.map_append, List.nodup_append]
    refine ⟨?_, pre_nodup hr (f + 1) d D r (List.nodup_cons.1 hn).2 hrD, ?_⟩
    · rw [List.map_cons, List.nodup_cons]
      refine ⟨?_, ?_⟩
      · intro hm
        obtain ⟨p, hp, he⟩ := List.mem_map.1 hm
        obtain ⟨_, h2, h3, _⟩ := pre_mem hr f (d + 1) (D + 1) _ (AtD.kids hr hx) p hp
        have h4 := hx.2
        rw [he] at h3
        simp only at h3
        omega
      · obtain ⟨nd, hnd⟩ := hx.1
        refine pre_nodup hr f (d + 1) (D + 1) _ ?_ (AtD.kids hr hx)
        rw [kidsV_of hnd]
        obtain ⟨i, _, hi, _⟩ := ndOf_some hnd
        exact (hr.kids (List.mem_of_getElem? hi)).2
    · intro a ha b hb hab
      obtain ⟨p, hp, rfl⟩ := List.mem_map.1 ha
      obtain ⟨q, hq, rfl⟩ := List.mem_map.1 hb
      have hp' : p ∈ pre nds (f + 1) d [x] := by rw [pre_cons, pre_nil, List.append_nil]; exact hp
      obtain ⟨_, p2, p3, p4⟩ := pre_mem hr (f + 1) d D [x] (fun y hy => by rw [List.mem_singleton.1 hy]; exact hx) p hp'
      obtain ⟨_, q2, q3, q4⟩ := pre_mem hr (f + 1) d D r hrD q hq
      rw [← hab] at q3 q4
      have e : q.2 = p.2 := by omega
      rw [e, List.mem_singleton.1 p4] at q4
      exact (List.nodup_cons.1 hn).1 q4
termination_by f _ _ ids => (f, ids.length)
theorem pre_len (hr : RightM next nds) {f d D : Nat} {ids : List Int} (hn : ids.Nodup) (h : AtD nds D ids) : (pre nds f d ids).length ≤ nds.length := by
  have h1 := nodup_le (m := nds.map (·.id)) (pre_nodup hr f d D ids hn h) (fun x hx => by
    obtain ⟨p, hp, rfl⟩ := List.mem_map.1 hx
    obtain ⟨nd, hnd⟩ := (pre_mem hr f d D ids h p hp).1
    obtain ⟨i, _, hi, he⟩ := ndOf_some hnd
    exact List.mem_map.2 ⟨nd, List.mem_of_getElem? hi, he⟩)
  rwa [List.length_map, List.length_map] at h1
/-- the same without how deep they stand -/
def pl (nds : List Nd) : Nat → List Int → List Int
  | 0, _ => []
  | f + 1, ids => ids.flatMap fun x => x :: pl nds f (kidsV nds x)
theorem pre_pl : ∀ (f d : Nat) (ids : List Int), (pre nds f d ids).map (·.1) = pl nds f ids
  | 0, d, ids => rfl
  | f + 1, d, ids => by
    simp only [pre, pl, List.map_flatMap, List.map_cons]
    congr 1
    funext x
    rw [pre_pl f]
/-- a node and all below it, in document order -/
def preI (nds : List Nd) (x : Int) : List Int := pl nds (65 - depthV nds x) [x]
theorem pl_flat (hr : RightM next nds) : ∀ (f D : Nat) (ids : List Int), f + D = 65 → AtD nds D ids → pl nds f ids = ids.flatMap (preI nds)
  | 0, D, ids, he, h => by rw [h.le hr (by omega)]; rfl
  | f + 1, D, ids, he, h => by
    rw [pl]
    have : ∀ x ∈ ids, (x :: pl nds f (kidsV nds x)) = preI nds x := fun x hx => by
      unfold preI
      rw [(h x hx).2, show 65 - D = f + 1 from by omega]
      simp [pl]
    clear he h
    induction ids with
    | nil => rfl
    | cons y r ih =>
      rw [List.flatMap_cons, List.flatMap_cons, this y (by simp), ih fun x hx => this x (by simp [hx])]
theorem preI_eq (hr : RightM next nds) {x : Int} {nd : Nd} (hx : ndOf nds x = some nd) : preI nds x = x :: nd.kids.flatMap (preI nds) := by
  have hd := hr.depth hx
  have hk := AtD.kids hr (x := x) ⟨⟨nd, hx⟩, rfl⟩
  rw [kidsV_of hx] at hk
  rw [← pl_flat hr (64 - depthV nds x) _ nd.kids (by omega) hk]
  unfold preI
  rw [show 65 - depthV nds x = (64 - depthV nds x) + 1 from by omega]
  simp [pl, kidsV_of hx]
/-- the roots -/
def rootsV (nds : List Nd) : List Int := (nds.filter (fun nd => nd.par == 0)).map (·.id)
theorem roots_at (hr : RightM next nds) : AtD nds 1 (rootsV nds) := by
  intro x hx
  obtain ⟨nd, hnd, rfl⟩ := List.mem_map.1 hx
  obtain ⟨h1, h2⟩ := List.mem_filter.1 hnd
  obtain ⟨i, hi⟩ := List.getElem?_of_mem h1
  have hnd := ndOf_is hr.rise hi
  have h0 : nd.id ≠ 0 := by have := hr.rise.pos i nd hi; omega
  have h3 := (show DepthIs nds nd.par 0 from by rw [show nd.par = 0 from by simpa using h2]; exact depth_zero nds).succ hnd h0
  exact ⟨⟨nd, hnd⟩, (hr.depth hnd).1.eq h3⟩
theorem ids_nodup (hr : Rise nds) : (nds.map (·.id)).Nodup := by
  rw [List.nodup_iff_pairwise_ne, List.pairwise_iff_getElem]
  intro i j hi hj hij e
  rw [List.getElem_map, List.getElem_map] at e
  rw [List.length_map] at hi hj
  have := hr.inj (List.getElem?_eq_getElem hi) (List.getElem?_eq_getElem hj) e
  omega
theorem roots_nodup (hr : Rise nds) : (rootsV nds).Nodup := by
  unfold rootsV
  exact List.Sublist.nodup (List.Sublist.map _ List.filter_sublist) (ids_nodup hr)
/-- document order -/
def orderV (nds : List Nd) : List Int := (rootsV nds).flatMap (preI nds)
theorem order_pre (hr : RightM next nds) : (pre nds 64 1 (rootsV nds)).map (·.1) = orderV nds := by
  rw [pre_pl, pl_flat hr 64 1 _ (by omega) (roots_at hr)]
  rfl
end
end Go.Proofs.YtjjlofaejpnnnaaGreatDoor
namespace Go.Proofs.YtjjlofaejpnnnaaGreatDoor
open Go Go.RowKit
set_option linter.unusedVariables false
def bl (k : Nat) : List UInt8 := List.replicate k 32
theorem bl_len (k : Nat) : (bl k).length = k := List.length_replicate
theorem bl_succ (k : Nat) : bl (k + 1) = bl k ++ [32] := List.replicate_succ'
/-- the lines of a node that stands so deep -/
def lineN (nd : Nd) (deep : Nat) : List UInt8 := bl (deep - 1) ++ (Lib.itoa nd.id ++ 32 :: ((if nd.par = 0 then [] else nd.role.data.toList ++ [32]) ++ nd.con.data.toList)) ++ [10]
def lineP (p : ByteArray × ByteArray) (deep : Nat) : List UInt8 := bl deep ++ (46 :: (p.1.data.toList ++ 61 :: quote p.2.data.toList)) ++ [10]
def lineR (r : ByteArray × Int) (deep : Nat) : List UInt8 := bl deep ++ (62 :: (r.1.data.toList ++ 61 :: Lib.itoa r.2)) ++ [10]
def nodeL (nd : Nd) (deep : Nat) : List (List UInt8) := lineN nd deep :: (nd.props.map (lineP · deep) ++ nd.refs.map (lineR · deep))
def headL (next : Int) : List UInt8 := [110, 101, 120, 116, 32] ++ Lib.itoa next ++ [10]
/-- a line more, unless the page is too long already -/
def pageA (L ln : List UInt8) : List UInt8 := if 1048576 < L.length then L else L ++ ln
def pageV (L : List UInt8) (ls : List (List UInt8)) : List UInt8 := ls.foldl pageA L
theorem pageV_nil (L : List UInt8) : pageV L [] = L := rfl
theorem pageV_cons (L l : List UInt8) (ls : List (List UInt8)) : pageV L (l :: ls) = pageV (pageA L l) ls := rfl
theorem pageV_append (L : List UInt8) (a b : List (List UInt8)) : pageV L (a ++ b) = pageV (pageV L a) b := List.foldl_append
theorem pageV_stuck : ∀ (ls : List (List UInt8)) (L : List UInt8), 1048576 < L.length → pageV L ls = L
  | [], _, _ => rfl
  | l :: ls, L, h => by rw [pageV_cons, show pageA L l = L from by unfold pageA; rw [if_pos h]]; exact pageV_stuck ls L h
theorem pageV_short : ∀ (ls : List (List UInt8)) (L : List UInt8), (L ++ ls.flatten).length ≤ 1048576 → pageV L ls = L ++ ls.flatten
  | [], L, _ => by simp [pageV_nil]
  | l :: ls, L, h => by
    rw [List.flatten_cons, ← List.append_assoc] at h
    have h1 : ¬ 1048576 < L.length := by simp only [List.length_append] at h; omega
    rw [pageV_cons, show pageA L l = L ++ l from by unfold pageA; rw [if_neg h1], pageV_short ls _ h, List.flatten_cons, List.append_assoc]
theorem pageV_long : ∀ (ls : List (List UInt8)) (L : List UInt8), 1048576 < (L ++ ls.flatten).length → 1048576 < (pageV L ls).length
  | [], L, h => by simpa [pageV_nil] using h
  | l :: ls, L, h => by
    rw [pageV_cons]
    by_cases h1 : 1048576 < L.length
    · rw [show pageA L l = L from by unfold pageA; rw [if_pos h1], pageV_stuck ls L h1]; exact h1
    · rw [show pageA L l = L ++ l from by unfold pageA; rw [if_neg h1]]
      rw [List.flatten_cons, ← List.append_assoc] at h
      exact pageV_long ls _ h
/-- what is told of a text: it, or that it is too long -/
def toldV (T : List UInt8) : List UInt8 × Int := if 1048576 < T.length then ([], 3) else (T, 0)
theorem toldV_page (L : List UInt8) (ls : List (List UInt8)) : (if 1048576 < (pageV L ls).length then ([], 3) else (pageV L ls, 0)) = toldV (L ++ ls.flatten) := by
  unfold toldV
  by_cases h : 1048576 < (L ++ ls.flatten).length
  · rw [if_pos h, if_pos (pageV_long ls L h)]
  · rw [if_neg h, pageV_short ls L (by omega), if_neg h]
/-- a model's text, and the error -/
def nodeT (nds : List Nd) (p : Int × Nat) : List (List UInt8) := match ndOf nds p.1 with
  | some nd => nodeL nd p.2
  | none => []
def printV (next : Int) (nds : List Nd) : List UInt8 × Int :=
  if rightB next nds = true then toldV ((headL next :: (pre nds 64 1 (rootsV nds)).flatMap (nodeT nds)).flatten) else ([], 29)
end Go.Proofs.YtjjlofaejpnnnaaGreatDoor
namespace Go.Proofs.YtjjlofaejpnnnaaGreatDoor
open Go Go.RowKit
set_option linter.unusedVariables false
/-- what has been read: the next number (0 ahead of the first line), the nodes in the order in which they are told, how deep each stands -/
structure RS where
  next : Int
  nds : List Nd
  deep : List Nat
/-- the longest row of bytes of a word -/
def wordP (l : List UInt8) : List UInt8 := l.takeWhile fun c => c != 32 && c != 61
/-- a number's text from 1 to one less than a bound -/
def numberV (l : List UInt8) (bound : Int) : Option Int := match intT l with
  | some n => if 1 ≤ n ∧ n < bound then some n else none
  | none => none
def bytesOf (l : List UInt8) : ByteArray := ⟨l.toArray⟩
/-- behind a blank: a word, and what is left -/
def wordV : List UInt8 → Option (List UInt8 × List UInt8)
  | c :: t => if c = 32 ∧ wordL (wordP t) = true then some (wordP t, t.drop (wordP t).length) else none
  | [] => none
/-- the last node turned -/
def lastV (st : RS) (nd : Nd) : RS := ⟨st.next, st.nds.dropLast ++ [nd], st.deep⟩
def hasV (st : RS) (nd : Nd) (name v : List UInt8) : Option RS :=
  let r := unq (bytesOf v) 0
  if r.2.2 = 0 ∧ r.2.1 = (v.length : Int) ∧ r.1.length ≤ 4096 ∧ nd.refs = [] ∧ (∀ p ∈ nd.props.getLast?, p.1.data.toList < name) then
    some (lastV st { nd with props := nd.props ++ [(bytesOf name, bytesOf r.1)] })
  else none
def refersV (st : RS) (nd : Nd) (role v : List UInt8) : Option RS := match numberV v st.next with
  | some n => if ∀ p ∈ nd.refs.getLast?, p.1.data.toList < role then some (lastV st { nd with refs := nd.refs ++ [(bytesOf role, n)] }) else none
  | none => none
/-- the last node that stands so deep -/
def upV (st : RS) (d : Nat) : Option (Nat × Nd) := ((List.range st.nds.length).reverse.find? fun i => st.deep.getD i 0 == d).bind fun i => (st.nds[i]?).map fun nd => (i, nd)
/-- a node more, with so many blanks ahead -/
def standsV (st : RS) (n : Nd) (d : Nat) : Option RS :=
  if 4096 ≤ st.nds.length ∨ 64 ≤ d ∨ (0 < d ∧ st.deep.getLastD 0 < d) ∨ st.nds.any (·.id == n.id) = true then none
  else if d = 0 then
    (match upV st 1 with
     | some r => if n.id ≤ r.2.id then none else some ⟨st.next, st.nds ++ [n], st.deep ++ [1]⟩
     | none => if n.id ≤ 0 then none else some ⟨st.next, st.nds ++ [n], st.deep ++ [1]⟩)
  else match upV st d with
    | some u => some ⟨st.next, st.nds.set u.1 { u.2 with kids := u.2.kids ++ [n.id] } ++ [{ n with par := u.2.id }], st.deep ++ [d + 1]⟩
    | none => none
def nodeV (st : RS) (d : Nat) (id : Int) (u : List UInt8) : Option RS :=
  (if d = 0 then some ([], u) else wordV u).bind fun r => (wordV r.2).bind fun q =>
    if q.2 = [] then standsV st ⟨id, bytesOf q.1, 0, bytesOf r.1, [], [], []⟩ d else none
def takesV (st : RS) (s : List UInt8) : Option RS :=
  if st.next = 0 then
    (if 5 < s.length ∧ s.take 5 = [110, 101, 120, 116, 32] then (numberV (s.drop 5) 1048578).map fun n => ⟨n, [], []⟩ else none)
  else
    let d := (s.takeWhile (· == 32)).length
    match s.drop d with
    | [] => none
    | c :: t =>
      if c = 46 ∨ c = 62 then
        match st.nds.getLast?, t.drop (wordP t).length with
        | some nd, e :: v => if d = st.deep.getLastD 0 ∧ e = 61 ∧ wordL (wordP t) = true then (if c = 62 then refersV st nd (wordP t) v else hasV st nd (wordP t) v) else none
        | _, _ => none
      else (numberV (wordP (c :: t)) st.next).bind fun id => nodeV st d id ((c :: t).drop (wordP (c :: t)).length)
/-- the lines from here on: what has been read of them all, or how many lines were read when one was refused -/
def linesV : Nat → RS → Nat → List UInt8 → RS ⊕ Nat
  | 0, _, k, _ => .inr (k + 1)
  | f + 1, st, k, l =>
    match takesV st (l.takeWhile (· != 10)), l.drop (l.takeWhile (· != 10)).length with
    | some st', _ :: rest => if rest = [] then .inl st' else linesV f st' (k + 1) rest
    | _, _ => .inr (k + 1)
/-- a node goes among those with greater numbers -/
def byId (n : Nd) : List Nd → List Nd
  | [] => [n]
  | x :: l => if n.id < x.id then n :: x :: l else x :: byId n l
/-- what the text is: the model, or the line at which it is refused, and the error -/
def parseV (l : List UInt8) : (Int × List Nd) × Int × Int :=
  if 1048576 < l.length then ((0, []), 0, 3) else
  match linesV (l.length + 1) ⟨0, [], []⟩ 0 l with
  | .inl st => ((st.next, st.nds.foldr byId []), 0, 0)
  | .inr k => ((0, []), (k : Int), 30)
end Go.Proofs.YtjjlofaejpnnnaaGreatDoor
namespace Go.Proofs.YtjjlofaejpnnnaaGreatDoor
open Go Go.RowKit
set_option linter.unusedVariables false
/-- the last place at which d stands -/
def lastIx (l : List Nat) (d : Nat) : Option Nat := (List.range l.length).reverse.find? fun i => l.getD i 0 == d
theorem lastIx_snoc_eq (l : List Nat) (d : Nat) : lastIx (l ++ [d]) d = some l.length := by
  unfold lastIx
  rw [List.length_append, List.length_singleton, List.range_succ, List.reverse_append]
  simp
theorem find_congr {α : Type} {p q : α → Bool} : ∀ {l : List α}, (∀ x ∈ l, p x = q x) → l.find? p = l.find? q
  | [], _ => rfl
  | x :: l, h => by
    rw [List.find?_cons, List.find?_cons, h x (by simp), find_congr fun y hy => h y (by simp [hy])]
theorem lastIx_snoc_ne (l : List Nat) {x d : Nat} (h : x ≠ d) : lastIx (l ++ [x]) d = lastIx l d := by
  unfold lastIx
  rw [List.length_append, List.length_singleton, List.range_succ, List.reverse_append]
  have e : (l ++ [x]).getD l.length 0 = x := by simp
  simp only [List.reverse_singleton, List.singleton_append, List.find?_cons, e]
  have hx : (x == d) = false := by simpa using h
  rw [hx]
  refine find_congr fun i hi => ?_
  have hil : i < l.length := by simpa using hi
  rw [List.getD_eq_getElem?_getD, List.getD_eq_getElem?_getD, List.getElem?_append_left hil]
theorem lastIx_some {l : List Nat} {d i : Nat} (h : lastIx l d = some i) : i < l.length ∧ l.getD i 0 = d := by
  unfold lastIx at h
  have h1 := List.mem_of_find?_eq_some h
  have h2 := List.find?_some h
  exact ⟨by simpa using h1, by simpa using h2⟩
/-- the way from the last root down to the last node: their places -/
def wayV (deep : List Nat) : List Nat := (List.range (deep.getLastD 0)).map fun j => (lastIx deep (j + 1)).getD 0
theorem wayV_len (deep : List Nat) : (wayV deep).length = deep.getLastD 0 := by unfold wayV; simp
theorem wayV_at {deep : List Nat} {d : Nat} (h1 : 0 < d) (h : d ≤ deep.getLastD 0) : (wayV deep)[d - 1]? = some ((lastIx deep d).getD 0) := by
  unfold wayV
  rw [List.getElem?_map, List.getElem?_range (by omega)]
  simp only [Option.map_some]
  rw [show d - 1 + 1 = d from by omega]
/-- a node more, behind d blanks -/
theorem wayV_snoc {deep : List Nat} {d : Nat} (h : d ≤ deep.getLastD 0) : wayV (deep ++ [d + 1]) = (wayV deep).take d ++ [deep.length] := by
  unfold wayV
  have e : (deep ++ [d + 1]).getLastD 0 = d + 1 := by simp [List.getLastD_eq_getLast?]
  rw [e, List.range_succ, List.map_append, List.map_singleton, lastIx_snoc_eq, Option.getD_some, ← List.map_take, List.take_range, Nat.min_eq_left h]
  congr 1
  refine List.map_congr_left fun j hj => ?_
  have hj' : j < d := by simpa using hj
  rw [lastIx_snoc_ne deep (by omega)]
/-- so deep may they stand -/
structure DeepOk (deep : List Nat) : Prop where
  pos : ∀ x ∈ deep, 1 ≤ x ∧ x ≤ 64
  way : ∀ d, 1 ≤ d → d ≤ deep.getLastD 0 → ∃ i, lastIx deep d = some i
theorem deepOk_nil : DeepOk [] := ⟨by simp, fun d h1 h2 => by simp at h2; omega⟩
theorem DeepOk.snoc {deep : List Nat} {d : Nat} (h : DeepOk deep) (hd : d ≤ deep.getLastD 0) (h64 : d < 64) : DeepOk (deep ++ [d + 1]) := by
  refine ⟨fun x hx => ?_, fun k h1 h2 => ?_⟩
  · rcases List.mem_append.1 hx with hx | hx
    · exact h.pos x hx
    · obtain rfl : x = d + 1 := by simpa using hx
      omega
  · have e : (deep ++ [d + 1]).getLastD 0 = d + 1 := by simp [List.getLastD_eq_getLast?]
    rw [e] at h2
    by_cases hk : k = d + 1
    · subst hk; exact ⟨_, lastIx_snoc_eq _ _⟩
    · rw [lastIx_snoc_ne deep (fun e => hk e.symm)]
      exact h.way k h1 (by omega)
theorem upV_is {st : RS} {d : Nat} (hl : st.deep.length = st.nds.length) : upV st d = (lastIx st.deep d).bind fun i => (st.nds[i]?).map fun nd => (i, nd) := by
  unfold upV lastIx
  rw [hl]
end Go.Proofs.YtjjlofaejpnnnaaGreatDoor

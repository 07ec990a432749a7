/-
  WALKS: Check of the program.
  WALKS: index, has of the document; the words for its plain.
  WALKS: plain of the document.
  WALKS: below of the document.
-/
import Derived.Test.YteccblmdfjbljaaZ3
import Derived.Deep.DeepMust
namespace Go.Proofs.Yteccblmdfjbljaa
open Go Go.RowKit Go.Sort
set_option linter.unusedVariables false
def checkV (next : Int) (nds : List Nd) : Int := if rightB next nds then 0 else 29
theorem check_no {next : Int} {nds : List Nd} (h : checkB next nds = false) : checkV next nds = 29 := by unfold checkV; rw [← checkB_eq, h]; rfl
theorem check_yes {next : Int} {nds : List Nd} (h : checkB next nds = true) : checkV next nds = 0 := by unfold checkV; rw [← checkB_eq, h]; rfl
theorem numB_facts {next : Int} {nds : List Nd} (h : numB next nds = true) : Rise nds ∧ nds.length ≤ 4096 ∧ 1 ≤ next ∧ next ≤ 1048577 := by
  unfold numB headB at h
  simp only [Bool.and_eq_true, decide_eq_true_eq] at h
  exact ⟨Rise.of h.2, h.1.2, h.1.1.1, h.1.1.2⟩
set_option maxHeartbeats 1600000 in
theorem check_any (w : World) (hi : Nat) (next : Int) (A : Option Addr) (n c : Nat) (nds : List Nd) (h : NodesIn w 0 hi A n c nds) (hh : hi ≤ w.heap.size) :
    Calls Try.prog 37 #[.agg #[.int .i64 next, .slice A n c]] w (Ret w (.int .i64 (checkV next nds))) := by
  have hbx := below_box w (mdObj next A n c)
  unfold mdObj at hbx
  have HB := Lib.hid hbx
  have HC : Hid (checkB next nds = (numB next nds && nds.all (speltB next) && (match joinS nds with | none => false | some a => rootedB a))) := Lib.hid rfl
  have HNu := Lib.hid (numbered_any (w.alloc (.cells #[.int .i64 next, .slice A n c] 24)) hi next A n c nds (h.below (hbx.mono hh)) (by simp; omega))
  have HSp : Hid (∀ w2, Below (w.alloc (.cells #[.int .i64 next, .slice A n c] 24)).heap.size (w.alloc (.cells #[.int .i64 next, .slice A n c] 24)) w2 → Calls Try.prog 99 #[.agg #[.int .i64 next, .slice A n c]] w2 (Ret w2 (.bool (nds.all (speltB next))))) := Lib.hid (fun w2 hb2 =>
    spelt_any w2 hi next A n c nds ((h.below (hbx.mono hh)).below (hb2.mono (by simp; omega))) (by have := hb2.size; simp at this; omega))
  have HJo : Hid (Rise nds → n ≤ 4096 → ∀ w2, Below (w.alloc (.cells #[.int .i64 next, .slice A n c] 24)).heap.size (w.alloc (.cells #[.int .i64 next, .slice A n c] 24)) w2 → Calls Try.prog 100 #[.agg #[.int .i64 next, .slice A n c]] w2 (Joined w2 n (joinS nds))) := Lib.hid (fun hr hn w2 hb2 =>
    joined_any w2 hi next A n c nds ((h.below (hbx.mono hh)).below (hb2.mono (by simp; omega))) (by have := hb2.size; simp at this; omega) hr hn)
  have HL := Lib.hid h.1
  clear hbx
  cases h1 : numB next nds with
  | false =>
    have HX : Hid (checkV next nds = 29) := Lib.hid (check_no (by rw [HC.out, h1]; rfl))
    rw [h1] at HNu
    clear h1 h
    go_enter Try.func37, Try.ntmps37
    go_wp2_with (go_at_call 98; refine HNu.out.mono ?_; rintro e w2 ⟨rfl, hb2⟩; obtain ⟨q1, q2⟩ := bcell hb2)
    go_ret
    exact ret_i HX.out rfl (HB.out.trans (hb2.mono (by simp)))
  | true =>
    obtain ⟨hr, hn, _, _⟩ := numB_facts h1
    rw [HL.out] at hn
    rw [h1] at HNu
    cases h2 : nds.all (speltB next) with
    | false =>
      have HX : Hid (checkV next nds = 29) := Lib.hid (check_no (by rw [HC.out, h2]; simp))
      rw [h2] at HSp
      clear h1 h2 h hr
      go_enter Try.func37, Try.ntmps37
      go_wp2_with (first | (go_at_call 98; refine HNu.out.mono ?_; rintro e w2 ⟨rfl, hb2⟩; obtain ⟨q1, q2⟩ := bcell hb2; have HB2 := Lib.hid hb2; have hz2 : w.heap.size < w2.heap.size := Nat.lt_of_lt_of_le (by simp) hb2.size; clear hb2) | (go_at_call 99; go_must (refine (HSp.out w2 HB2.out).mono ?_; rintro e w3 ⟨rfl, hb3⟩; have HB3 := Lib.hid hb3; clear hb3)))
      go_ret
      exact ret_i HX.out rfl (HB.out.trans ((HB2.out.mono (by simp)).trans (HB3.out.mono (by omega))))
    | true =>
      rw [h2] at HSp
      have hJo := HJo.out hr hn
      cases h3 : joinS nds with
      | none =>
        have HX : Hid (checkV next nds = 29) := Lib.hid (check_no (by rw [HC.out, h3]; simp))
        rw [h3] at hJo
        have HJ := Lib.hid hJo
        clear h1 h2 h3 h hr hJo HJo
        go_enter Try.func37, Try.ntmps37
        go_wp2_with (first | (go_at_call 98; refine HNu.out.mono ?_; rintro e w2 ⟨rfl, hb2⟩; obtain ⟨q1, q2⟩ := bcell hb2; have HB2 := Lib.hid hb2; have hz2 : w.heap.size < w2.heap.size := Nat.lt_of_lt_of_le (by simp) hb2.size; clear hb2) | (go_at_call 99; go_must (refine (HSp.out w2 HB2.out).mono ?_; rintro e w3 ⟨rfl, hb3⟩; obtain ⟨r1, r2⟩ := bcell hb3; have HB3 := Lib.hid (HB2.out.trans (hb3.mono (by simp; omega))); have hz3 := hb3.size; clear hb3)) | (go_at_call 100; refine (HJ.out w3 HB3.out).mono ?_; rintro e w4 ⟨hb4, rfl⟩; have HB4 := Lib.hid hb4; clear hb4))
        go_ret
        exact ret_i HX.out rfl (HB.out.trans ((HB3.out.mono (by simp)).trans (HB4.out.mono (by omega))))
      | some a =>
        rw [h3] at hJo
        have HJ := Lib.hid hJo
        have J := join_of hr h3
        have hav : ∀ j, j < n → -1 ≤ a.getD j (-1) ∧ a.getD j (-1) < n := by
          intro j hj
          have hjl : j < a.length := by rw [J.len, HL.out]; exact hj
          have e : a.getD j (-1) = a.getD j 0 := by rw [List.getD_eq_getElem?_getD, List.getD_eq_getElem?_getD, List.getElem?_eq_getElem hjl]; rfl
          rw [e]
          by_cases hx : a.getD j 0 = -1
          · omega
          · obtain ⟨i, p, h1, _, h2, _⟩ := J.from_ j (nds[j]'(by rw [HL.out]; exact hj)) (List.getElem?_eq_getElem _) hx
            have := (List.getElem?_eq_some_iff.1 h1).1
            rw [HL.out] at this
            omega
        have HAV := Lib.hid hav
        have HR : Hid (∀ (w4 : World) (g : Nat), IBlk w4 g a → a.length = n → Calls Try.prog 101 #[.slice (some ⟨g, 0, none⟩) n n] w4 (Ret w4 (.bool (rootedB a)))) := Lib.hid (fun w4 g hg hl => rooted_any w4 w4.heap.size (some ⟨g, 0, none⟩) n n a (hg.row hl (Nat.le_refl _) (by unfold maxLen; omega) (Nat.zero_le _) hg.lt) (Nat.le_refl _) hn hl HAV.out)
        obtain ⟨x, hx⟩ : ∃ x, rootedB a = x := ⟨_, rfl⟩
        rw [hx] at HR
        have HX : Hid (checkV next nds = if x then 0 else 29) := Lib.hid (by
          cases x with
          | false => exact check_no (by rw [HC.out, h3]; simp [hx])
          | true => exact check_yes (by rw [HC.out, h1, h2, h3]; simp [hx]))
        clear h1 h2 h3 h hr hJo HJo hav J hx
        cases x
        all_goals
          go_enter Try.func37, Try.ntmps37
          go_wp2_with (first | (go_at_call 98; refine HNu.out.mono ?_; rintro e w2 ⟨rfl, hb2⟩; obtain ⟨q1, q2⟩ := bcell hb2; have HB2 := Lib.hid hb2; have hz2 : w.heap.size < w2.heap.size := Nat.lt_of_lt_of_le (by simp) hb2.size; clear hb2) | (go_at_call 99; go_must (refine (HSp.out w2 HB2.out).mono ?_; rintro e w3 ⟨rfl, hb3⟩; obtain ⟨r1, r2⟩ := bcell hb3; have HB3 := Lib.hid (HB2.out.trans (hb3.mono (by simp; omega))); have hz3 := hb3.size; clear hb3)) | (go_at_call 100; refine (HJ.out w3 HB3.out).mono ?_; rintro e w4 ⟨hb4, g, rfl, hg, hl, _⟩; have HB4 := Lib.hid hb4; have HG := Lib.hid hg; have HLL := Lib.hid hl; have hz4 := hb4.size; clear hb4 hg hl) | (go_at_call 101; refine (HR.out w4 g HG.out HLL.out).mono ?_; rintro e w5 ⟨rfl, hb5⟩; have HB5 := Lib.hid hb5; clear hb5))
          go_ret
          exact ret_i HX.out rfl (HB.out.trans ((HB3.out.mono (by simp)).trans ((HB4.out.mono (by omega)).trans (HB5.out.mono (by omega)))))
end Go.Proofs.Yteccblmdfjbljaa
namespace Go.Proofs.Yteccblmdfjbljaa
open Go Go.RowKit Go.Sort
set_option linter.unusedVariables false
def idxV (l : List Int) (x : Int) : Int := match l.findIdx? (· == x) with | some i => (i : Int) | none => -1
theorem idxV_at {l : List Int} {x : Int} {k : Nat} (h1 : ∀ (i : Nat) y, i < k → l[i]? = some y → y ≠ x) (h2 : l[k]? = some x) : idxV l x = k := by
  unfold idxV
  have : l.findIdx? (· == x) = some k := by
    rw [List.findIdx?_eq_some_iff_getElem]
    obtain ⟨hl, e⟩ := List.getElem?_eq_some_iff.1 h2
    refine ⟨hl, by simp [e], fun j hj => ?_⟩
    have := h1 j _ hj (List.getElem?_eq_getElem (by omega))
    simpa using this
  rw [this]
theorem idxV_no {l : List Int} {x : Int} (h1 : ∀ (i : Nat) y, l[i]? = some y → y ≠ x) : idxV l x = -1 := by
  unfold idxV
  have : l.findIdx? (· == x) = none := by
    rw [List.findIdx?_eq_none_iff]
    intro y hy
    obtain ⟨i, hi⟩ := List.getElem?_of_mem hy
    simpa using h1 i y hi
  rw [this]
theorem idxV_ge (l : List Int) (x : Int) : decide (0 ≤ idxV l x) = l.contains x := by
  unfold idxV
  cases h : l.findIdx? (· == x) with
  | some i =>
    obtain ⟨hl, hp, _⟩ := List.findIdx?_eq_some_iff_getElem.1 h
    have : x ∈ l := by have := List.getElem_mem hl; rw [show l[i] = x from by simpa using hp] at this; exact this
    simp [this]
  | none =>
    have := List.findIdx?_eq_none_iff.1 h
    have : x ∉ l := fun hm => by have := this x hm; simp at this
    simp [this]
set_option maxHeartbeats 800000 in
theorem refIndex_any (w : World) (lo hi : Nat) (A : Option Addr) (n c : Nat) (l : List Int) (x : Int) (h : Row w lo hi 1 A n c (intCells l)) :
    Calls Try.prog 59 #[.slice A n c, .int .i64 x] w fun e w' => e = .returned (.int .i64 (idxV l x)) ∧ w = w' := by
  have hc := h.2.2.1
  have hnc := h.2.1
  have hl : l.length = n := by have := h.1; rw [intCells_length] at this; omega
  have HL := Lib.hid hl
  unfold maxLen at hc
  clear hl
  go_enter Try.func59, Try.ntmps59
  go_wp2_with fail
  go_loop [5] (fun i => ∃ k : Nat, k ≤ n ∧ i = .int .i64 k ∧ Hid (∀ (i : Nat) y, i < k → l[i]? = some y → y ≠ x)) (fun i => n - (intOf i).toNat)
  case atStart => exact ⟨0, by omega, rfl, Lib.hid (fun i y hi => absurd hi (by omega))⟩
  case round =>
    obtain ⟨k, hk, rfl, HK⟩ := hrel
    by_cases hlt : k < n
    · obtain ⟨b, o, rfl, _, hb, hcells⟩ := h.at_ (by omega)
      obtain ⟨y, hy⟩ : ∃ y, l[k]? = some y := ⟨l[k]'(by have := HL.out; omega), List.getElem?_eq_getElem _⟩
      have hck := hcells k _ (intCells_get hy)
      by_cases e : y = x
      · have d1 : (y == x) = true := by rw [beq_iff_eq]; exact e
        have HX : Hid (idxV l x = k) := Lib.hid (idxV_at HK.out (by rw [hy, e]))
        clear e hy hcells
        go_wp2_with fail
        go_ret
        exact ⟨ret_int HX.out.symm, rfl⟩
      · have d1 : (y == x) = false := by rw [beq_eq_false_iff_ne]; exact e
        have HX : Hid (∀ (i : Nat) y, i < k + 1 → l[i]? = some y → y ≠ x) := Lib.hid (fun i z hi hz => by
          by_cases g : i = k
          · subst g; rw [hy] at hz; injection hz with hz; rw [← hz]; exact e
          · exact HK.out i z (by omega) hz)
        clear e hy hcells
        go_wp2_with fail
        go_round
        case rel => exact ⟨k + 1, by omega, by go_num, HX⟩
        case measure => simp [intOf]; omega
    · have HX : Hid (idxV l x = -1) := Lib.hid (idxV_no (fun i y hi => HK.out i y (by have := (List.getElem?_eq_some_iff.1 hi).1; have := HL.out; omega) hi))
      go_wp2_with fail
      go_ret
      exact ⟨ret_int HX.out.symm, rfl⟩
set_option maxHeartbeats 400000 in
theorem refHas_any (w : World) (lo hi : Nat) (A : Option Addr) (n c : Nat) (l : List Int) (x : Int) (h : Row w lo hi 1 A n c (intCells l)) :
    Calls Try.prog 50 #[.slice A n c, .int .i64 x] w (Says w (l.contains x)) := by
  have HI := Lib.hid (refIndex_any w lo hi A n c l x h)
  have HX := Lib.hid (idxV_ge l x)
  clear h
  go_enter Try.func50, Try.ntmps50
  go_wp2_with (go_at_call 59; refine HI.out.mono ?_; rintro e w' ⟨rfl, rfl⟩)
  go_ret
  exact ⟨ret_bool HX.out, rfl⟩
/-- a block of yes and no -/
def BBlk (w : World) (g : Nat) (a : List Bool) : Prop := Blk w g 4 (a.map Value.bool).toArray
section
variable {w w' : World} {g : Nat} {a : List Bool}
theorem BBlk.cell (h : BBlk w g a) {i : Nat} (hi : i < a.length) : w.cell? ⟨g, i, none⟩ = some (.bool (a.getD i false)) := by
  rw [Blk.cell h]
  simp [hi]
theorem BBlk.set_ (h : BBlk w g a) (i : Nat) (x : Bool) : BBlk (w.setCell ⟨g, i, none⟩ (.bool x)) g (a.set i x) := by
  have := Blk.set_ h i (.bool x)
  unfold BBlk
  have e : ((a.set i x).map Value.bool).toArray = (a.map Value.bool).toArray.setIfInBounds i (.bool x) := by simp [List.map_set]
  rw [e]; exact this
end
theorem boolInfo : (Try.prog.info? 4).map (fun i => (i.zero, i.size, i.bytes)) = some (some (.bool false), 1, 1) := by kernel_rfl
theorem made_bools (n : Nat) : madeCells #[.bool false] n = ((List.replicate n false).map Value.bool).toArray := by
  apply Array.ext_getElem?
  intro i
  by_cases hi : i < n
  · simp [madeCells, hi, Nat.mod_one]
  · simp [madeCells, hi]
def noB (n : Nat) : Array Value := ((List.replicate n false).map Value.bool).toArray
theorem BBlk.start (w : World) (n : Nat) : BBlk (w.alloc (.cells (noB n) 4)) w.heap.size (List.replicate n false) := Blk.new _ _ _
theorem make_bools (n : Nat) (hn : n ≤ 281474976710656) (w : World) :
    (Instr.makeSlice 109 (.int .i64 (n : Int)) (.int .i64 (n : Int))).run Try.prog w = .ok (.slice (some ⟨w.heap.size, 0, none⟩) n n) (w.alloc (.cells (noB n) 4)) := by
  unfold noB
  rw [← made_bools]
  exact run_make_row' (P := Try.prog) 109 4 (.bool false) 1 Try.underlying109 boolInfo rfl .i64 .i64 n (by omega) (by omega) w
/-- the kids that were met so far are marked -/
def MetOk (nds : List Nd) (n : Nat) (seen : List Int) (mt : List Bool) : Prop := mt.length = n ∧ ∀ k j, ixOf nds k = some j → mt.getD j false = seen.contains k
theorem MetOk.start (nds : List Nd) (n : Nat) : MetOk nds n [] (List.replicate n false) := ⟨by simp, fun k j h => by
  rw [List.getD_eq_getElem?_getD, List.getElem?_replicate]; split <;> simp⟩
theorem MetOk.step {nds : List Nd} {n : Nat} {seen : List Int} {mt : List Bool} (h : MetOk nds n seen mt) {k : Int} {j : Nat} (hj : ixOf nds k = some j) (hn : j < n) : MetOk nds n (k :: seen) (mt.set j true) := by
  refine ⟨by rw [List.length_set]; exact h.1, fun k' j' hj' => ?_⟩
  rw [List.getD_eq_getElem?_getD, List.getElem?_set]
  by_cases e : j = j'
  · subst e
    obtain rfl := ixOf_inj hj hj'
    simp [h.1, hn]
  · rw [if_neg e, ← List.getD_eq_getElem?_getD, h.2 k' j' hj']
    have : k' ≠ k := by rintro rfl; rw [hj] at hj'; injection hj' with hj'; exact e hj'
    simp [this]
/-- the boxes of the document's plain, below: the model, the node -/
structure PW (w : World) (next : Int) (A : Option Addr) (n c : Nat) (nd : Nd) (L : Leaf) (wr : World) : Prop where
  md : Blk wr w.heap.size 24 #[.int .i64 next, .slice A n c]
  nb : Blk wr (w.heap.size + 1) 81 #[.int .i64 nd.id, .string nd.con, .int .i64 nd.par, .string nd.role, .slice L.p.A L.p.n L.p.c, .slice L.k.A L.k.n L.k.c, .slice L.r.A L.r.n L.r.c]
  bel : Below w.heap.size w wr
section
variable {w wr w' : World} {next : Int} {A : Option Addr} {n c : Nat} {nd : Nd} {L : Leaf}
theorem PW.start (w : World) (next : Int) (A : Option Addr) (n c : Nat) (nd : Nd) (L : Leaf) : PW w next A n c nd L ((w.alloc (.cells #[.int .i64 next, .slice A n c] 24)).alloc (.cells #[.int .i64 nd.id, .string nd.con, .int .i64 nd.par, .string nd.role, .slice L.p.A L.p.n L.p.c, .slice L.k.A L.k.n L.k.c, .slice L.r.A L.r.n L.r.c] 81)) :=
  ⟨(Blk.new _ _ _).alloc _, Blk.new' (by simp), (below_box _ _).alloc (by simp) _⟩
theorem PW.after (h : PW w next A n c nd L wr) (hb : Below wr.heap.size wr w') : PW w next A n c nd L w' := ⟨h.md.after hb, h.nb.after hb, h.bel.trans (hb.mono h.bel.size)⟩
theorem PW.drewN (h : PW w next A n c nd L wr) (q : Nat) : PW w next A n c nd L (wr.drewN q) := ⟨h.md, h.nb, below_drewN h.bel q⟩
theorem PW.size (h : PW w next A n c nd L wr) : w.heap.size + 1 < wr.heap.size := h.nb.lt
end
end Go.Proofs.Yteccblmdfjbljaa
namespace Go.Proofs.Yteccblmdfjbljaa
open Go Go.RowKit Go.Sort
set_option linter.unusedVariables false
theorem PW.far {w wr : World} {next : Int} {A : Option Addr} {n c : Nat} {nd : Nd} {L : Leaf} (h : PW w next A n c nd L wr) {g : Nat} (hg : w.heap.size + 1 < g) (i : Nat) (u : Value) : PW w next A n c nd L (wr.setCell ⟨g, i, none⟩ u) :=
  ⟨h.md.far (p := ⟨g, i, none⟩) (by show _ ≠ g; omega) u, h.nb.far (p := ⟨g, i, none⟩) (by show _ ≠ g; omega) u, Below.setCell' h.bel (by omega) u⟩
theorem refWord_is (s : ByteArray) (b : Bool) (w : World) (hs : s.size ≤ maxLen) (h : wordB s = b) : Calls Try.prog 48 #[.string s] w (Says w b) := h ▸ refWord_any s w hs
set_option maxRecDepth 100000 in
set_option maxHeartbeats 6400000 in
theorem refPlain_any (w : World) (hi : Nat) (next : Int) (A : Option Addr) (n c : Nat) (nds : List Nd) (nd : Nd) (L : Leaf) (h : NodesIn w 0 hi A n c nds) (hlf : LeafIn w 0 hi nd L) (hh : hi ≤ w.heap.size) (hr : Rise nds) (hn : n ≤ 4096) :
    Calls Try.prog 112 #[.agg #[.int .i64 next, .slice A n c], .agg #[.int .i64 nd.id, .string nd.con, .int .i64 nd.par, .string nd.role, .slice L.p.A L.p.n L.p.c, .slice L.k.A L.k.n L.k.c, .slice L.r.A L.r.n L.r.c]] w (Ret w (.bool (plainB next nds nd))) := by
  have hc := h.2.2.1
  have hnc := h.2.1
  have HL := Lib.hid h.1
  unfold maxLen at hc
  have HP0 := Lib.hid (PW.start w next A n c nd L)
  obtain ⟨⟨Ap, np, cp⟩, ⟨Ak, nk, ck⟩, ⟨Ar, nr, cr⟩⟩ := L
  obtain ⟨h1, h2, h3, h4, h5, h6, h7⟩ := hlf
  simp only at h1 h2 h3 h4 h5 h6 HP0 ⊢
  have HLP := Lib.hid h1
  have HLK := Lib.hid h2
  have HLR := Lib.hid h3
  have hcp := h4.2.2.1
  have hcp' := h4.2.1
  have hck := h5.2.2.1
  have hck' := h5.2.1
  have hcr := h6.2.2.1
  have hcr' := h6.2.1
  unfold maxLen at hcp hck hcr
  have HRP := Lib.hid h4
  have HRK := Lib.hid h5
  have HRR := Lib.hid h6
  have HSZ := Lib.hid h7
  have HSC := Lib.hid h7.con
  have HPl : Hid (plainB next nds nd = (wordB nd.con && decide (nd.kids.length ≤ nds.length) && propsB none nd.props && refsB next none nd.refs && kidsB nds nd.id [] nd.kids)) := Lib.hid rfl
  clear h1 h2 h3 h4 h5 h6 h7
  have hmk := make_bools n (by omega)
  have HMK := Lib.hid hmk
  clear hmk
  cases hw : wordB nd.con with
  | false =>
    have HW := Lib.hid hw
    have HZ : Hid (plainB next nds nd = false) := Lib.hid (by rw [HPl.out, hw]; rfl)
    clear hw
    go_enter Try.func112, Try.ntmps112
    go_wp2_with (go_at_call 48; refine (refWord_is _ _ _ HSC.out HW.out).mono ?_; rintro e w2 ⟨rfl, rfl⟩)
    go_ret
    exact ret_b HZ.out rfl HP0.out.bel
  | true =>
    have HW := Lib.hid hw
    by_cases hk : nk ≤ n
    · have d1 : decide (n < nk) = false := decide_eq_false (by omega)
      have hPl : plainB next nds nd = (propsB none nd.props && refsB next none nd.refs && kidsB nds nd.id [] nd.kids) := by
        rw [HPl.out, hw, decide_eq_true (by have := HLK.out; have := HL.out; omega)]; rfl
      have HPl := Lib.hid hPl
      clear hPl hw
      go_enter Try.func112, Try.ntmps112
      go_wp2_with (go_at_call 48; refine (refWord_is _ _ _ HSC.out HW.out).mono ?_; rintro e w2 ⟨rfl, rfl⟩)
      go_loopw [5] (fun i wr => ∃ k : Nat, k ≤ np ∧ i = .int .i64 k ∧ PW w next A n c nd ⟨⟨Ap, np, cp⟩, ⟨Ak, nk, ck⟩, ⟨Ar, nr, cr⟩⟩ wr ∧ Hid (propsB none nd.props = propsB (prevP nd.props k) (nd.props.drop k))) (fun i _ => np - (intOf i).toNat)
      case atStart => exact ⟨0, by omega, rfl, HP0.out, Lib.hid rfl⟩
      case round =>
        clear HP0
        obtain ⟨k, hk, rfl, P, HK⟩ := hrel
        have c0 := P.md.cell 0
        have c1 := P.md.cell 1
        have b4 := P.nb.cell 4
        have b5 := P.nb.cell 5
        have b6 := P.nb.cell 6
        simp at c0 c1 b4 b5 b6
        have hbel := P.bel
        have HP := Lib.hid P
        clear P
        by_cases hlt : k < np
        · obtain ⟨b, o, rfl, _, hb, hcells⟩ := (HRP.out.below (hbel.mono hh)).at_ (by omega)
          obtain ⟨p, hp⟩ : ∃ p, nd.props[k]? = some p := ⟨nd.props[k]'(by have := HLP.out; have := HLR.out; omega), List.getElem?_eq_getElem _⟩
          have hc0 := hcells _ _ (propCells_get hp).1
          have hc1 := hcells _ _ (propCells_get hp).2
          have hc1 : wr.cell? ⟨b, o + k * 2 + 1, none⟩ = some (.string p.2) := by rw [Nat.add_assoc]; exact hc1
          obtain ⟨s1, s2⟩ := HSZ.out.props p (List.mem_of_getElem? hp)
          unfold maxLen at s2
          have hd : nd.props.drop k = p :: nd.props.drop (k + 1) := by
            obtain ⟨hl', rfl⟩ := List.getElem?_eq_some_iff.1 hp
            exact List.drop_eq_getElem_cons hl'
          have hpv : prevP nd.props (k + 1) = some p.1 := by unfold prevP; rw [if_neg (by omega), Nat.add_sub_cancel, hp]; rfl
          have HD : Hid (propsB none nd.props = (wordB p.1 && decide (p.2.size ≤ 4096) && aboveB (prevP nd.props k) p.1 && propsB (prevP nd.props (k + 1)) (nd.props.drop (k + 1)))) := Lib.hid (by rw [HK.out, hd, propsB, hpv])
          clear HK hd hpv hbel
          obtain ⟨a, v⟩ := p
          simp only at hc0 hc1 s1 s2 HD
          have HS1 := Lib.hid s1
          clear s1
          cases hw : wordB a with
          | false =>
            have HW := Lib.hid hw
            have HZ : Hid (plainB next nds nd = false) := Lib.hid (by rw [HPl.out, HD.out, hw]; simp)
            clear HD hw
            go_wp2_with fail
            go_quiet ((go_at_call 48; exact quiet_says (refWord_is _ _ _ HS1.out HW.out)))
            go_wp2_with fail
            go_ret
            exact ret_b HZ.out rfl (below_drewN HP.out.bel _)
          | true =>
            have HW := Lib.hid hw
            by_cases hz : v.size ≤ 4096
            · have d1 : decide ((4096 : Int) < (v.size : Int)) = false := decide_eq_false (by omega)
              by_cases h0 : k = 0
              · have HZ : Hid (propsB none nd.props = propsB (prevP nd.props (k + 1)) (nd.props.drop (k + 1))) := Lib.hid (by rw [HD.out, hw, decide_eq_true hz, h0]; rfl)
                have d2 : decide (0 < k) = false := decide_eq_false (by omega)
                clear HD hw h0
                go_wp2_with fail
                go_quiet ((go_at_call 48; exact quiet_says (refWord_is _ _ _ HS1.out HW.out)))
                go_wp2_with fail
                go_roundw
                case rel => exact ⟨k + 1, by omega, by go_num, HP.out.drewN _, HZ⟩
                case measure => simp [intOf]; omega
              · obtain ⟨q, hq⟩ : ∃ q, nd.props[k - 1]? = some q := ⟨nd.props[k - 1]'(by have := HLP.out; have := HLR.out; omega), List.getElem?_eq_getElem _⟩
                have hc2 := hcells _ _ (propCells_get hq).1
                have hpv : prevP nd.props k = some q.1 := by unfold prevP; rw [if_neg h0, hq]; rfl
                have d2 : decide (0 < k) = true := decide_eq_true (by omega)
                cases hq2 : ltS q.1 a with
                | true =>
                  have d3 : Op.bytesLess q.1.toList a.toList = true := hq2
                  have HZ : Hid (propsB none nd.props = propsB (prevP nd.props (k + 1)) (nd.props.drop (k + 1))) := Lib.hid (by rw [HD.out, hw, decide_eq_true hz, hpv]; simp only [aboveB]; rw [hq2]; rfl)
                  clear HD hw hpv hq2 hq hp
                  go_wp2_with fail
                  go_quiet ((go_at_call 48; exact quiet_says (refWord_is _ _ _ HS1.out HW.out)))
                  go_wp2_with fail
                  go_roundw
                  case rel => exact ⟨k + 1, by omega, by go_num, HP.out.drewN _, HZ⟩
                  case measure => simp [intOf]; omega
                | false =>
                  have d3 : Op.bytesLess q.1.toList a.toList = false := hq2
                  have HZ : Hid (plainB next nds nd = false) := Lib.hid (by rw [HPl.out, HD.out, hw, decide_eq_true hz, hpv]; simp only [aboveB]; rw [hq2]; simp)
                  clear HD hw hpv hq2 hq hp
                  go_wp2_with fail
                  go_quiet ((go_at_call 48; exact quiet_says (refWord_is _ _ _ HS1.out HW.out)))
                  go_wp2_with fail
                  go_ret
                  exact ret_b HZ.out rfl (below_drewN HP.out.bel _)
            · have d1 : decide ((4096 : Int) < (v.size : Int)) = true := decide_eq_true (by omega)
              have HZ : Hid (plainB next nds nd = false) := Lib.hid (by rw [HPl.out, HD.out, decide_eq_false hz]; simp)
              clear HD hw
              go_wp2_with fail
              go_quiet ((go_at_call 48; exact quiet_says (refWord_is _ _ _ HS1.out HW.out)))
              go_wp2_with fail
              go_ret
              exact ret_b HZ.out rfl (below_drewN HP.out.bel _)
        · have HY : Hid (propsB none nd.props = true) := Lib.hid (by rw [HK.out, List.drop_eq_nil_of_le (by have := HLP.out; have := HLR.out; omega)]; cases prevP nd.props k <;> rfl)
          have hPl := HPl.out
          rw [HY.out] at hPl
          have HPl := Lib.hid hPl
          clear HK HY hPl
          have HP0 := HP
          clear HP hbel
          have hmk := HMK.out
          go_wp2_with fail
          clear hmk
          go_loopw [6] (fun i wr => ∃ k : Nat, k ≤ nr ∧ i = .int .i64 k ∧ PW w next A n c nd ⟨⟨Ap, np, cp⟩, ⟨Ak, nk, ck⟩, ⟨Ar, nr, cr⟩⟩ wr ∧ Hid (refsB next none nd.refs = refsB next (prevR nd.refs k) (nd.refs.drop k))) (fun i _ => nr - (intOf i).toNat)
          case atStart => exact ⟨0, by omega, rfl, HP0.out, Lib.hid rfl⟩
          case round =>
            clear HP0
            obtain ⟨k, hk, rfl, P, HK⟩ := hrel
            have c0 := P.md.cell 0
            have c1 := P.md.cell 1
            have b4 := P.nb.cell 4
            have b5 := P.nb.cell 5
            have b6 := P.nb.cell 6
            simp at c0 c1 b4 b5 b6
            have hbel := P.bel
            have HP := Lib.hid P
            clear P
            by_cases hlt : k < nr
            · obtain ⟨b, o, rfl, _, hb, hcells⟩ := (HRR.out.below (hbel.mono hh)).at_ (by omega)
              obtain ⟨p, hp⟩ : ∃ p, nd.refs[k]? = some p := ⟨nd.refs[k]'(by have := HLP.out; have := HLR.out; omega), List.getElem?_eq_getElem _⟩
              have hc0 := hcells _ _ (refCells_get hp).1
              have hc1 := hcells _ _ (refCells_get hp).2
              have hc1 : wr.cell? ⟨b, o + k * 2 + 1, none⟩ = some (.int .i64 p.2) := by rw [Nat.add_assoc]; exact hc1
              have s1 := HSZ.out.refs p (List.mem_of_getElem? hp)
              have hd : nd.refs.drop k = p :: nd.refs.drop (k + 1) := by
                obtain ⟨hl', rfl⟩ := List.getElem?_eq_some_iff.1 hp
                exact List.drop_eq_getElem_cons hl'
              have hpv : prevR nd.refs (k + 1) = some p.1 := by unfold prevR; rw [if_neg (by omega), Nat.add_sub_cancel, hp]; rfl
              have HD : Hid (refsB next none nd.refs = (wordB p.1 && decide (1 ≤ p.2) && decide (p.2 < next) && aboveB (prevR nd.refs k) p.1 && refsB next (prevR nd.refs (k + 1)) (nd.refs.drop (k + 1)))) := Lib.hid (by rw [HK.out, hd, refsB, hpv])
              clear HK hd hpv hbel
              obtain ⟨a, v⟩ := p
              simp only at hc0 hc1 s1 HD
              have HS1 := Lib.hid s1
              clear s1
              cases hw : wordB a with
              | false =>
                have HW := Lib.hid hw
                have HZ : Hid (plainB next nds nd = false) := Lib.hid (by rw [HPl.out, HD.out, hw]; simp)
                clear HD hw
                go_wp2_with fail
                go_quiet ((go_at_call 48; exact quiet_says (refWord_is _ _ _ HS1.out HW.out)))
                go_wp2_with fail
                go_ret
                exact ret_b HZ.out rfl (below_drewN HP.out.bel _)
              | true =>
                have HW := Lib.hid hw
                by_cases hz : 1 ≤ v
                · by_cases hy : v < next
                  · have d1 : decide (v < 1) = false := decide_eq_false (by omega)
                    have d1' : decide (next ≤ v) = false := decide_eq_false (by omega)
                    by_cases h0 : k = 0
                    · have HZ : Hid (refsB next none nd.refs = refsB next (prevR nd.refs (k + 1)) (nd.refs.drop (k + 1))) := Lib.hid (by rw [HD.out, hw, decide_eq_true hz, decide_eq_true hy, h0]; rfl)
                      have d2 : decide (0 < k) = false := decide_eq_false (by omega)
                      clear HD hw h0
                      go_wp2_with fail
                      go_quiet ((go_at_call 48; exact quiet_says (refWord_is _ _ _ HS1.out HW.out)))
                      go_wp2_with fail
                      go_roundw
                      case rel => exact ⟨k + 1, by omega, by go_num, HP.out.drewN _, HZ⟩
                      case measure => simp [intOf]; omega
                    · obtain ⟨q, hq⟩ : ∃ q, nd.refs[k - 1]? = some q := ⟨nd.refs[k - 1]'(by have := HLP.out; have := HLR.out; omega), List.getElem?_eq_getElem _⟩
                      have hc2 := hcells _ _ (refCells_get hq).1
                      have hpv : prevR nd.refs k = some q.1 := by unfold prevR; rw [if_neg h0, hq]; rfl
                      have d2 : decide (0 < k) = true := decide_eq_true (by omega)
                      cases hq2 : ltS q.1 a with
                      | true =>
                        have d3 : Op.bytesLess q.1.toList a.toList = true := hq2
                        have HZ : Hid (refsB next none nd.refs = refsB next (prevR nd.refs (k + 1)) (nd.refs.drop (k + 1))) := Lib.hid (by rw [HD.out, hw, decide_eq_true hz, decide_eq_true hy, hpv]; simp only [aboveB]; rw [hq2]; rfl)
                        clear HD hw hpv hq2 hq hp
                        go_wp2_with fail
                        go_quiet ((go_at_call 48; exact quiet_says (refWord_is _ _ _ HS1.out HW.out)))
                        go_wp2_with fail
                        go_roundw
                        case rel => exact ⟨k + 1, by omega, by go_num, HP.out.drewN _, HZ⟩
                        case measure => simp [intOf]; omega
                      | false =>
                        have d3 : Op.bytesLess q.1.toList a.toList = false := hq2
                        have HZ : Hid (plainB next nds nd = false) := Lib.hid (by rw [HPl.out, HD.out, hw, decide_eq_true hz, decide_eq_true hy, hpv]; simp only [aboveB]; rw [hq2]; simp)
                        clear HD hw hpv hq2 hq hp
                        go_wp2_with fail
                        go_quiet ((go_at_call 48; exact quiet_says (refWord_is _ _ _ HS1.out HW.out)))
                        go_wp2_with fail
                        go_ret
                        exact ret_b HZ.out rfl (below_drewN HP.out.bel _)
                  · have d1 : decide (v < 1) = false := decide_eq_false (by omega)
                    have d1' : decide (next ≤ v) = true := decide_eq_true (by omega)
                    have HZ : Hid (plainB next nds nd = false) := Lib.hid (by rw [HPl.out, HD.out, decide_eq_false hy]; simp)
                    clear HD hw
                    go_wp2_with fail
                    go_quiet ((go_at_call 48; exact quiet_says (refWord_is _ _ _ HS1.out HW.out)))
                    go_wp2_with fail
                    go_ret
                    exact ret_b HZ.out rfl (below_drewN HP.out.bel _)
                · have d1 : decide (v < 1) = true := decide_eq_true (by omega)
                  have HZ : Hid (plainB next nds nd = false) := Lib.hid (by rw [HPl.out, HD.out, decide_eq_false hz]; simp)
                  clear HD hw
                  go_wp2_with fail
                  go_quiet ((go_at_call 48; exact quiet_says (refWord_is _ _ _ HS1.out HW.out)))
                  go_wp2_with fail
                  go_ret
                  exact ret_b HZ.out rfl (below_drewN HP.out.bel _)
            · have HY : Hid (refsB next none nd.refs = true) := Lib.hid (by rw [HK.out, List.drop_eq_nil_of_le (by have := HLP.out; have := HLR.out; omega)]; cases prevR nd.refs k <;> rfl)
              have hPl := HPl.out
              rw [HY.out] at hPl
              have HPl := Lib.hid hPl
              clear HK HY hPl
              have HP0 := HP
              clear HP hbel
              have hmk := HMK.out
              go_wp2_with fail
              have hgz := HP0.out.size
              have hPm := HP0.out.after (below_box wr (.cells (noB n) 4))
              have hBm : BBlk (wr.alloc (.cells (noB n) 4)) wr.heap.size (List.replicate n false) := BBlk.start wr n
              have HPM := Lib.hid hPm
              have HBM := Lib.hid hBm
              clear hPm hBm hmk HP0
              obtain ⟨g, hg⟩ : ∃ g, g = wr.heap.size := ⟨_, rfl⟩
              rw [← hg] at HBM hgz ⊢
              have HG := Lib.hid hg
              clear hg
              generalize wr.alloc (.cells (noB n) 4) = wm at HPM HBM ⊢
              go_loopw [8] (fun i wr => ∃ (j : Nat) (mt : List Bool) (seen : List Int), j ≤ nk ∧ i = .int .i64 j ∧ PW w next A n c nd ⟨⟨Ap, np, cp⟩, ⟨Ak, nk, ck⟩, ⟨Ar, nr, cr⟩⟩ wr ∧ BBlk wr g mt ∧ Hid (MetOk nds n seen mt) ∧ Hid (kidsB nds nd.id [] nd.kids = kidsB nds nd.id seen (nd.kids.drop j))) (fun i _ => nk - (intOf i).toNat)
              case atStart => exact ⟨0, _, [], by omega, rfl, HPM.out, HBM.out, Lib.hid (MetOk.start nds n), Lib.hid rfl⟩
              case round =>
                clear HPM HBM
                obtain ⟨j, mt, seen, hj, rfl, P, hB, HM, HK⟩ := hrel
                have c0 := P.md.cell 0
                have c1 := P.md.cell 1
                have b0 := P.nb.cell 0
                have b5 := P.nb.cell 5
                simp at c0 c1 b0 b5
                have hbel := P.bel
                have hgl := Blk.lt hB
                have hsz := P.size
                have HP := Lib.hid P
                clear P
                by_cases hlt : j < nk
                · obtain ⟨b, o, rfl, _, hb, hcells⟩ := (HRK.out.below (hbel.mono hh)).at_ (by omega)
                  obtain ⟨kid, hkid⟩ : ∃ kid, nd.kids[j]? = some kid := ⟨nd.kids[j]'(by have := HLK.out; omega), List.getElem?_eq_getElem _⟩
                  have hkc := hcells j _ (intCells_get hkid)
                  have hkd : nd.kids.drop j = kid :: nd.kids.drop (j + 1) := by
                    obtain ⟨hl', rfl⟩ := List.getElem?_eq_some_iff.1 hkid
                    exact List.drop_eq_getElem_cons hl'
                  have q0 := cell_regrown c0
                  have q1 := cell_regrown c1
                  have q5 := cell_regrown b5
                  have qk := cell_regrown hkc
                  have hAt : ∀ d os, Calls Try.prog 49 #[.agg #[.int .i64 next, .slice A n c], .int .i64 kid] (grow (redrawn wr d) os) (Ret (grow (redrawn wr d) os) (.int .i64 (atV nds kid))) := fun d os =>
                    refAt_any _ hi next kid A n c nds ((h.below (hbel.mono hh)).below ((below_regrown wr d os).mono (by omega))) (by have := (below_regrown wr d os).size; omega) hr hn
                  have hstep : kidsB nds nd.id [] nd.kids = ((match ndOf nds kid with | none => false | some x => x.par == nd.id) && !seen.contains kid && kidsB nds nd.id (kid :: seen) (nd.kids.drop (j + 1))) := by rw [HK.out, hkd, kidsB]; rfl
                  clear HK hkd hkid hcells
                  cases hx : ixOf nds kid with
                  | none =>
                    have hav : atV nds kid = -1 := by unfold atV; rw [hx]
                    have HZ : Hid (plainB next nds nd = false) := Lib.hid (by
                      have e : ndOf nds kid = none := by unfold ndOf; rw [hx]; rfl
                      rw [HPl.out, hstep, e]; simp)
                    rw [hav] at hAt
                    have HAt := Lib.hid hAt
                    clear hAt hav hx hstep
                    go_wp2_with fail
                    refine wp_region_quiet_below (by kernel_rfl) (by kernel_rfl) ?_
                    repeat (go_big_quiet_step ((go_at_call 49; exact regrown_ret (HAt.out _ _))))
                    refine wpQuiet_nil ?_
                    intro _ hw'
                    obtain ⟨⟨dq, osq⟩, hw''⟩ := hw'
                    subst hw''
                    have hb2 := below_regrown wr dq osq
                    generalize grow (redrawn wr dq) osq = w2 at hb2 ⊢
                    clear q0 q1 q5 qk
                    have HP2 := Lib.hid (HP.out.after hb2)
                    obtain ⟨t1, t2⟩ := bcell hb2
                    go_wp2_with fail
                    go_quiet (fail)
                    go_wp2_with fail
                    go_ret
                    exact ret_b HZ.out rfl (below_drewN HP2.out.bel _)
                  | some jx =>
                    have hjx := ixOf_lt hx
                    rw [HL.out] at hjx
                    obtain ⟨kd, hkd, hkid⟩ := ixOf_some hx
                    have hav : atV nds kid = jx := by unfold atV; rw [hx]
                    have hnk : ndOf nds kid = some kd := by unfold ndOf; rw [hx]; exact hkd
                    have hmt := HM.out.2 kid jx hx
                    have hmc := hB.cell (i := jx) (by rw [HM.out.1]; exact hjx)
                    have hmf := Blk.frozen hB jx
                    rw [hmt] at hmc
                    rw [hnk] at hstep
                    have hstep : kidsB nds nd.id [] nd.kids = ((kd.par == nd.id) && !seen.contains kid && kidsB nds nd.id (kid :: seen) (nd.kids.drop (j + 1))) := hstep
                    have HM2 := Lib.hid (HM.out.step hx hjx)
                    rw [hav] at hAt
                    have HAt := Lib.hid hAt
                    obtain ⟨bA, oA, hA, _, hbA, V, hV⟩ := h.all (by omega)
                    subst hA
                    have hpc := ((hV jx kd hkd).1.below hbel (by omega)).c2
                    have HBB := Lib.hid hB
                    have hbA' : bA < wr.heap.size := by have := hbel.size; omega
                    have hbn : w.heap.size + 1 < wr.heap.size := hsz
                    have hbn' : w.heap.size < wr.heap.size := by omega
                    obtain ⟨sb, hsb⟩ : ∃ sb, seen.contains kid = sb := ⟨_, rfl⟩
                    rw [hsb] at hmc hstep
                    clear hAt hav hx hkd hkid hnk hmt hV hB hsb
                    by_cases e1 : kd.par = nd.id
                    · have d1 : (kd.par != nd.id) = false := by rw [bne_eq_false_iff_eq]; exact e1
                      have d1' : (kd.par == nd.id) = true := by rw [beq_iff_eq]; exact e1
                      cases sb with
                      | false =>
                        have HZ : Hid (kidsB nds nd.id [] nd.kids = kidsB nds nd.id (kid :: seen) (nd.kids.drop (j + 1))) := Lib.hid (by rw [hstep, d1']; rfl)
                        clear hstep e1
                        go_wp2_with fail
                        refine wp_region_quiet_below (by kernel_rfl) (by kernel_rfl) ?_
                        repeat (go_big_quiet_step ((go_at_call 49; exact regrown_ret (HAt.out _ _))))
                        refine wpQuiet_nil ?_
                        intro _ hw'
                        obtain ⟨⟨dq, osq⟩, hw''⟩ := hw'
                        subst hw''
                        have hb2 := below_regrown wr dq osq
                        generalize grow (redrawn wr dq) osq = w2 at hb2 ⊢
                        clear q0 q1 q5 qk
                        have HP2 := Lib.hid (HP.out.after hb2)
                        have HB2 := Lib.hid (Blk.after HBB.out hb2)
                        obtain ⟨t1, t2⟩ := bcell hb2
                        go_wp2_with fail
                        go_quiet (fail)
                        go_wp2_with fail
                        go_roundw
                        case rel => exact ⟨j + 1, _, _, by omega, by go_num, (HP2.out.far (g := g) (by omega) jx _).drewN _, BBlk.set_ HB2.out jx true, HM2, HZ⟩
                        case measure => simp [intOf]; omega
                      | true =>
                        have HZ : Hid (plainB next nds nd = false) := Lib.hid (by rw [HPl.out, hstep]; simp)
                        clear hstep e1
                        go_wp2_with fail
                        refine wp_region_quiet_below (by kernel_rfl) (by kernel_rfl) ?_
                        repeat (go_big_quiet_step ((go_at_call 49; exact regrown_ret (HAt.out _ _))))
                        refine wpQuiet_nil ?_
                        intro _ hw'
                        obtain ⟨⟨dq, osq⟩, hw''⟩ := hw'
                        subst hw''
                        have hb2 := below_regrown wr dq osq
                        generalize grow (redrawn wr dq) osq = w2 at hb2 ⊢
                        clear q0 q1 q5 qk
                        have HP2 := Lib.hid (HP.out.after hb2)
                        have HB2 := Lib.hid (Blk.after HBB.out hb2)
                        obtain ⟨t1, t2⟩ := bcell hb2
                        go_wp2_with fail
                        go_quiet (fail)
                        go_wp2_with fail
                        go_ret
                        exact ret_b HZ.out rfl (below_drewN HP2.out.bel _)
                    · have d1 : (kd.par != nd.id) = true := by rw [bne_iff_ne]; exact e1
                      have d1' : (kd.par == nd.id) = false := by rw [beq_eq_false_iff_ne]; exact e1
                      have HZ : Hid (plainB next nds nd = false) := Lib.hid (by rw [HPl.out, hstep, d1']; simp)
                      clear hstep e1
                      go_wp2_with fail
                      refine wp_region_quiet_below (by kernel_rfl) (by kernel_rfl) ?_
                      repeat (go_big_quiet_step ((go_at_call 49; exact regrown_ret (HAt.out _ _))))
                      refine wpQuiet_nil ?_
                      intro _ hw'
                      obtain ⟨⟨dq, osq⟩, hw''⟩ := hw'
                      subst hw''
                      have hb2 := below_regrown wr dq osq
                      generalize grow (redrawn wr dq) osq = w2 at hb2 ⊢
                      clear q0 q1 q5 qk
                      have HP2 := Lib.hid (HP.out.after hb2)
                      have HB2 := Lib.hid (Blk.after HBB.out hb2)
                      obtain ⟨t1, t2⟩ := bcell hb2
                      go_wp2_with fail
                      go_quiet (fail)
                      go_wp2_with fail
                      go_ret
                      exact ret_b HZ.out rfl (below_drewN HP2.out.bel _)
                · have HZ : Hid (plainB next nds nd = true) := Lib.hid (by
                    have e : kidsB nds nd.id [] nd.kids = true := by rw [HK.out, List.drop_eq_nil_of_le (by have := HLK.out; omega)]; rfl
                    rw [HPl.out, e]; rfl)
                  clear HK
                  go_wp2_with fail
                  go_ret
                  exact ret_b HZ.out rfl hbel
    · have d1 : decide (n < nk) = true := decide_eq_true (by omega)
      have HZ : Hid (plainB next nds nd = false) := Lib.hid (by rw [HPl.out, decide_eq_false (p := nd.kids.length ≤ nds.length) (by have := HLK.out; have := HL.out; omega)]; simp)
      clear hw
      go_enter Try.func112, Try.ntmps112
      go_wp2_with (go_at_call 48; refine (refWord_is _ _ _ HSC.out HW.out).mono ?_; rintro e w2 ⟨rfl, rfl⟩)
      go_ret
      exact ret_b HZ.out rfl HP0.out.bel
end Go.Proofs.Yteccblmdfjbljaa
namespace Go.Proofs.Yteccblmdfjbljaa
open Go Go.RowKit Go.Sort
set_option linter.unusedVariables false
theorem PW.store {w wr : World} {next : Int} {A : Option Addr} {n c : Nat} {nd : Nd} {L : Leaf} (h : PW w next A n c nd L wr) (kd : Nd) (M : Leaf) (nq : Nat) :
    PW w next A n c kd M ((((((((wr.drewN nq).setCell ⟨w.heap.size + 1, 0, none⟩ (.int .i64 kd.id)).setCell ⟨w.heap.size + 1, 1, none⟩ (.string kd.con)).setCell ⟨w.heap.size + 1, 2, none⟩ (.int .i64 kd.par)).setCell ⟨w.heap.size + 1, 3, none⟩ (.string kd.role)).setCell ⟨w.heap.size + 1, 4, none⟩ (.slice M.p.A M.p.n M.p.c)).setCell ⟨w.heap.size + 1, 5, none⟩ (.slice M.k.A M.k.n M.k.c)).setCell ⟨w.heap.size + 1, 6, none⟩ (.slice M.r.A M.r.n M.r.c)) := by
  have hne : w.heap.size ≠ w.heap.size + 1 := by omega
  have h0 := h.drewN nq
  refine ⟨((((((h0.md.far (p := ⟨_, _, none⟩) hne _).far (p := ⟨_, _, none⟩) hne _).far (p := ⟨_, _, none⟩) hne _).far (p := ⟨_, _, none⟩) hne _).far (p := ⟨_, _, none⟩) hne _).far (p := ⟨_, _, none⟩) hne _).far (p := ⟨_, _, none⟩) hne _, ?_, ?_⟩
  · have := ((((((h0.nb.set_ 0 (.int .i64 kd.id)).set_ 1 (.string kd.con)).set_ 2 (.int .i64 kd.par)).set_ 3 (.string kd.role)).set_ 4 (.slice M.p.A M.p.n M.p.c)).set_ 5 (.slice M.k.A M.k.n M.k.c)).set_ 6 (.slice M.r.A M.r.n M.r.c)
    simpa using this
  · have hb := h0.bel
    exact Below.setCell' (Below.setCell' (Below.setCell' (Below.setCell' (Below.setCell' (Below.setCell' (Below.setCell' hb (by omega) _) (by omega) _) (by omega) _) (by omega) _) (by omega) _) (by omega) _) (by omega) _
set_option maxRecDepth 100000 in
set_option maxHeartbeats 3200000 in
theorem refBelow_any (w : World) (hi : Nat) (next : Int) (A : Option Addr) (n c : Nat) (nds : List Nd) (nd : Nd) (L : Leaf) (h : NodesIn w 0 hi A n c nds) (hlf : LeafIn w 0 hi nd L) (hh : hi ≤ w.heap.size) (hr : Rise nds) (hn : n ≤ 4096) :
    Calls Try.prog 113 #[.agg #[.int .i64 next, .slice A n c], .agg #[.int .i64 nd.id, .string nd.con, .int .i64 nd.par, .string nd.role, .slice L.p.A L.p.n L.p.c, .slice L.k.A L.k.n L.k.c, .slice L.r.A L.r.n L.r.c]] w (Ret w (.bool (belowB nds 64 nd))) := by
  have hc := h.2.2.1
  have hnc := h.2.1
  have HL := Lib.hid h.1
  unfold maxLen at hc
  have HP0 := Lib.hid (PW.start w next A n c nd L)
  have HLF0 := Lib.hid hlf
  obtain ⟨nd0, HN0⟩ : ∃ x, Hid (belowB nds 64 nd = x) := ⟨_, Lib.hid rfl⟩
  have hgoal : nd0 = belowB nds 64 nd := HN0.out.symm
  rw [← hgoal]
  clear hgoal hlf
  go_enter Try.func113, Try.ntmps113
  go_wp2_with fail
  go_loopw [5] (fun i wr => ∃ (d : Nat) (x : Nd) (M : Leaf), 1 ≤ d ∧ d ≤ 65 ∧ i = .int .i64 d ∧ PW w next A n c x M wr ∧ Hid (LeafIn w 0 hi x M) ∧ Hid (nd0 = belowB nds (65 - d) x)) (fun i _ => 65 - (intOf i).toNat)
  case atStart => exact ⟨1, nd, L, by omega, by omega, rfl, HP0.out, HLF0, Lib.hid HN0.out.symm⟩
  case round =>
    clear HP0 HLF0 HN0
    obtain ⟨d, x, ⟨⟨Ap, np, cp⟩, ⟨Ak, nk, ck⟩, ⟨Ar, nr, cr⟩⟩, hd1, hd, rfl, P, HLF, HB⟩ := hrel
    have c0 := P.md.cell 0
    have c1 := P.md.cell 1
    have b0 := P.nb.cell 0
    have b1 := P.nb.cell 1
    have b2 := P.nb.cell 2
    have b3 := P.nb.cell 3
    have b4 := P.nb.cell 4
    have b5 := P.nb.cell 5
    have b6 := P.nb.cell 6
    simp at c0 c1 b0 b1 b2 b3 b4 b5 b6
    have hfz : ∀ i, wr.frozen? ⟨w.heap.size + 1, i, none⟩ = false := fun i => Blk.frozen P.nb i
    have hbel := P.bel
    have hsz := P.size
    have hsz' : w.heap.size < wr.heap.size := by omega
    have HP := Lib.hid P
    clear P
    by_cases hlt : d ≤ 64
    · have hBs : nd0 = belowB nds ((64 - d) + 1) x := by rw [HB.out]; congr 1; omega
      rw [belowB] at hBs
      by_cases hp : x.par = 0
      · rw [if_pos hp] at hBs
        have d1 : (x.par == 0) = true := by rw [beq_iff_eq]; exact hp
        have HZ := Lib.hid hBs
        clear hp hBs HB
        go_wp2_with fail
        go_ret
        exact ret_b HZ.out rfl hbel
      · rw [if_neg hp] at hBs
        have d1 : (x.par == 0) = false := by rw [beq_eq_false_iff_ne]; exact hp
        have hAt := refAt_any wr hi next x.par A n c nds (h.below (hbel.mono hh)) (by omega) hr hn
        cases hx : ixOf nds x.par with
        | none =>
          have hav : atV nds x.par = -1 := by unfold atV; rw [hx]
          have e : ndOf nds x.par = none := by unfold ndOf; rw [hx]; rfl
          rw [e] at hBs
          have HZ : Hid (nd0 = false) := Lib.hid hBs
          rw [hav] at hAt
          have HAt := Lib.hid hAt
          clear hAt hav hx hBs HB hp e
          go_wp2_with (go_at_call 49; refine HAt.out.mono ?_; rintro e w2 ⟨rfl, hb2⟩; obtain ⟨q1, q2⟩ := bcell hb2)
          go_quiet (fail)
          go_wp2_with fail
          go_ret
          exact ret_b HZ.out rfl (below_drewN (HP.out.after hb2).bel _)
        | some jx =>
          have hjx := ixOf_lt hx
          rw [HL.out] at hjx
          obtain ⟨kd, hkd, hkid⟩ := ixOf_some hx
          have hav : atV nds x.par = jx := by unfold atV; rw [hx]
          have e : ndOf nds x.par = some kd := by unfold ndOf; rw [hx]; exact hkd
          rw [e] at hBs
          have hBs : nd0 = (wordB x.role && kd.kids.contains x.id && belowB nds (64 - d) kd) := hBs
          rw [hav] at hAt
          have HAt := Lib.hid hAt
          obtain ⟨bA, oA, hA, _, hbA, V, hV⟩ := h.all (by omega)
          subst hA
          have hbr : bA < wr.heap.size := by have := hbel.size; omega
          have hat := (hV jx kd hkd).1.below hbel (by omega)
          have hlf2 := (hV jx kd hkd).2
          obtain ⟨⟨⟨Ap2, np2, cp2⟩, ⟨Ak2, nk2, ck2⟩, ⟨Ar2, nr2, cr2⟩⟩, hVV⟩ : ∃ M, V jx = M := ⟨_, rfl⟩
          rw [hVV] at hat hlf2
          obtain ⟨a0, a1, a2, a3, a4, a5, a6⟩ := hat
          simp only at a4 a5 a6
          have HRO := Lib.hid HLF.out.sz.role
          have HLF2 := Lib.hid hlf2
          have HHas : Hid (∀ w3, Below wr.heap.size wr w3 → Calls Try.prog 50 #[.slice Ak2 nk2 ck2, .int .i64 x.id] w3 (Says w3 (kd.kids.contains x.id))) := Lib.hid (fun w3 hb3 => refHas_any w3 0 hi Ak2 nk2 ck2 kd.kids x.id ((hlf2.k.below (hbel.mono hh)).below (hb3.mono (by omega))))
          obtain ⟨cw, hw⟩ : ∃ b, wordB x.role = b := ⟨_, rfl⟩
          obtain ⟨ch, hc'⟩ : ∃ b, kd.kids.contains x.id = b := ⟨_, rfl⟩
          rw [hw, hc'] at hBs
          rw [hc'] at HHas
          have HW := Lib.hid hw
          have dk : decide ((jx : Int) < 0) = false := decide_eq_false (by omega)
          clear hAt hav hx HB hp hkd hkid hV hVV hlf2 hw hc' e
          cases cw with
          | false =>
            have HZ : Hid (nd0 = false) := Lib.hid (by rw [hBs]; rfl)
            clear hBs
            go_wp2_with (go_at_call 49; refine HAt.out.mono ?_; rintro e w2 ⟨rfl, hb2⟩; obtain ⟨q1, q2⟩ := bcell hb2)
            go_quiet (first | (go_at_call 48; exact quiet_says (refWord_is _ _ _ HRO.out HW.out)) | (go_at_call 50; exact quiet_says (HHas.out _ (below_drewN hb2 _))))
            go_wp2_with fail
            go_ret
            exact ret_b HZ.out rfl (below_drewN (HP.out.after hb2).bel _)
          | true =>
            cases ch with
            | false =>
              have HZ : Hid (nd0 = false) := Lib.hid (by rw [hBs]; rfl)
              clear hBs
              go_wp2_with (go_at_call 49; refine HAt.out.mono ?_; rintro e w2 ⟨rfl, hb2⟩; obtain ⟨q1, q2⟩ := bcell hb2)
              go_quiet (first | (go_at_call 48; exact quiet_says (refWord_is _ _ _ HRO.out HW.out)) | (go_at_call 50; exact quiet_says (HHas.out _ (below_drewN hb2 _))))
              go_wp2_with fail
              go_ret
              exact ret_b HZ.out rfl (below_drewN (HP.out.after hb2).bel _)
            | true =>
              have HZ : Hid (nd0 = belowB nds (65 - (d + 1)) kd) := Lib.hid (by rw [hBs]; simp only [Bool.true_and]; congr 1; omega)
              clear hBs
              go_wp2_with (go_at_call 49; refine HAt.out.mono ?_; rintro e w2 ⟨rfl, hb2⟩; obtain ⟨q1, q2⟩ := bcell hb2)
              go_quiet (first | (go_at_call 48; exact quiet_says (refWord_is _ _ _ HRO.out HW.out)) | (go_at_call 50; exact quiet_says (HHas.out _ (below_drewN hb2 _))))
              go_wp2_with fail
              go_roundw
              case rel =>
                refine ⟨d + 1, kd, ⟨⟨Ap2, np2, cp2⟩, ⟨Ak2, nk2, ck2⟩, ⟨Ar2, nr2, cr2⟩⟩, by omega, by omega, by go_num, ?_, HLF2, HZ⟩
                exact (HP.out.after hb2).store _ ⟨⟨Ap2, np2, cp2⟩, ⟨Ak2, nk2, ck2⟩, ⟨Ar2, nr2, cr2⟩⟩ nq
              case measure => simp [intOf]; omega
    · have HZ : Hid (nd0 = false) := Lib.hid (by rw [HB.out, show 65 - d = 0 from by omega]; rfl)
      clear HB
      go_wp2_with fail
      go_ret
      exact ret_b HZ.out rfl hbel
end Go.Proofs.Yteccblmdfjbljaa

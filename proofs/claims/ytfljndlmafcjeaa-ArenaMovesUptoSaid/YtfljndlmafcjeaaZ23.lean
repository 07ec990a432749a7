/-
  WALKS: a node is copied: the document's, where it tells an error.
  WALKS: a node is copied: the document's.
-/
import Derived.Test.YtfljndlmafcjeaaZ22
import Derived.IntWalk
namespace Go.Proofs.Ytfljndlmafcjeaa
open Go Go.RowKit Go.Sort
set_option linter.unusedVariables false
attribute [local go_sem ↓] Go.wp_at_zero Go.wp_at_succ
theorem adm_full {next : Int} {t : List Nd} {parent : Int} {role : ByteArray} {at_ : Int} {L M : Nat} (hp : parent ≠ 0 → ∃ x, ndOf t parent = some x) :
    admV next t parent role at_ L M = if mayV t parent role at_ L ≠ 0 then (0, mayV t parent role at_ L) else if 4096 < t.length + M then (0, 4) else if 1048576 < next - 1 + M then (0, 4) else ((amV t parent role at_).1, 0) := by
  have h1 : ¬ (parent ≠ 0 ∧ (ndOf t parent).isNone = true) := by
    rintro ⟨h0, h2⟩
    obtain ⟨x, hx⟩ := hp h0
    rw [hx] at h2; cases h2
  unfold admV mayV
  rw [if_neg h1]
  by_cases h2 : (amV t parent role at_).2 = false
  · rw [if_pos h2, if_pos h2, if_pos (by decide)]
  · rw [if_neg h2, if_neg h2]
    by_cases h3 : 64 < depthV t parent + L
    · rw [if_pos h3, if_pos h3, if_pos (by decide)]
    · rw [if_neg h3, if_neg h3]; simp
/-- the boxes, and the numbers of the part in a list of the call's own -/
structure PA (w : World) (next : Int) (A : Option Addr) (n c : Nat) (v : Value) (m : Nat) (ks : List Int) (X : World) : Prop where
  a : A0 w next A n c X
  p : X.ownsRow w.heap.size 3 1 v m (intCells ks)
section
variable {w X X' : World} {next : Int} {A : Option Addr} {n c m : Nat} {v v' : Value} {ks : List Int}
theorem PA.after (h : PA w next A n c v m ks X) (hb : Below X.heap.size X X') : PA w next A n c v m ks X' := ⟨h.a.after hb, own_after h.p hb⟩
theorem A0.first (h : A0 w next A n c X) (hg : X.grownBy X' (Value.ownBlock (.slice none 0 0))) : A0 w next A n c X' :=
  ⟨h.m.grown hg (by simp [Value.ownBlock]), h.r.grown hg (by simp [Value.ownBlock]), h.bel.grown hg h.bel.size (fun k hk => by simp [Value.ownBlock] at hk)⟩
theorem PA.first {id : Int} (h : A0 w next A n c X) (hg : X.grownBy X' (Value.ownBlock (.slice none 0 0))) (hown : X'.ownsRow w.heap.size 3 1 v' (0 + 1) ([] ++ [.int .i64 id])) : PA w next A n c v' 1 [id] X' :=
  ⟨h.first hg, hown⟩
theorem PA.more {id : Int} {lb S : List Int} {k : Nat} (h : PA w next A n c v 1 [id] X) (hg : X.grownBy X' v.ownBlock) (hown : X'.ownsRow w.heap.size 3 1 v' (1 + lb.length) (intCells [id] ++ intCells lb)) (hS : id :: lb = S) (hk : S.length = k) : PA w next A n c v' S.length S X' := by
  subst hS
  refine ⟨⟨h.a.m.grown hg (Ne.symm (own_blk_ne h.p h.a.m (by decide))), h.a.r.grown hg (Ne.symm (own_blk_ne h.p h.a.r (by decide))), below_grows h.a.bel hg h.p (Nat.le_refl _)⟩, ?_⟩
  have e : intCells (id :: lb) = intCells [id] ++ intCells lb := by simp [intCells]
  rw [e, List.length_cons, Nat.add_comm lb.length 1]
  exact hown
end
set_option maxRecDepth 20000 in
set_option maxHeartbeats 1600000 in
theorem refCopy_e29 (w : World) (hi : Nat) (next id parent at_ : Int) (role : ByteArray) (A : Option Addr) (n c : Nat) (nds : List Nd) (h : NodesIn w 0 hi A n c nds) (hh : hi ≤ w.heap.size) (hs : role.size ≤ maxLen) (hr : rightB next nds = false) (hE : copyE next nds id parent role at_ = 29) :
    Calls Try.prog 9 #[.agg #[.int .i64 next, .slice A n c], .int .i64 id, .int .i64 parent, .string role, .int .i64 at_] w (CopyPost w next nds id parent role at_) := by
  have hres : Try.f9.results = #[.cell 10 24, .tmp 11, .tmp 12] := by kernel_rfl
  have HA0 := Lib.hid (A0.start w next A n c)
  have HRg : Hid (∀ X, Below w.heap.size w X → Calls Try.prog 24 #[.agg #[.int .i64 next, .slice A n c]] X (Ret X (.bool false))) := Lib.hid fun X hX => by
    have := refRight_any X hi next A n c nds (h.below (hX.mono hh)) (Nat.le_trans hh hX.size)
    rw [hr] at this
    exact this
  have HE := Lib.hid hE
  clear hE
  clear h hr
  go_enter Try.func9, Try.ntmps9
  go_wp2_with (go_at_call 24; (with_reducible refine (HRg.out _ HA0.out.bel).mono ?_); go_must (rintro e w1 ⟨rfl, hb1⟩; have ha1 := HA0.out.after hb1; have r10 := ha1.r.cell 0; have r11 := ha1.r.cell 1; have r12 := ha1.r.frozen 0; have r13 := ha1.r.frozen 1; have m10 := ha1.m.cell 0; have m11 := ha1.m.cell 1; simp at r10 r11 m10 m11; have HA1 := Lib.hid ha1; clear ha1 hb1))
  (try rw [Exit.noGoto_ret])
  (try simp only [Exit.inBlock, Exit.then])
  refine bodyPost_ret (v := .tuple #[.agg #[.int .i64 0, .slice none 0 0], .int .i64 0, .int .i64 29]) ?hr rfl ?_
  case hr =>
    simp only [results, hres]
    go_simp
  exact cp_err HE.out (by decide) ((HA1.out.bel.setCell (p := ⟨w.heap.size + 1, 0, none⟩) (by simp) _).setCell (p := ⟨w.heap.size + 1, 1, none⟩) (by simp) _)
set_option maxRecDepth 20000 in
set_option maxHeartbeats 1600000 in
theorem refCopy_e2 (w : World) (hi : Nat) (next id parent at_ : Int) (role : ByteArray) (A : Option Addr) (n c : Nat) (nds : List Nd) (h : NodesIn w 0 hi A n c nds) (hh : hi ≤ w.heap.size) (hs : role.size ≤ maxLen) (hr : rightB next nds = true) (h0 : parent ≠ 0) (hw : wordB role = false) (hE : copyE next nds id parent role at_ = 2) :
    Calls Try.prog 9 #[.agg #[.int .i64 next, .slice A n c], .int .i64 id, .int .i64 parent, .string role, .int .i64 at_] w (CopyPost w next nds id parent role at_) := by
  have hres : Try.f9.results = #[.cell 10 24, .tmp 11, .tmp 12] := by kernel_rfl
  have HA0 := Lib.hid (A0.start w next A n c)
  have HRg : Hid (∀ X, Below w.heap.size w X → Calls Try.prog 24 #[.agg #[.int .i64 next, .slice A n c]] X (Ret X (.bool true))) := Lib.hid fun X hX => by
    have := refRight_any X hi next A n c nds (h.below (hX.mono hh)) (Nat.le_trans hh hX.size)
    rw [hr] at this
    exact this
  have HE := Lib.hid hE
  clear hE
  have HWd : Hid (∀ X, Calls Try.prog 25 #[.string role] X (Says X false)) := Lib.hid fun X => by have := refWord_any role X hs; rw [hw] at this; exact this
  have hp0 : (parent != 0) = true := by rw [bne_iff_ne]; exact h0
  clear h hr hw h0
  go_enter Try.func9, Try.ntmps9
  go_wp2_with (first | (go_at_call 24; (with_reducible refine (HRg.out _ HA0.out.bel).mono ?_); go_must (rintro e w1 ⟨rfl, hb1⟩; have ha1 := HA0.out.after hb1; have r10 := ha1.r.cell 0; have r11 := ha1.r.cell 1; have r12 := ha1.r.frozen 0; have r13 := ha1.r.frozen 1; have m10 := ha1.m.cell 0; have m11 := ha1.m.cell 1; simp at r10 r11 m10 m11; have HA1 := Lib.hid ha1; clear ha1 hb1)) | (go_at_call 25; go_must (refine (HWd.out _).mono ?_; rintro e w2 ⟨rfl, rfl⟩)))
  (try rw [Exit.noGoto_ret])
  (try simp only [Exit.inBlock, Exit.then])
  refine bodyPost_ret (v := .tuple #[.agg #[.int .i64 0, .slice none 0 0], .int .i64 0, .int .i64 2]) ?hr rfl ?_
  case hr =>
    simp only [results, hres]
    go_simp
  exact cp_err HE.out (by decide) ((HA1.out.bel.setCell (p := ⟨w.heap.size + 1, 0, none⟩) (by simp) _).setCell (p := ⟨w.heap.size + 1, 1, none⟩) (by simp) _)
set_option maxRecDepth 20000 in
set_option maxHeartbeats 1600000 in
theorem refCopy_e20r (w : World) (hi : Nat) (next id parent at_ : Int) (role : ByteArray) (A : Option Addr) (n c : Nat) (nds : List Nd) (h : NodesIn w 0 hi A n c nds) (hh : hi ≤ w.heap.size) (hs : role.size ≤ maxLen) (hr : rightB next nds = true) (h0 : parent = 0) (hav : atV nds id = -1) (hE : copyE next nds id parent role at_ = 20) :
    Calls Try.prog 9 #[.agg #[.int .i64 next, .slice A n c], .int .i64 id, .int .i64 parent, .string role, .int .i64 at_] w (CopyPost w next nds id parent role at_) := by
  have hres : Try.f9.results = #[.cell 10 24, .tmp 11, .tmp 12] := by kernel_rfl
  have HA0 := Lib.hid (A0.start w next A n c)
  have HRg : Hid (∀ X, Below w.heap.size w X → Calls Try.prog 24 #[.agg #[.int .i64 next, .slice A n c]] X (Ret X (.bool true))) := Lib.hid fun X hX => by
    have := refRight_any X hi next A n c nds (h.below (hX.mono hh)) (Nat.le_trans hh hX.size)
    rw [hr] at this
    exact this
  have HE := Lib.hid hE
  clear hE
  have hp0 : (parent != 0) = false := by rw [h0]; rfl
  have hrm := rightM hr
  have hn4 : n ≤ 4096 := by rw [← h.1]; exact hrm.len
  have HAi : Hid (∀ X, Below w.heap.size w X → Calls Try.prog 26 #[.agg #[.int .i64 next, .slice A n c], .int .i64 id] X (Ret X (.int .i64 (-1)))) := Lib.hid fun X hX => by
    have := refAt_any X hi next id A n c nds (h.below (hX.mono hh)) (Nat.le_trans hh hX.size) hrm.rise hn4
    rw [hav] at this
    exact this
  clear h hr hrm hav h0
  go_enter Try.func9, Try.ntmps9
  go_wp2_with (first | (go_at_call 24; (with_reducible refine (HRg.out _ HA0.out.bel).mono ?_); go_must (rintro e w1 ⟨rfl, hb1⟩; have ha1 := HA0.out.after hb1; have r10 := ha1.r.cell 0; have r11 := ha1.r.cell 1; have r12 := ha1.r.frozen 0; have r13 := ha1.r.frozen 1; have m10 := ha1.m.cell 0; have m11 := ha1.m.cell 1; simp at r10 r11 m10 m11; have HA1 := Lib.hid ha1; clear ha1 hb1)) | (go_at_call 26; (with_reducible refine (HAi.out _ HA1.out.bel).mono ?_); go_must (rintro e w3 ⟨rfl, hb3⟩; have ha3 := HA1.out.after hb3; have r30 := ha3.r.cell 0; have r31 := ha3.r.cell 1; have r32 := ha3.r.frozen 0; have r33 := ha3.r.frozen 1; have m30 := ha3.m.cell 0; have m31 := ha3.m.cell 1; simp at r30 r31 m30 m31; have HA3 := Lib.hid ha3; clear ha3 hb3)))
  (try rw [Exit.noGoto_ret])
  (try simp only [Exit.inBlock, Exit.then])
  refine bodyPost_ret (v := .tuple #[.agg #[.int .i64 0, .slice none 0 0], .int .i64 0, .int .i64 20]) ?hr rfl ?_
  case hr =>
    simp only [results, hres]
    go_simp
  exact cp_err HE.out (by decide) ((HA3.out.bel.setCell (p := ⟨w.heap.size + 1, 0, none⟩) (by simp) _).setCell (p := ⟨w.heap.size + 1, 1, none⟩) (by simp) _)
set_option maxRecDepth 20000 in
set_option maxHeartbeats 1600000 in
theorem refCopy_admr (w : World) (hi : Nat) (next id parent at_ : Int) (role : ByteArray) (A : Option Addr) (n c : Nat) (nds : List Nd) (h : NodesIn w 0 hi A n c nds) (hh : hi ≤ w.heap.size) (hs : role.size ≤ maxLen) (hr : rightB next nds = true) (h0 : parent = 0) (i : Nat) (hav : atV nds id = (i : Int)) (nd : Nd) (hx : ndOf nds id = some nd) (hpx : parent ≠ 0 → ∃ x, ndOf nds parent = some x) (re : Int) (hre : re ≠ 0) (hmay : mayV nds parent role at_ (hiV nds id) = re) (hE : copyE next nds id parent role at_ = re) :
    Calls Try.prog 9 #[.agg #[.int .i64 next, .slice A n c], .int .i64 id, .int .i64 parent, .string role, .int .i64 at_] w (CopyPost w next nds id parent role at_) := by
  have hres : Try.f9.results = #[.cell 10 24, .tmp 11, .tmp 12] := by kernel_rfl
  have HA0 := Lib.hid (A0.start w next A n c)
  have HRg : Hid (∀ X, Below w.heap.size w X → Calls Try.prog 24 #[.agg #[.int .i64 next, .slice A n c]] X (Ret X (.bool true))) := Lib.hid fun X hX => by
    have := refRight_any X hi next A n c nds (h.below (hX.mono hh)) (Nat.le_trans hh hX.size)
    rw [hr] at this
    exact this
  have HE := Lib.hid hE
  clear hE
  have hp0 : (parent != 0) = false := by rw [h0]; rfl
  have hrm := rightM hr
  have hn4 : n ≤ 4096 := by rw [← h.1]; exact hrm.len
  have HAi : Hid (∀ X, Below w.heap.size w X → Calls Try.prog 26 #[.agg #[.int .i64 next, .slice A n c], .int .i64 id] X (Ret X (.int .i64 i))) := Lib.hid fun X hX => by
    have := refAt_any X hi next id A n c nds (h.below (hX.mono hh)) (Nat.le_trans hh hX.size) hrm.rise hn4
    rw [hav] at this
    exact this
  have hi0 : ¬ (i : Int) < 0 := by omega
  obtain ⟨hv, hhv⟩ : ∃ k, hiV nds id = k := ⟨_, rfl⟩
  have hh64 := hi_le hrm hx
  rw [hhv] at hh64 hmay
  have HHg : Hid (∀ X, Below w.heap.size w X → Calls Try.prog 29 #[.agg #[.int .i64 next, .slice A n c], .int .i64 id] X (Ret X (.int .i64 hv))) := Lib.hid fun X hX => by
    rw [← hhv]; exact refHigh_any X hi next id A n c nds (h.below (hX.mono hh)) (Nat.le_trans hh hX.size) hrm nd hx
  have HMy : Hid (∀ X, Below w.heap.size w X → Calls Try.prog 32 #[.agg #[.int .i64 next, .slice A n c], .int .i64 parent, .string role, .int .i64 at_, .int .i64 hv] X (Ret X (.int .i64 re))) := Lib.hid fun X hX => by
    have := may_lax X hi next parent at_ role hv A n c nds (h.below (hX.mono hh)) (Nat.le_trans hh hX.size) hrm.lax hh64 hpx
    rw [hmay] at this
    exact this
  have HNZ := Lib.hid hre
  have hnz : (re != 0) = true := by rw [bne_iff_ne]; exact hre
  clear h hr hrm hav hx hpx hmay hhv hre hh64 h0
  go_enter Try.func9, Try.ntmps9
  go_upto_region 7 with (first | (go_at_call 24; (with_reducible refine (HRg.out _ HA0.out.bel).mono ?_); go_must (rintro e w1 ⟨rfl, hb1⟩; have ha1 := HA0.out.after hb1; have r10 := ha1.r.cell 0; have r11 := ha1.r.cell 1; have r12 := ha1.r.frozen 0; have r13 := ha1.r.frozen 1; have m10 := ha1.m.cell 0; have m11 := ha1.m.cell 1; simp at r10 r11 m10 m11; have HA1 := Lib.hid ha1; clear ha1 hb1)) | (go_at_call 26; (with_reducible refine (HAi.out _ HA1.out.bel).mono ?_); go_must (rintro e w3 ⟨rfl, hb3⟩; have ha3 := HA1.out.after hb3; have r30 := ha3.r.cell 0; have r31 := ha3.r.cell 1; have r32 := ha3.r.frozen 0; have r33 := ha3.r.frozen 1; have m30 := ha3.m.cell 0; have m31 := ha3.m.cell 1; simp at r30 r31 m30 m31; have HA3 := Lib.hid ha3; clear ha3 hb3)))
  have f3 := (HA3.out.m.cell 0).trans (show _ = some (.int .i64 next) from rfl)
  have f4 := (HA3.out.m.cell 1).trans (show _ = some (.slice A n c) from rfl)
  have q3 := cell_regrown f3
  have q4 := cell_regrown f4
  have HGq := Lib.hid fun (d : Nat) (os : Array Obj) => HHg.out _ (HA3.out.bel.trans ((below_regrown _ d os).mono HA3.out.bel.size))
  have HMq := Lib.hid fun (d : Nat) (os : Array Obj) => HMy.out _ (HA3.out.bel.trans ((below_regrown _ d os).mono HA3.out.bel.size))
  clear f3 f4
  refine wp_region_quiet_below (by kernel_rfl) (by kernel_rfl) ?_
  repeat (go_big_quiet_step ((first | (go_at_call 29; exact regrown_ret (HGq.out _ _)) | (go_at_call 32; exact regrown_ret (HMq.out _ _)))))
  refine wpQuiet_nil ?_
  intro _ hw'
  obtain ⟨⟨dq, osq⟩, hw''⟩ := hw'
  subst hw''
  have HZ := Lib.hid (HA3.out.after (below_regrown _ dq osq))
  generalize grow (redrawn _ dq) osq = wz at HZ ⊢
  clear q3 q4
  have c0 := HZ.out.r.cell 0
  have c1 := HZ.out.r.cell 1
  have c2 := HZ.out.r.frozen 0
  have c3 := HZ.out.r.frozen 1
  have c4 := HZ.out.m.cell 0
  have c5 := HZ.out.m.cell 1
  simp at c0 c1 c4 c5
  go_wp2_with fail
  (try rw [Exit.noGoto_ret])
  (try simp only [Exit.inBlock, Exit.then])
  refine bodyPost_ret (v := .tuple #[.agg #[.int .i64 0, .slice none 0 0], .int .i64 0, .int .i64 re]) ?hr rfl ?_
  case hr =>
    simp only [results, hres]
    go_simp
  exact cp_err HE.out (HNZ.out) ((HZ.out.bel.setCell (p := ⟨w.heap.size + 1, 0, none⟩) (by simp) _).setCell (p := ⟨w.heap.size + 1, 1, none⟩) (by simp) _)
set_option maxRecDepth 20000 in
set_option maxHeartbeats 1600000 in
theorem refCopy_fullr (w : World) (hi : Nat) (next id parent at_ : Int) (role : ByteArray) (A : Option Addr) (n c : Nat) (nds : List Nd) (h : NodesIn w 0 hi A n c nds) (hh : hi ≤ w.heap.size) (hs : role.size ≤ maxLen) (hr : rightB next nds = true) (h0 : parent = 0) (i : Nat) (hav : atV nds id = (i : Int)) (nd : Nd) (hx : ndOf nds id = some nd) (hpx : parent ≠ 0 → ∃ x, ndOf nds parent = some x) (hmay : mayV nds parent role at_ (hiV nds id) = 0) (hfu : 4096 < nds.length + (preI nds id).length ∨ (¬ 4096 < nds.length + (preI nds id).length ∧ 1048576 < next - 1 + ((preI nds id).length : Nat))) (hE : copyE next nds id parent role at_ = 4) :
    Calls Try.prog 9 #[.agg #[.int .i64 next, .slice A n c], .int .i64 id, .int .i64 parent, .string role, .int .i64 at_] w (CopyPost w next nds id parent role at_) := by
  have hres : Try.f9.results = #[.cell 10 24, .tmp 11, .tmp 12] := by kernel_rfl
  have HA0 := Lib.hid (A0.start w next A n c)
  have HRg : Hid (∀ X, Below w.heap.size w X → Calls Try.prog 24 #[.agg #[.int .i64 next, .slice A n c]] X (Ret X (.bool true))) := Lib.hid fun X hX => by
    have := refRight_any X hi next A n c nds (h.below (hX.mono hh)) (Nat.le_trans hh hX.size)
    rw [hr] at this
    exact this
  have HE := Lib.hid hE
  clear hE
  have hp0 : (parent != 0) = false := by rw [h0]; rfl
  have hrm := rightM hr
  have hn4 : n ≤ 4096 := by rw [← h.1]; exact hrm.len
  have HAi : Hid (∀ X, Below w.heap.size w X → Calls Try.prog 26 #[.agg #[.int .i64 next, .slice A n c], .int .i64 id] X (Ret X (.int .i64 i))) := Lib.hid fun X hX => by
    have := refAt_any X hi next id A n c nds (h.below (hX.mono hh)) (Nat.le_trans hh hX.size) hrm.rise hn4
    rw [hav] at this
    exact this
  have hi0 : ¬ (i : Int) < 0 := by omega
  obtain ⟨hv, hhv⟩ : ∃ k, hiV nds id = k := ⟨_, rfl⟩
  have hh64 := hi_le hrm hx
  rw [hhv] at hh64 hmay
  have HHg : Hid (∀ X, Below w.heap.size w X → Calls Try.prog 29 #[.agg #[.int .i64 next, .slice A n c], .int .i64 id] X (Ret X (.int .i64 hv))) := Lib.hid fun X hX => by
    rw [← hhv]; exact refHigh_any X hi next id A n c nds (h.below (hX.mono hh)) (Nat.le_trans hh hX.size) hrm nd hx
  have HMy : Hid (∀ X, Below w.heap.size w X → Calls Try.prog 32 #[.agg #[.int .i64 next, .slice A n c], .int .i64 parent, .string role, .int .i64 at_, .int .i64 hv] X (Ret X (.int .i64 0))) := Lib.hid fun X hX => by
    have := may_lax X hi next parent at_ role hv A n c nds (h.below (hX.mono hh)) (Nat.le_trans hh hX.size) hrm.lax hh64 hpx
    rw [hmay] at this
    exact this
  have HDn : Hid (∀ X, Below w.heap.size w X → Calls Try.prog 28 #[.agg #[.int .i64 next, .slice A n c], .int .i64 id] X (ListR X (belowV nds id))) := Lib.hid fun X hX => refDown_any X hi next id A n c nds (h.below (hX.mono hh)) (Nat.le_trans hh hX.size) hrm nd hx
  have hpb := pre_below hrm hx
  obtain ⟨lb, hlb⟩ : ∃ lb, belowV nds id = lb := ⟨_, rfl⟩
  rw [hlb] at HDn hpb
  obtain ⟨S, hS⟩ : ∃ S, preI nds id = S := ⟨_, rfl⟩
  rw [hS] at hpb
  have HPB := Lib.hid hpb
  have hSl : S.length = lb.length + 1 := by rw [← hpb]; rfl
  have HSL := Lib.hid hSl
  have hS4 : S.length ≤ 4096 := by rw [← hS]; exact Nat.le_trans (preI_len hrm hx) hrm.len
  have hlb4 : lb.length + 1 ≤ 4096 := by omega
  rw [h.1, hS] at hfu
  have hlo := hrm.lo
  have hhn := hrm.hi
  obtain ⟨j0, hji, hy0, hy1, hy2⟩ := info_parts intInfo
  clear h hr hrm hav hx hpx hmay hhv hh64 hlb hS hpb hSl h0
  go_enter Try.func9, Try.ntmps9
  go_upto_region 7 with (first | (go_at_call 24; (with_reducible refine (HRg.out _ HA0.out.bel).mono ?_); go_must (rintro e w1 ⟨rfl, hb1⟩; have ha1 := HA0.out.after hb1; have r10 := ha1.r.cell 0; have r11 := ha1.r.cell 1; have r12 := ha1.r.frozen 0; have r13 := ha1.r.frozen 1; have m10 := ha1.m.cell 0; have m11 := ha1.m.cell 1; simp at r10 r11 m10 m11; have HA1 := Lib.hid ha1; clear ha1 hb1)) | (go_at_call 26; (with_reducible refine (HAi.out _ HA1.out.bel).mono ?_); go_must (rintro e w3 ⟨rfl, hb3⟩; have ha3 := HA1.out.after hb3; have r30 := ha3.r.cell 0; have r31 := ha3.r.cell 1; have r32 := ha3.r.frozen 0; have r33 := ha3.r.frozen 1; have m30 := ha3.m.cell 0; have m31 := ha3.m.cell 1; simp at r30 r31 m30 m31; have HA3 := Lib.hid ha3; clear ha3 hb3)))
  have f3 := (HA3.out.m.cell 0).trans (show _ = some (.int .i64 next) from rfl)
  have f4 := (HA3.out.m.cell 1).trans (show _ = some (.slice A n c) from rfl)
  have q3 := cell_regrown f3
  have q4 := cell_regrown f4
  have HGq := Lib.hid fun (d : Nat) (os : Array Obj) => HHg.out _ (HA3.out.bel.trans ((below_regrown _ d os).mono HA3.out.bel.size))
  have HMq := Lib.hid fun (d : Nat) (os : Array Obj) => HMy.out _ (HA3.out.bel.trans ((below_regrown _ d os).mono HA3.out.bel.size))
  clear f3 f4
  refine wp_region_quiet_below (by kernel_rfl) (by kernel_rfl) ?_
  repeat (go_big_quiet_step ((first | (go_at_call 29; exact regrown_ret (HGq.out _ _)) | (go_at_call 32; exact regrown_ret (HMq.out _ _)))))
  refine wpQuiet_nil ?_
  intro _ hw'
  obtain ⟨⟨dq, osq⟩, hw''⟩ := hw'
  subst hw''
  have HZ := Lib.hid (HA3.out.after (below_regrown _ dq osq))
  generalize grow (redrawn _ dq) osq = wz at HZ ⊢
  clear q3 q4
  have c0 := HZ.out.r.cell 0
  have c1 := HZ.out.r.cell 1
  have c2 := HZ.out.r.frozen 0
  have c3 := HZ.out.r.frozen 1
  have c4 := HZ.out.m.cell 0
  have c5 := HZ.out.m.cell 1
  simp at c0 c1 c4 c5
  go_upto_region 13 with (first | (at_builtin; (with_reducible show wpList _ _ _ (⟨some 63, _, _, _, _, _⟩ :: _) _ _); go_must (refine wpList_app _ rfl (.tmp 60) (.tmp 62) _ rfl w.heap.size 3 j0 _ 1 8 Try.underlying41 hji hy0 hy1 hy2 rfl (by omega) (.slice none 0 0) 0 [] rfl ⟨by simp, .inl ⟨rfl, rfl⟩⟩ wz.heap.size (wz.heap.size + 1) (some ⟨wz.heap.size, 0, none⟩) 1 1 [.int .i64 id] rfl (row_blk (n := 1) (Blk.new' rfl) rfl (Nat.le_refl _) (by unfold maxLen; omega)) (by simp [Value.oneCell']) (by unfold maxLen; omega) (by omega) (Nat.le_trans HZ.out.bel.size (by simp)) ?_); go_must (intro v8 w8 hown8 hg8 _; have HP8 := Lib.hid (PA.first (HZ.out.after (below_more (Below.refl _ _) _)) hg8 hown8); have e80 := HP8.out.a.m.cell 0; have e81 := HP8.out.a.m.cell 1; simp at e80 e81; clear hown8 hg8)) | (go_at_call 28; (with_reducible refine (HDn.out _ HP8.out.a.bel).mono ?_); go_must (rintro e w9 ⟨vb, rfl, hvb, hb9⟩; obtain ⟨Ab, cb, rfl⟩ := own_form hvb; have HVB := Lib.hid (own_row hvb); have HP9 := Lib.hid (HP8.out.after hb9); clear hb9 hvb)) | (at_builtin; (with_reducible show wpList _ _ _ (⟨some 68, _, _, _, _, _⟩ :: _) _ _); go_must (refine wpList_app _ rfl (.tmp 64) (.tmp 67) _ rfl w.heap.size 3 j0 _ 1 8 Try.underlying41 hji hy0 hy1 hy2 rfl (by omega) v8 1 (intCells [id]) rfl HP9.out.p _ _ Ab lb.length cb (intCells lb) rfl HVB.out (intCells_one _) (by unfold maxLen; omega) (by omega) HP9.out.a.bel.size ?_); go_must (intro v10 w10 hown10 hg10 _; have HP10 := Lib.hid (HP9.out.more hg10 hown10 HPB.out HSL.out); have d4 := HP10.out.a.m.cell 0; have d5 := HP10.out.a.m.cell 1; simp at d4 d5; clear hown10 hg10)))
  obtain ⟨Al, cl, rfl⟩ := own_form HP10.out.p
  have c0 := HP10.out.a.r.cell 0
  have c1 := HP10.out.a.r.cell 1
  have c2 := HP10.out.a.r.frozen 0
  have c3 := HP10.out.a.r.frozen 1
  simp at c0 c1
  rcases hfu with hfu | ⟨hf1, hfu⟩
  · have g1 : decide ((4096 : Int) < (n : Int) + (S.length : Int)) = true := by rw [decide_eq_true_eq]; omega
    have g2 : (4096 : Int) < (n : Int) + (S.length : Int) := by omega
    clear hfu
    go_wp2_with fail
    (try rw [Exit.noGoto_ret])
    (try simp only [Exit.inBlock, Exit.then])
    refine bodyPost_ret (v := .tuple #[.agg #[.int .i64 0, .slice none 0 0], .int .i64 0, .int .i64 4]) ?hr rfl ?_
    case hr =>
      simp only [results, hres]
      go_simp
    exact cp_err HE.out (by decide) ((HP10.out.a.bel.setCell (p := ⟨w.heap.size + 1, 0, none⟩) (by simp) _).setCell (p := ⟨w.heap.size + 1, 1, none⟩) (by simp) _)
  · have g1 : decide ((4096 : Int) < (n : Int) + (S.length : Int)) = false := by rw [decide_eq_false_iff_not]; omega
    have g2 : ¬ (4096 : Int) < (n : Int) + (S.length : Int) := by omega
    have g3 : decide ((1048577 : Int) < next + (S.length : Int)) = true := by rw [decide_eq_true_eq]; omega
    have g4 : (1048577 : Int) < next + (S.length : Int) := by omega
    clear hfu hf1
    go_wp2_with fail
    (try rw [Exit.noGoto_ret])
    (try simp only [Exit.inBlock, Exit.then])
    refine bodyPost_ret (v := .tuple #[.agg #[.int .i64 0, .slice none 0 0], .int .i64 0, .int .i64 4]) ?hr rfl ?_
    case hr =>
      simp only [results, hres]
      go_simp
    exact cp_err HE.out (by decide) ((HP10.out.a.bel.setCell (p := ⟨w.heap.size + 1, 0, none⟩) (by simp) _).setCell (p := ⟨w.heap.size + 1, 1, none⟩) (by simp) _)
set_option maxRecDepth 20000 in
set_option maxHeartbeats 1600000 in
theorem refCopy_e20p (w : World) (hi : Nat) (next id parent at_ : Int) (role : ByteArray) (A : Option Addr) (n c : Nat) (nds : List Nd) (h : NodesIn w 0 hi A n c nds) (hh : hi ≤ w.heap.size) (hs : role.size ≤ maxLen) (hr : rightB next nds = true) (h0 : parent ≠ 0) (hw : wordB role = true) (hav : atV nds id = -1) (hE : copyE next nds id parent role at_ = 20) :
    Calls Try.prog 9 #[.agg #[.int .i64 next, .slice A n c], .int .i64 id, .int .i64 parent, .string role, .int .i64 at_] w (CopyPost w next nds id parent role at_) := by
  have hres : Try.f9.results = #[.cell 10 24, .tmp 11, .tmp 12] := by kernel_rfl
  have HA0 := Lib.hid (A0.start w next A n c)
  have HRg : Hid (∀ X, Below w.heap.size w X → Calls Try.prog 24 #[.agg #[.int .i64 next, .slice A n c]] X (Ret X (.bool true))) := Lib.hid fun X hX => by
    have := refRight_any X hi next A n c nds (h.below (hX.mono hh)) (Nat.le_trans hh hX.size)
    rw [hr] at this
    exact this
  have HE := Lib.hid hE
  clear hE
  have HWd : Hid (∀ X, Calls Try.prog 25 #[.string role] X (Says X true)) := Lib.hid fun X => by have := refWord_any role X hs; rw [hw] at this; exact this
  have hp0 : (parent != 0) = true := by rw [bne_iff_ne]; exact h0
  have hrm := rightM hr
  have hn4 : n ≤ 4096 := by rw [← h.1]; exact hrm.len
  have HAi : Hid (∀ X, Below w.heap.size w X → Calls Try.prog 26 #[.agg #[.int .i64 next, .slice A n c], .int .i64 id] X (Ret X (.int .i64 (-1)))) := Lib.hid fun X hX => by
    have := refAt_any X hi next id A n c nds (h.below (hX.mono hh)) (Nat.le_trans hh hX.size) hrm.rise hn4
    rw [hav] at this
    exact this
  clear h hr hrm hav h0 hw
  go_enter Try.func9, Try.ntmps9
  go_wp2_with (first | (go_at_call 24; (with_reducible refine (HRg.out _ HA0.out.bel).mono ?_); go_must (rintro e w1 ⟨rfl, hb1⟩; have ha1 := HA0.out.after hb1; have r10 := ha1.r.cell 0; have r11 := ha1.r.cell 1; have r12 := ha1.r.frozen 0; have r13 := ha1.r.frozen 1; have m10 := ha1.m.cell 0; have m11 := ha1.m.cell 1; simp at r10 r11 m10 m11; have HA1 := Lib.hid ha1; clear ha1 hb1)) | (go_at_call 25; go_must (refine (HWd.out _).mono ?_; rintro e w2 ⟨rfl, rfl⟩)) | (go_at_call 26; (with_reducible refine (HAi.out _ HA1.out.bel).mono ?_); go_must (rintro e w3 ⟨rfl, hb3⟩; have ha3 := HA1.out.after hb3; have r30 := ha3.r.cell 0; have r31 := ha3.r.cell 1; have r32 := ha3.r.frozen 0; have r33 := ha3.r.frozen 1; have m30 := ha3.m.cell 0; have m31 := ha3.m.cell 1; simp at r30 r31 m30 m31; have HA3 := Lib.hid ha3; clear ha3 hb3)))
  (try rw [Exit.noGoto_ret])
  (try simp only [Exit.inBlock, Exit.then])
  refine bodyPost_ret (v := .tuple #[.agg #[.int .i64 0, .slice none 0 0], .int .i64 0, .int .i64 20]) ?hr rfl ?_
  case hr =>
    simp only [results, hres]
    go_simp
  exact cp_err HE.out (by decide) ((HA3.out.bel.setCell (p := ⟨w.heap.size + 1, 0, none⟩) (by simp) _).setCell (p := ⟨w.heap.size + 1, 1, none⟩) (by simp) _)
set_option maxRecDepth 20000 in
set_option maxHeartbeats 1600000 in
theorem refCopy_admp (w : World) (hi : Nat) (next id parent at_ : Int) (role : ByteArray) (A : Option Addr) (n c : Nat) (nds : List Nd) (h : NodesIn w 0 hi A n c nds) (hh : hi ≤ w.heap.size) (hs : role.size ≤ maxLen) (hr : rightB next nds = true) (h0 : parent ≠ 0) (hw : wordB role = true) (i : Nat) (hav : atV nds id = (i : Int)) (j : Nat) (hap : atV nds parent = (j : Int)) (nd : Nd) (hx : ndOf nds id = some nd) (hpx : parent ≠ 0 → ∃ x, ndOf nds parent = some x) (re : Int) (hre : re ≠ 0) (hmay : mayV nds parent role at_ (hiV nds id) = re) (hE : copyE next nds id parent role at_ = re) :
    Calls Try.prog 9 #[.agg #[.int .i64 next, .slice A n c], .int .i64 id, .int .i64 parent, .string role, .int .i64 at_] w (CopyPost w next nds id parent role at_) := by
  have hres : Try.f9.results = #[.cell 10 24, .tmp 11, .tmp 12] := by kernel_rfl
  have HA0 := Lib.hid (A0.start w next A n c)
  have HRg : Hid (∀ X, Below w.heap.size w X → Calls Try.prog 24 #[.agg #[.int .i64 next, .slice A n c]] X (Ret X (.bool true))) := Lib.hid fun X hX => by
    have := refRight_any X hi next A n c nds (h.below (hX.mono hh)) (Nat.le_trans hh hX.size)
    rw [hr] at this
    exact this
  have HE := Lib.hid hE
  clear hE
  have HWd : Hid (∀ X, Calls Try.prog 25 #[.string role] X (Says X true)) := Lib.hid fun X => by have := refWord_any role X hs; rw [hw] at this; exact this
  have hp0 : (parent != 0) = true := by rw [bne_iff_ne]; exact h0
  have hrm := rightM hr
  have hn4 : n ≤ 4096 := by rw [← h.1]; exact hrm.len
  have HAi : Hid (∀ X, Below w.heap.size w X → Calls Try.prog 26 #[.agg #[.int .i64 next, .slice A n c], .int .i64 id] X (Ret X (.int .i64 i))) := Lib.hid fun X hX => by
    have := refAt_any X hi next id A n c nds (h.below (hX.mono hh)) (Nat.le_trans hh hX.size) hrm.rise hn4
    rw [hav] at this
    exact this
  have HAp : Hid (∀ X, Below w.heap.size w X → Calls Try.prog 26 #[.agg #[.int .i64 next, .slice A n c], .int .i64 parent] X (Ret X (.int .i64 j))) := Lib.hid fun X hX => by
    have := refAt_any X hi next parent A n c nds (h.below (hX.mono hh)) (Nat.le_trans hh hX.size) hrm.rise hn4
    rw [hap] at this
    exact this
  have hj0 : ¬ (j : Int) < 0 := by omega
  have hi0 : ¬ (i : Int) < 0 := by omega
  obtain ⟨hv, hhv⟩ : ∃ k, hiV nds id = k := ⟨_, rfl⟩
  have hh64 := hi_le hrm hx
  rw [hhv] at hh64 hmay
  have HHg : Hid (∀ X, Below w.heap.size w X → Calls Try.prog 29 #[.agg #[.int .i64 next, .slice A n c], .int .i64 id] X (Ret X (.int .i64 hv))) := Lib.hid fun X hX => by
    rw [← hhv]; exact refHigh_any X hi next id A n c nds (h.below (hX.mono hh)) (Nat.le_trans hh hX.size) hrm nd hx
  have HMy : Hid (∀ X, Below w.heap.size w X → Calls Try.prog 32 #[.agg #[.int .i64 next, .slice A n c], .int .i64 parent, .string role, .int .i64 at_, .int .i64 hv] X (Ret X (.int .i64 re))) := Lib.hid fun X hX => by
    have := may_lax X hi next parent at_ role hv A n c nds (h.below (hX.mono hh)) (Nat.le_trans hh hX.size) hrm.lax hh64 hpx
    rw [hmay] at this
    exact this
  have HNZ := Lib.hid hre
  have hnz : (re != 0) = true := by rw [bne_iff_ne]; exact hre
  clear h hr hrm hav hx hpx hmay hhv hre hh64 h0 hw hap
  go_enter Try.func9, Try.ntmps9
  go_upto_region 7 with (first | (go_at_call 24; (with_reducible refine (HRg.out _ HA0.out.bel).mono ?_); go_must (rintro e w1 ⟨rfl, hb1⟩; have ha1 := HA0.out.after hb1; have r10 := ha1.r.cell 0; have r11 := ha1.r.cell 1; have r12 := ha1.r.frozen 0; have r13 := ha1.r.frozen 1; have m10 := ha1.m.cell 0; have m11 := ha1.m.cell 1; simp at r10 r11 m10 m11; have HA1 := Lib.hid ha1; clear ha1 hb1)) | (go_at_call 25; go_must (refine (HWd.out _).mono ?_; rintro e w2 ⟨rfl, rfl⟩)) | (go_at_call 26; (with_reducible refine (HAi.out _ HA1.out.bel).mono ?_); go_must (rintro e w3 ⟨rfl, hb3⟩; have ha3 := HA1.out.after hb3; have r30 := ha3.r.cell 0; have r31 := ha3.r.cell 1; have r32 := ha3.r.frozen 0; have r33 := ha3.r.frozen 1; have m30 := ha3.m.cell 0; have m31 := ha3.m.cell 1; simp at r30 r31 m30 m31; have HA3 := Lib.hid ha3; clear ha3 hb3)) | (go_at_call 26; (with_reducible refine (HAp.out _ HA3.out.bel).mono ?_); go_must (rintro e w4 ⟨rfl, hb4⟩; have ha4 := HA3.out.after hb4; have r40 := ha4.r.cell 0; have r41 := ha4.r.cell 1; have r42 := ha4.r.frozen 0; have r43 := ha4.r.frozen 1; have m40 := ha4.m.cell 0; have m41 := ha4.m.cell 1; simp at r40 r41 m40 m41; have HA4 := Lib.hid ha4; clear ha4 hb4)))
  have f3 := (HA4.out.m.cell 0).trans (show _ = some (.int .i64 next) from rfl)
  have f4 := (HA4.out.m.cell 1).trans (show _ = some (.slice A n c) from rfl)
  have q3 := cell_regrown f3
  have q4 := cell_regrown f4
  have HGq := Lib.hid fun (d : Nat) (os : Array Obj) => HHg.out _ (HA4.out.bel.trans ((below_regrown _ d os).mono HA4.out.bel.size))
  have HMq := Lib.hid fun (d : Nat) (os : Array Obj) => HMy.out _ (HA4.out.bel.trans ((below_regrown _ d os).mono HA4.out.bel.size))
  clear f3 f4
  refine wp_region_quiet_below (by kernel_rfl) (by kernel_rfl) ?_
  repeat (go_big_quiet_step ((first | (go_at_call 29; exact regrown_ret (HGq.out _ _)) | (go_at_call 32; exact regrown_ret (HMq.out _ _)))))
  refine wpQuiet_nil ?_
  intro _ hw'
  obtain ⟨⟨dq, osq⟩, hw''⟩ := hw'
  subst hw''
  have HZ := Lib.hid (HA4.out.after (below_regrown _ dq osq))
  generalize grow (redrawn _ dq) osq = wz at HZ ⊢
  clear q3 q4
  have c0 := HZ.out.r.cell 0
  have c1 := HZ.out.r.cell 1
  have c2 := HZ.out.r.frozen 0
  have c3 := HZ.out.r.frozen 1
  have c4 := HZ.out.m.cell 0
  have c5 := HZ.out.m.cell 1
  simp at c0 c1 c4 c5
  go_wp2_with fail
  (try rw [Exit.noGoto_ret])
  (try simp only [Exit.inBlock, Exit.then])
  refine bodyPost_ret (v := .tuple #[.agg #[.int .i64 0, .slice none 0 0], .int .i64 0, .int .i64 re]) ?hr rfl ?_
  case hr =>
    simp only [results, hres]
    go_simp
  exact cp_err HE.out (HNZ.out) ((HZ.out.bel.setCell (p := ⟨w.heap.size + 1, 0, none⟩) (by simp) _).setCell (p := ⟨w.heap.size + 1, 1, none⟩) (by simp) _)
set_option maxRecDepth 20000 in
set_option maxHeartbeats 1600000 in
theorem refCopy_fullp (w : World) (hi : Nat) (next id parent at_ : Int) (role : ByteArray) (A : Option Addr) (n c : Nat) (nds : List Nd) (h : NodesIn w 0 hi A n c nds) (hh : hi ≤ w.heap.size) (hs : role.size ≤ maxLen) (hr : rightB next nds = true) (h0 : parent ≠ 0) (hw : wordB role = true) (i : Nat) (hav : atV nds id = (i : Int)) (j : Nat) (hap : atV nds parent = (j : Int)) (nd : Nd) (hx : ndOf nds id = some nd) (hpx : parent ≠ 0 → ∃ x, ndOf nds parent = some x) (hmay : mayV nds parent role at_ (hiV nds id) = 0) (hfu : 4096 < nds.length + (preI nds id).length ∨ (¬ 4096 < nds.length + (preI nds id).length ∧ 1048576 < next - 1 + ((preI nds id).length : Nat))) (hE : copyE next nds id parent role at_ = 4) :
    Calls Try.prog 9 #[.agg #[.int .i64 next, .slice A n c], .int .i64 id, .int .i64 parent, .string role, .int .i64 at_] w (CopyPost w next nds id parent role at_) := by
  have hres : Try.f9.results = #[.cell 10 24, .tmp 11, .tmp 12] := by kernel_rfl
  have HA0 := Lib.hid (A0.start w next A n c)
  have HRg : Hid (∀ X, Below w.heap.size w X → Calls Try.prog 24 #[.agg #[.int .i64 next, .slice A n c]] X (Ret X (.bool true))) := Lib.hid fun X hX => by
    have := refRight_any X hi next A n c nds (h.below (hX.mono hh)) (Nat.le_trans hh hX.size)
    rw [hr] at this
    exact this
  have HE := Lib.hid hE
  clear hE
  have HWd : Hid (∀ X, Calls Try.prog 25 #[.string role] X (Says X true)) := Lib.hid fun X => by have := refWord_any role X hs; rw [hw] at this; exact this
  have hp0 : (parent != 0) = true := by rw [bne_iff_ne]; exact h0
  have hrm := rightM hr
  have hn4 : n ≤ 4096 := by rw [← h.1]; exact hrm.len
  have HAi : Hid (∀ X, Below w.heap.size w X → Calls Try.prog 26 #[.agg #[.int .i64 next, .slice A n c], .int .i64 id] X (Ret X (.int .i64 i))) := Lib.hid fun X hX => by
    have := refAt_any X hi next id A n c nds (h.below (hX.mono hh)) (Nat.le_trans hh hX.size) hrm.rise hn4
    rw [hav] at this
    exact this
  have HAp : Hid (∀ X, Below w.heap.size w X → Calls Try.prog 26 #[.agg #[.int .i64 next, .slice A n c], .int .i64 parent] X (Ret X (.int .i64 j))) := Lib.hid fun X hX => by
    have := refAt_any X hi next parent A n c nds (h.below (hX.mono hh)) (Nat.le_trans hh hX.size) hrm.rise hn4
    rw [hap] at this
    exact this
  have hj0 : ¬ (j : Int) < 0 := by omega
  have hi0 : ¬ (i : Int) < 0 := by omega
  obtain ⟨hv, hhv⟩ : ∃ k, hiV nds id = k := ⟨_, rfl⟩
  have hh64 := hi_le hrm hx
  rw [hhv] at hh64 hmay
  have HHg : Hid (∀ X, Below w.heap.size w X → Calls Try.prog 29 #[.agg #[.int .i64 next, .slice A n c], .int .i64 id] X (Ret X (.int .i64 hv))) := Lib.hid fun X hX => by
    rw [← hhv]; exact refHigh_any X hi next id A n c nds (h.below (hX.mono hh)) (Nat.le_trans hh hX.size) hrm nd hx
  have HMy : Hid (∀ X, Below w.heap.size w X → Calls Try.prog 32 #[.agg #[.int .i64 next, .slice A n c], .int .i64 parent, .string role, .int .i64 at_, .int .i64 hv] X (Ret X (.int .i64 0))) := Lib.hid fun X hX => by
    have := may_lax X hi next parent at_ role hv A n c nds (h.below (hX.mono hh)) (Nat.le_trans hh hX.size) hrm.lax hh64 hpx
    rw [hmay] at this
    exact this
  have HDn : Hid (∀ X, Below w.heap.size w X → Calls Try.prog 28 #[.agg #[.int .i64 next, .slice A n c], .int .i64 id] X (ListR X (belowV nds id))) := Lib.hid fun X hX => refDown_any X hi next id A n c nds (h.below (hX.mono hh)) (Nat.le_trans hh hX.size) hrm nd hx
  have hpb := pre_below hrm hx
  obtain ⟨lb, hlb⟩ : ∃ lb, belowV nds id = lb := ⟨_, rfl⟩
  rw [hlb] at HDn hpb
  obtain ⟨S, hS⟩ : ∃ S, preI nds id = S := ⟨_, rfl⟩
  rw [hS] at hpb
  have HPB := Lib.hid hpb
  have hSl : S.length = lb.length + 1 := by rw [← hpb]; rfl
  have HSL := Lib.hid hSl
  have hS4 : S.length ≤ 4096 := by rw [← hS]; exact Nat.le_trans (preI_len hrm hx) hrm.len
  have hlb4 : lb.length + 1 ≤ 4096 := by omega
  rw [h.1, hS] at hfu
  have hlo := hrm.lo
  have hhn := hrm.hi
  obtain ⟨j0, hji, hy0, hy1, hy2⟩ := info_parts intInfo
  clear h hr hrm hav hx hpx hmay hhv hh64 hlb hS hpb hSl h0 hw hap
  go_enter Try.func9, Try.ntmps9
  go_upto_region 7 with (first | (go_at_call 24; (with_reducible refine (HRg.out _ HA0.out.bel).mono ?_); go_must (rintro e w1 ⟨rfl, hb1⟩; have ha1 := HA0.out.after hb1; have r10 := ha1.r.cell 0; have r11 := ha1.r.cell 1; have r12 := ha1.r.frozen 0; have r13 := ha1.r.frozen 1; have m10 := ha1.m.cell 0; have m11 := ha1.m.cell 1; simp at r10 r11 m10 m11; have HA1 := Lib.hid ha1; clear ha1 hb1)) | (go_at_call 25; go_must (refine (HWd.out _).mono ?_; rintro e w2 ⟨rfl, rfl⟩)) | (go_at_call 26; (with_reducible refine (HAi.out _ HA1.out.bel).mono ?_); go_must (rintro e w3 ⟨rfl, hb3⟩; have ha3 := HA1.out.after hb3; have r30 := ha3.r.cell 0; have r31 := ha3.r.cell 1; have r32 := ha3.r.frozen 0; have r33 := ha3.r.frozen 1; have m30 := ha3.m.cell 0; have m31 := ha3.m.cell 1; simp at r30 r31 m30 m31; have HA3 := Lib.hid ha3; clear ha3 hb3)) | (go_at_call 26; (with_reducible refine (HAp.out _ HA3.out.bel).mono ?_); go_must (rintro e w4 ⟨rfl, hb4⟩; have ha4 := HA3.out.after hb4; have r40 := ha4.r.cell 0; have r41 := ha4.r.cell 1; have r42 := ha4.r.frozen 0; have r43 := ha4.r.frozen 1; have m40 := ha4.m.cell 0; have m41 := ha4.m.cell 1; simp at r40 r41 m40 m41; have HA4 := Lib.hid ha4; clear ha4 hb4)))
  have f3 := (HA4.out.m.cell 0).trans (show _ = some (.int .i64 next) from rfl)
  have f4 := (HA4.out.m.cell 1).trans (show _ = some (.slice A n c) from rfl)
  have q3 := cell_regrown f3
  have q4 := cell_regrown f4
  have HGq := Lib.hid fun (d : Nat) (os : Array Obj) => HHg.out _ (HA4.out.bel.trans ((below_regrown _ d os).mono HA4.out.bel.size))
  have HMq := Lib.hid fun (d : Nat) (os : Array Obj) => HMy.out _ (HA4.out.bel.trans ((below_regrown _ d os).mono HA4.out.bel.size))
  clear f3 f4
  refine wp_region_quiet_below (by kernel_rfl) (by kernel_rfl) ?_
  repeat (go_big_quiet_step ((first | (go_at_call 29; exact regrown_ret (HGq.out _ _)) | (go_at_call 32; exact regrown_ret (HMq.out _ _)))))
  refine wpQuiet_nil ?_
  intro _ hw'
  obtain ⟨⟨dq, osq⟩, hw''⟩ := hw'
  subst hw''
  have HZ := Lib.hid (HA4.out.after (below_regrown _ dq osq))
  generalize grow (redrawn _ dq) osq = wz at HZ ⊢
  clear q3 q4
  have c0 := HZ.out.r.cell 0
  have c1 := HZ.out.r.cell 1
  have c2 := HZ.out.r.frozen 0
  have c3 := HZ.out.r.frozen 1
  have c4 := HZ.out.m.cell 0
  have c5 := HZ.out.m.cell 1
  simp at c0 c1 c4 c5
  go_upto_region 13 with (first | (at_builtin; (with_reducible show wpList _ _ _ (⟨some 63, _, _, _, _, _⟩ :: _) _ _); go_must (refine wpList_app _ rfl (.tmp 60) (.tmp 62) _ rfl w.heap.size 3 j0 _ 1 8 Try.underlying41 hji hy0 hy1 hy2 rfl (by omega) (.slice none 0 0) 0 [] rfl ⟨by simp, .inl ⟨rfl, rfl⟩⟩ wz.heap.size (wz.heap.size + 1) (some ⟨wz.heap.size, 0, none⟩) 1 1 [.int .i64 id] rfl (row_blk (n := 1) (Blk.new' rfl) rfl (Nat.le_refl _) (by unfold maxLen; omega)) (by simp [Value.oneCell']) (by unfold maxLen; omega) (by omega) (Nat.le_trans HZ.out.bel.size (by simp)) ?_); go_must (intro v8 w8 hown8 hg8 _; have HP8 := Lib.hid (PA.first (HZ.out.after (below_more (Below.refl _ _) _)) hg8 hown8); have e80 := HP8.out.a.m.cell 0; have e81 := HP8.out.a.m.cell 1; simp at e80 e81; clear hown8 hg8)) | (go_at_call 28; (with_reducible refine (HDn.out _ HP8.out.a.bel).mono ?_); go_must (rintro e w9 ⟨vb, rfl, hvb, hb9⟩; obtain ⟨Ab, cb, rfl⟩ := own_form hvb; have HVB := Lib.hid (own_row hvb); have HP9 := Lib.hid (HP8.out.after hb9); clear hb9 hvb)) | (at_builtin; (with_reducible show wpList _ _ _ (⟨some 68, _, _, _, _, _⟩ :: _) _ _); go_must (refine wpList_app _ rfl (.tmp 64) (.tmp 67) _ rfl w.heap.size 3 j0 _ 1 8 Try.underlying41 hji hy0 hy1 hy2 rfl (by omega) v8 1 (intCells [id]) rfl HP9.out.p _ _ Ab lb.length cb (intCells lb) rfl HVB.out (intCells_one _) (by unfold maxLen; omega) (by omega) HP9.out.a.bel.size ?_); go_must (intro v10 w10 hown10 hg10 _; have HP10 := Lib.hid (HP9.out.more hg10 hown10 HPB.out HSL.out); have d4 := HP10.out.a.m.cell 0; have d5 := HP10.out.a.m.cell 1; simp at d4 d5; clear hown10 hg10)))
  obtain ⟨Al, cl, rfl⟩ := own_form HP10.out.p
  have c0 := HP10.out.a.r.cell 0
  have c1 := HP10.out.a.r.cell 1
  have c2 := HP10.out.a.r.frozen 0
  have c3 := HP10.out.a.r.frozen 1
  simp at c0 c1
  rcases hfu with hfu | ⟨hf1, hfu⟩
  · have g1 : decide ((4096 : Int) < (n : Int) + (S.length : Int)) = true := by rw [decide_eq_true_eq]; omega
    have g2 : (4096 : Int) < (n : Int) + (S.length : Int) := by omega
    clear hfu
    go_wp2_with fail
    (try rw [Exit.noGoto_ret])
    (try simp only [Exit.inBlock, Exit.then])
    refine bodyPost_ret (v := .tuple #[.agg #[.int .i64 0, .slice none 0 0], .int .i64 0, .int .i64 4]) ?hr rfl ?_
    case hr =>
      simp only [results, hres]
      go_simp
    exact cp_err HE.out (by decide) ((HP10.out.a.bel.setCell (p := ⟨w.heap.size + 1, 0, none⟩) (by simp) _).setCell (p := ⟨w.heap.size + 1, 1, none⟩) (by simp) _)
  · have g1 : decide ((4096 : Int) < (n : Int) + (S.length : Int)) = false := by rw [decide_eq_false_iff_not]; omega
    have g2 : ¬ (4096 : Int) < (n : Int) + (S.length : Int) := by omega
    have g3 : decide ((1048577 : Int) < next + (S.length : Int)) = true := by rw [decide_eq_true_eq]; omega
    have g4 : (1048577 : Int) < next + (S.length : Int) := by omega
    clear hfu hf1
    go_wp2_with fail
    (try rw [Exit.noGoto_ret])
    (try simp only [Exit.inBlock, Exit.then])
    refine bodyPost_ret (v := .tuple #[.agg #[.int .i64 0, .slice none 0 0], .int .i64 0, .int .i64 4]) ?hr rfl ?_
    case hr =>
      simp only [results, hres]
      go_simp
    exact cp_err HE.out (by decide) ((HP10.out.a.bel.setCell (p := ⟨w.heap.size + 1, 0, none⟩) (by simp) _).setCell (p := ⟨w.heap.size + 1, 1, none⟩) (by simp) _)
set_option maxRecDepth 20000 in
set_option maxHeartbeats 1600000 in
theorem refCopy_e20pp (w : World) (hi : Nat) (next id parent at_ : Int) (role : ByteArray) (A : Option Addr) (n c : Nat) (nds : List Nd) (h : NodesIn w 0 hi A n c nds) (hh : hi ≤ w.heap.size) (hs : role.size ≤ maxLen) (hr : rightB next nds = true) (h0 : parent ≠ 0) (hw : wordB role = true) (i : Nat) (hav : atV nds id = (i : Int)) (hap : atV nds parent = -1) (hE : copyE next nds id parent role at_ = 20) :
    Calls Try.prog 9 #[.agg #[.int .i64 next, .slice A n c], .int .i64 id, .int .i64 parent, .string role, .int .i64 at_] w (CopyPost w next nds id parent role at_) := by
  have hres : Try.f9.results = #[.cell 10 24, .tmp 11, .tmp 12] := by kernel_rfl
  have HA0 := Lib.hid (A0.start w next A n c)
  have HRg : Hid (∀ X, Below w.heap.size w X → Calls Try.prog 24 #[.agg #[.int .i64 next, .slice A n c]] X (Ret X (.bool true))) := Lib.hid fun X hX => by
    have := refRight_any X hi next A n c nds (h.below (hX.mono hh)) (Nat.le_trans hh hX.size)
    rw [hr] at this
    exact this
  have HE := Lib.hid hE
  clear hE
  have HWd : Hid (∀ X, Calls Try.prog 25 #[.string role] X (Says X true)) := Lib.hid fun X => by have := refWord_any role X hs; rw [hw] at this; exact this
  have hp0 : (parent != 0) = true := by rw [bne_iff_ne]; exact h0
  have hrm := rightM hr
  have hn4 : n ≤ 4096 := by rw [← h.1]; exact hrm.len
  have HAi : Hid (∀ X, Below w.heap.size w X → Calls Try.prog 26 #[.agg #[.int .i64 next, .slice A n c], .int .i64 id] X (Ret X (.int .i64 i))) := Lib.hid fun X hX => by
    have := refAt_any X hi next id A n c nds (h.below (hX.mono hh)) (Nat.le_trans hh hX.size) hrm.rise hn4
    rw [hav] at this
    exact this
  have HAp : Hid (∀ X, Below w.heap.size w X → Calls Try.prog 26 #[.agg #[.int .i64 next, .slice A n c], .int .i64 parent] X (Ret X (.int .i64 (-1)))) := Lib.hid fun X hX => by
    have := refAt_any X hi next parent A n c nds (h.below (hX.mono hh)) (Nat.le_trans hh hX.size) hrm.rise hn4
    rw [hap] at this
    exact this
  have hi0 : ¬ (i : Int) < 0 := by omega
  clear h hr hrm hav hap h0 hw
  go_enter Try.func9, Try.ntmps9
  go_wp2_with (first | (go_at_call 24; (with_reducible refine (HRg.out _ HA0.out.bel).mono ?_); go_must (rintro e w1 ⟨rfl, hb1⟩; have ha1 := HA0.out.after hb1; have r10 := ha1.r.cell 0; have r11 := ha1.r.cell 1; have r12 := ha1.r.frozen 0; have r13 := ha1.r.frozen 1; have m10 := ha1.m.cell 0; have m11 := ha1.m.cell 1; simp at r10 r11 m10 m11; have HA1 := Lib.hid ha1; clear ha1 hb1)) | (go_at_call 25; go_must (refine (HWd.out _).mono ?_; rintro e w2 ⟨rfl, rfl⟩)) | (go_at_call 26; (with_reducible refine (HAi.out _ HA1.out.bel).mono ?_); go_must (rintro e w3 ⟨rfl, hb3⟩; have ha3 := HA1.out.after hb3; have r30 := ha3.r.cell 0; have r31 := ha3.r.cell 1; have r32 := ha3.r.frozen 0; have r33 := ha3.r.frozen 1; have m30 := ha3.m.cell 0; have m31 := ha3.m.cell 1; simp at r30 r31 m30 m31; have HA3 := Lib.hid ha3; clear ha3 hb3)) | (go_at_call 26; (with_reducible refine (HAp.out _ HA3.out.bel).mono ?_); go_must (rintro e w4 ⟨rfl, hb4⟩; have ha4 := HA3.out.after hb4; have r40 := ha4.r.cell 0; have r41 := ha4.r.cell 1; have r42 := ha4.r.frozen 0; have r43 := ha4.r.frozen 1; have m40 := ha4.m.cell 0; have m41 := ha4.m.cell 1; simp at r40 r41 m40 m41; have HA4 := Lib.hid ha4; clear ha4 hb4)))
  (try rw [Exit.noGoto_ret])
  (try simp only [Exit.inBlock, Exit.then])
  refine bodyPost_ret (v := .tuple #[.agg #[.int .i64 0, .slice none 0 0], .int .i64 0, .int .i64 20]) ?hr rfl ?_
  case hr =>
    simp only [results, hres]
    go_simp
  exact cp_err HE.out (by decide) ((HA4.out.bel.setCell (p := ⟨w.heap.size + 1, 0, none⟩) (by simp) _).setCell (p := ⟨w.heap.size + 1, 1, none⟩) (by simp) _)
end Go.Proofs.Ytfljndlmafcjeaa
namespace Go.Proofs.Ytfljndlmafcjeaa
open Go Go.RowKit Go.Sort
set_option linter.unusedVariables false
attribute [local go_sem ↓] Go.wp_at_zero Go.wp_at_succ
/-- the boxes, the part, and the model that is made; u: the list's value as it is stored, v: as it is -/
structure RC (w : World) (next : Int) (A : Option Addr) (n c go : Nat) (pv : Value) (S : List Int) (nx : Int) (u v : Value) (lo : List (Nd × Leaf)) (X : World) : Prop where
  p : PA w next A n c pv S.length S X
  out : Blk X go 24 #[.int .i64 nx, u]
  own : OwnM X w.heap.size v lo
  le : w.heap.size ≤ go
  n1 : w.heap.size ≠ go
  n2 : w.heap.size + 1 ≠ go
section
variable {w X X' : World} {next nx : Int} {A : Option Addr} {n c go g m co : Nat} {pv u v v' : Value} {S : List Int} {lo l' : List (Nd × Leaf)} {p : Nd × Leaf}
theorem RC.after (h : RC w next A n c go pv S nx u v lo X) (hb : Below X.heap.size X X') : RC w next A n c go pv S nx u v lo X' := ⟨h.p.after hb, h.out.after hb, h.own.after hb, h.le, h.n1, h.n2⟩
theorem PA.kept {n' : Nat} {v0 : Value} {xs : List Value} (h : PA w next A n c pv S.length S X) (ho : X.ownsRow w.heap.size 44 7 v0 n' xs) (hg : X.grownBy X' v0.ownBlock) : PA w next A n c pv S.length S X' :=
  ⟨⟨h.a.m.grown hg (Ne.symm (own_blk_ne ho h.a.m (by decide))), h.a.r.grown hg (Ne.symm (own_blk_ne ho h.a.r (by decide))), below_grows h.a.bel hg ho (Nat.le_refl _)⟩, own_kept h.p ho (by decide) hg⟩
theorem RC.push (h : RC w next A n c go pv S nx u v lo X) (hg : X.grownBy X' v.ownBlock) (hown : X'.ownsRow w.heap.size 44 7 v' (lo.length + 1) (allCells lo ++ ndCells p)) (hp : OwnLeaf X w.heap.size p.1 p.2) : RC w next A n c go pv S nx u v' (lo ++ [p]) X' :=
  ⟨h.p.kept h.own.own hg, h.out.grown hg (Ne.symm (own_blk_ne h.own.own h.out (by decide))), h.own.push hg hown hp, h.le, h.n1, h.n2⟩
theorem PA.far {cs : Array Value} (h : PA w next A n c pv S.length S X) (hg : Blk X go 24 cs) (n1 : w.heap.size ≠ go) (n2 : w.heap.size + 1 ≠ go) (le : w.heap.size ≤ go) (i : Nat) (x : Value) : PA w next A n c pv S.length S (X.setCell ⟨go, i, none⟩ x) :=
  ⟨⟨h.a.m.far (p := ⟨go, i, none⟩) n1 x, h.a.r.far (p := ⟨go, i, none⟩) n2 x, h.a.bel.setCell (p := ⟨go, i, none⟩) le x⟩, own_other h.p hg (by decide) i x⟩
theorem RC.store (h : RC w next A n c go pv S nx u v lo X) : RC w next A n c go pv S nx v v lo (X.setCell ⟨go, 1, none⟩ v) :=
  ⟨h.p.far h.out h.n1 h.n2 h.le 1 v, h.out.set_ 1 v, h.own.other h.out 1 v, h.le, h.n1, h.n2⟩
theorem RC.setNx (h : RC w next A n c go pv S nx u v lo X) (y : Int) : RC w next A n c go pv S y u v lo (X.setCell ⟨go, 0, none⟩ (.int .i64 y)) :=
  ⟨h.p.far h.out h.n1 h.n2 h.le 0 _, h.out.set_ 0 _, h.own.other h.out 0 _, h.le, h.n1, h.n2⟩
theorem CN.lay {wr : World} {gn : Nat} {nd : Nd} {L : Leaf} {a0 a1 a2 a3 a4 a5 a6 : Value} (hX : Below wr.heap.size wr X) (hu : Blk X gn 44 #[a0, a1, a2, a3, a4, a5, a6]) (hl : OwnLeaf X wr.heap.size nd L) (hg : wr.heap.size ≤ gn) :
    CN wr gn nd L (((((((X.setCell ⟨gn, 0, none⟩ (.int .i64 nd.id)).setCell ⟨gn, 1, none⟩ (.string nd.con)).setCell ⟨gn, 2, none⟩ (.int .i64 nd.par)).setCell ⟨gn, 3, none⟩ (.string nd.role)).setCell ⟨gn, 4, none⟩ (.slice L.p.A L.p.n L.p.c)).setCell ⟨gn, 5, none⟩ (.slice L.k.A L.k.n L.k.c)).setCell ⟨gn, 6, none⟩ (.slice L.r.A L.r.n L.r.c)) := by
  have key : ∀ (Y : World) (cs : Array Value) (i : Nat) (x : Value), Below wr.heap.size wr Y ∧ Blk Y gn 44 cs ∧ OwnLeaf Y wr.heap.size nd L → Below wr.heap.size wr (Y.setCell ⟨gn, i, none⟩ x) ∧ Blk (Y.setCell ⟨gn, i, none⟩ x) gn 44 (cs.setIfInBounds i x) ∧ OwnLeaf (Y.setCell ⟨gn, i, none⟩ x) wr.heap.size nd L := fun Y cs i x ⟨p, q, r⟩ => ⟨below_set p hg, q.set_ i x, r.other q (by decide) (by decide) (by decide) i x⟩
  have h7 := key _ _ 6 (.slice L.r.A L.r.n L.r.c) (key _ _ 5 (.slice L.k.A L.k.n L.k.c) (key _ _ 4 (.slice L.p.A L.p.n L.p.c) (key _ _ 3 (.string nd.role) (key _ _ 2 (.int .i64 nd.par) (key _ _ 1 (.string nd.con) (key _ _ 0 (.int .i64 nd.id) ⟨hX, hu, hl⟩))))))
  exact ⟨h7.1, by simpa using h7.2.1, h7.2.2, hg⟩
theorem RC.turned (h : RC w next A n c go pv S nx u (.slice (some ⟨g, 0, none⟩) m co) lo X) (ho : OwnM X' w.heap.size (.slice (some ⟨g, 0, none⟩) m co) l') (hg : X.grownBy X' (some g)) : RC w next A n c go pv S nx u (.slice (some ⟨g, 0, none⟩) m co) l' X' :=
  ⟨h.p.kept (v0 := .slice (some ⟨g, 0, none⟩) m co) h.own.own hg, h.out.grown hg (Ne.symm (own_blk_ne h.own.own h.out (by decide))), ho, h.le, h.n1, h.n2⟩
end
end Go.Proofs.Ytfljndlmafcjeaa

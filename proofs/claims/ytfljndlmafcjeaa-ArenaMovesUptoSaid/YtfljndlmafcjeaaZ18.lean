/-
  WALKS: a node is moved: the document's, where it tells an error.
-/
import Derived.Test.YtfljndlmafcjeaaZ17
namespace Go.Proofs.Ytfljndlmafcjeaa
open Go Go.RowKit Go.Sort
set_option linter.unusedVariables false
attribute [local go_sem ↓] Go.wp_at_zero Go.wp_at_succ
set_option maxRecDepth 20000 in
set_option maxHeartbeats 1600000 in
theorem refMove_e29 (w : World) (hi : Nat) (next id parent at_ : Int) (role : ByteArray) (A : Option Addr) (n c : Nat) (nds : List Nd) (h : NodesIn w 0 hi A n c nds) (hh : hi ≤ w.heap.size) (hs : role.size ≤ maxLen) (hr : rightB next nds = false) (hE : moveE next nds id parent role at_ = 29) :
    Calls Try.prog 7 #[.agg #[.int .i64 next, .slice A n c], .int .i64 id, .int .i64 parent, .string role, .int .i64 at_] w (SetPost w next (moveE next nds id parent role at_) (moveL next nds id parent role at_)) := by
  have hres : Try.f7.results = #[.cell 10 24, .tmp 11] := by kernel_rfl
  have HA0 := Lib.hid (A0.start w next A n c)
  have HRg : Hid (∀ X, Below w.heap.size w X → Calls Try.prog 24 #[.agg #[.int .i64 next, .slice A n c]] X (Ret X (.bool false))) := Lib.hid fun X hX => by
    have := refRight_any X hi next A n c nds (h.below (hX.mono hh)) (Nat.le_trans hh hX.size)
    rw [hr] at this
    exact this
  have HE := Lib.hid hE
  clear hE
  clear h hr
  go_enter Try.func7, Try.ntmps7
  go_wp2_with (go_at_call 24; (with_reducible refine (HRg.out _ HA0.out.bel).mono ?_); go_must (rintro e w1 ⟨rfl, hb1⟩; have ha1 := HA0.out.after hb1; have r10 := ha1.r.cell 0; have r11 := ha1.r.cell 1; have r12 := ha1.r.frozen 0; have r13 := ha1.r.frozen 1; have m10 := ha1.m.cell 0; have m11 := ha1.m.cell 1; simp at r10 r11 m10 m11; have HA1 := Lib.hid ha1; clear ha1 hb1))
  (try rw [Exit.noGoto_ret])
  (try simp only [Exit.inBlock, Exit.then])
  refine bodyPost_ret (v := .tuple #[.agg #[.int .i64 0, .slice none 0 0], .int .i64 29]) ?hr rfl ?_
  case hr =>
    simp only [results, hres]
    go_simp
  rw [HE.out]
  exact mv_err (by decide) ((HA1.out.bel.setCell (p := ⟨w.heap.size + 1, 0, none⟩) (by simp) _).setCell (p := ⟨w.heap.size + 1, 1, none⟩) (by simp) _)
set_option maxRecDepth 20000 in
set_option maxHeartbeats 1600000 in
theorem refMove_e2 (w : World) (hi : Nat) (next id parent at_ : Int) (role : ByteArray) (A : Option Addr) (n c : Nat) (nds : List Nd) (h : NodesIn w 0 hi A n c nds) (hh : hi ≤ w.heap.size) (hs : role.size ≤ maxLen) (hr : rightB next nds = true) (h0 : parent ≠ 0) (hw : wordB role = false) (hE : moveE next nds id parent role at_ = 2) :
    Calls Try.prog 7 #[.agg #[.int .i64 next, .slice A n c], .int .i64 id, .int .i64 parent, .string role, .int .i64 at_] w (SetPost w next (moveE next nds id parent role at_) (moveL next nds id parent role at_)) := by
  have hres : Try.f7.results = #[.cell 10 24, .tmp 11] := by kernel_rfl
  have HA0 := Lib.hid (A0.start w next A n c)
  have HRg : Hid (∀ X, Below w.heap.size w X → Calls Try.prog 24 #[.agg #[.int .i64 next, .slice A n c]] X (Ret X (.bool true))) := Lib.hid fun X hX => by
    have := refRight_any X hi next A n c nds (h.below (hX.mono hh)) (Nat.le_trans hh hX.size)
    rw [hr] at this
    exact this
  have HE := Lib.hid hE
  clear hE
  have HWd : Hid (∀ X, Calls Try.prog 25 #[.string role] X (Says X false)) := Lib.hid fun X => by have := refWord_any role X hs; rw [hw] at this; exact this
  have hp0 : (parent != 0) = true := by rw [bne_iff_ne]; exact h0
  clear h hr hw h0
  go_enter Try.func7, Try.ntmps7
  go_wp2_with (first | (go_at_call 24; (with_reducible refine (HRg.out _ HA0.out.bel).mono ?_); go_must (rintro e w1 ⟨rfl, hb1⟩; have ha1 := HA0.out.after hb1; have r10 := ha1.r.cell 0; have r11 := ha1.r.cell 1; have r12 := ha1.r.frozen 0; have r13 := ha1.r.frozen 1; have m10 := ha1.m.cell 0; have m11 := ha1.m.cell 1; simp at r10 r11 m10 m11; have HA1 := Lib.hid ha1; clear ha1 hb1)) | (go_at_call 25; go_must (refine (HWd.out _).mono ?_; rintro e w2 ⟨rfl, rfl⟩)))
  (try rw [Exit.noGoto_ret])
  (try simp only [Exit.inBlock, Exit.then])
  refine bodyPost_ret (v := .tuple #[.agg #[.int .i64 0, .slice none 0 0], .int .i64 2]) ?hr rfl ?_
  case hr =>
    simp only [results, hres]
    go_simp
  rw [HE.out]
  exact mv_err (by decide) ((HA1.out.bel.setCell (p := ⟨w.heap.size + 1, 0, none⟩) (by simp) _).setCell (p := ⟨w.heap.size + 1, 1, none⟩) (by simp) _)
set_option maxRecDepth 20000 in
set_option maxHeartbeats 1600000 in
theorem refMove_e20r (w : World) (hi : Nat) (next id parent at_ : Int) (role : ByteArray) (A : Option Addr) (n c : Nat) (nds : List Nd) (h : NodesIn w 0 hi A n c nds) (hh : hi ≤ w.heap.size) (hs : role.size ≤ maxLen) (hr : rightB next nds = true) (h0 : parent = 0) (hav : atV nds id = -1) (hE : moveE next nds id parent role at_ = 20) :
    Calls Try.prog 7 #[.agg #[.int .i64 next, .slice A n c], .int .i64 id, .int .i64 parent, .string role, .int .i64 at_] w (SetPost w next (moveE next nds id parent role at_) (moveL next nds id parent role at_)) := by
  have hres : Try.f7.results = #[.cell 10 24, .tmp 11] := by kernel_rfl
  have HA0 := Lib.hid (A0.start w next A n c)
  have HRg : Hid (∀ X, Below w.heap.size w X → Calls Try.prog 24 #[.agg #[.int .i64 next, .slice A n c]] X (Ret X (.bool true))) := Lib.hid fun X hX => by
    have := refRight_any X hi next A n c nds (h.below (hX.mono hh)) (Nat.le_trans hh hX.size)
    rw [hr] at this
    exact this
  have HE := Lib.hid hE
  clear hE
  have hp0 : (parent != 0) = false := by rw [h0]; rfl
  have hrm := rightM hr
  have hn4 : n ≤ 4096 := by rw [← h.1]; exact hrm.len
  have HAi : Hid (∀ X, Below w.heap.size w X → Calls Try.prog 26 #[.agg #[.int .i64 next, .slice A n c], .int .i64 id] X (Ret X (.int .i64 (-1)))) := Lib.hid fun X hX => by
    have := refAt_any X hi next id A n c nds (h.below (hX.mono hh)) (Nat.le_trans hh hX.size) hrm.rise hn4
    rw [hav] at this
    exact this
  clear h hr hrm hav h0
  go_enter Try.func7, Try.ntmps7
  go_wp2_with (first | (go_at_call 24; (with_reducible refine (HRg.out _ HA0.out.bel).mono ?_); go_must (rintro e w1 ⟨rfl, hb1⟩; have ha1 := HA0.out.after hb1; have r10 := ha1.r.cell 0; have r11 := ha1.r.cell 1; have r12 := ha1.r.frozen 0; have r13 := ha1.r.frozen 1; have m10 := ha1.m.cell 0; have m11 := ha1.m.cell 1; simp at r10 r11 m10 m11; have HA1 := Lib.hid ha1; clear ha1 hb1)) | (go_at_call 26; (with_reducible refine (HAi.out _ HA1.out.bel).mono ?_); go_must (rintro e w3 ⟨rfl, hb3⟩; have ha3 := HA1.out.after hb3; have r30 := ha3.r.cell 0; have r31 := ha3.r.cell 1; have r32 := ha3.r.frozen 0; have r33 := ha3.r.frozen 1; have m30 := ha3.m.cell 0; have m31 := ha3.m.cell 1; simp at r30 r31 m30 m31; have HA3 := Lib.hid ha3; clear ha3 hb3)))
  (try rw [Exit.noGoto_ret])
  (try simp only [Exit.inBlock, Exit.then])
  refine bodyPost_ret (v := .tuple #[.agg #[.int .i64 0, .slice none 0 0], .int .i64 20]) ?hr rfl ?_
  case hr =>
    simp only [results, hres]
    go_simp
  rw [HE.out]
  exact mv_err (by decide) ((HA3.out.bel.setCell (p := ⟨w.heap.size + 1, 0, none⟩) (by simp) _).setCell (p := ⟨w.heap.size + 1, 1, none⟩) (by simp) _)
set_option maxRecDepth 20000 in
set_option maxHeartbeats 1600000 in
theorem refMove_e21r (w : World) (hi : Nat) (next id parent at_ : Int) (role : ByteArray) (A : Option Addr) (n c : Nat) (nds : List Nd) (h : NodesIn w 0 hi A n c nds) (hh : hi ≤ w.heap.size) (hs : role.size ≤ maxLen) (hr : rightB next nds = true) (h0 : parent = 0) (i : Nat) (hav : atV nds id = (i : Int)) (heq : parent = id) (hE : moveE next nds id parent role at_ = 21) :
    Calls Try.prog 7 #[.agg #[.int .i64 next, .slice A n c], .int .i64 id, .int .i64 parent, .string role, .int .i64 at_] w (SetPost w next (moveE next nds id parent role at_) (moveL next nds id parent role at_)) := by
  have hres : Try.f7.results = #[.cell 10 24, .tmp 11] := by kernel_rfl
  have HA0 := Lib.hid (A0.start w next A n c)
  have HRg : Hid (∀ X, Below w.heap.size w X → Calls Try.prog 24 #[.agg #[.int .i64 next, .slice A n c]] X (Ret X (.bool true))) := Lib.hid fun X hX => by
    have := refRight_any X hi next A n c nds (h.below (hX.mono hh)) (Nat.le_trans hh hX.size)
    rw [hr] at this
    exact this
  have HE := Lib.hid hE
  clear hE
  have hp0 : (parent != 0) = false := by rw [h0]; rfl
  have hrm := rightM hr
  have hn4 : n ≤ 4096 := by rw [← h.1]; exact hrm.len
  have HAi : Hid (∀ X, Below w.heap.size w X → Calls Try.prog 26 #[.agg #[.int .i64 next, .slice A n c], .int .i64 id] X (Ret X (.int .i64 i))) := Lib.hid fun X hX => by
    have := refAt_any X hi next id A n c nds (h.below (hX.mono hh)) (Nat.le_trans hh hX.size) hrm.rise hn4
    rw [hav] at this
    exact this
  have hi0 : ¬ (i : Int) < 0 := by omega
  have hq : (parent == id) = true := by rw [beq_iff_eq]; exact heq
  clear h hr hrm hav heq h0
  go_enter Try.func7, Try.ntmps7
  go_wp2_with (first | (go_at_call 24; (with_reducible refine (HRg.out _ HA0.out.bel).mono ?_); go_must (rintro e w1 ⟨rfl, hb1⟩; have ha1 := HA0.out.after hb1; have r10 := ha1.r.cell 0; have r11 := ha1.r.cell 1; have r12 := ha1.r.frozen 0; have r13 := ha1.r.frozen 1; have m10 := ha1.m.cell 0; have m11 := ha1.m.cell 1; simp at r10 r11 m10 m11; have HA1 := Lib.hid ha1; clear ha1 hb1)) | (go_at_call 26; (with_reducible refine (HAi.out _ HA1.out.bel).mono ?_); go_must (rintro e w3 ⟨rfl, hb3⟩; have ha3 := HA1.out.after hb3; have r30 := ha3.r.cell 0; have r31 := ha3.r.cell 1; have r32 := ha3.r.frozen 0; have r33 := ha3.r.frozen 1; have m30 := ha3.m.cell 0; have m31 := ha3.m.cell 1; simp at r30 r31 m30 m31; have HA3 := Lib.hid ha3; clear ha3 hb3)))
  (try rw [Exit.noGoto_ret])
  (try simp only [Exit.inBlock, Exit.then])
  refine bodyPost_ret (v := .tuple #[.agg #[.int .i64 0, .slice none 0 0], .int .i64 21]) ?hr rfl ?_
  case hr =>
    simp only [results, hres]
    go_simp
  rw [HE.out]
  exact mv_err (by decide) ((HA3.out.bel.setCell (p := ⟨w.heap.size + 1, 0, none⟩) (by simp) _).setCell (p := ⟨w.heap.size + 1, 1, none⟩) (by simp) _)
set_option maxRecDepth 20000 in
set_option maxHeartbeats 1600000 in
theorem refMove_e21br (w : World) (hi : Nat) (next id parent at_ : Int) (role : ByteArray) (A : Option Addr) (n c : Nat) (nds : List Nd) (h : NodesIn w 0 hi A n c nds) (hh : hi ≤ w.heap.size) (hs : role.size ≤ maxLen) (hr : rightB next nds = true) (h0 : parent = 0) (i : Nat) (hav : atV nds id = (i : Int)) (heq : parent ≠ id) (nd : Nd) (hx : ndOf nds id = some nd) (hb : (belowV nds id).contains parent = true) (hE : moveE next nds id parent role at_ = 21) :
    Calls Try.prog 7 #[.agg #[.int .i64 next, .slice A n c], .int .i64 id, .int .i64 parent, .string role, .int .i64 at_] w (SetPost w next (moveE next nds id parent role at_) (moveL next nds id parent role at_)) := by
  have hres : Try.f7.results = #[.cell 10 24, .tmp 11] := by kernel_rfl
  have HA0 := Lib.hid (A0.start w next A n c)
  have HRg : Hid (∀ X, Below w.heap.size w X → Calls Try.prog 24 #[.agg #[.int .i64 next, .slice A n c]] X (Ret X (.bool true))) := Lib.hid fun X hX => by
    have := refRight_any X hi next A n c nds (h.below (hX.mono hh)) (Nat.le_trans hh hX.size)
    rw [hr] at this
    exact this
  have HE := Lib.hid hE
  clear hE
  have hp0 : (parent != 0) = false := by rw [h0]; rfl
  have hrm := rightM hr
  have hn4 : n ≤ 4096 := by rw [← h.1]; exact hrm.len
  have HAi : Hid (∀ X, Below w.heap.size w X → Calls Try.prog 26 #[.agg #[.int .i64 next, .slice A n c], .int .i64 id] X (Ret X (.int .i64 i))) := Lib.hid fun X hX => by
    have := refAt_any X hi next id A n c nds (h.below (hX.mono hh)) (Nat.le_trans hh hX.size) hrm.rise hn4
    rw [hav] at this
    exact this
  have hi0 : ¬ (i : Int) < 0 := by omega
  have hq : (parent == id) = false := by rw [beq_eq_false_iff_ne]; exact heq
  have HDn : Hid (∀ X, Below w.heap.size w X → Calls Try.prog 28 #[.agg #[.int .i64 next, .slice A n c], .int .i64 id] X (ListR X (belowV nds id))) := Lib.hid fun X hX => refDown_any X hi next id A n c nds (h.below (hX.mono hh)) (Nat.le_trans hh hX.size) hrm nd hx
  have HHs : Hid (∀ X lo hi' Aq cq, Row X lo hi' 1 Aq (belowV nds id).length cq (intCells (belowV nds id)) → Calls Try.prog 27 #[.slice Aq (belowV nds id).length cq, .int .i64 parent] X (Says X true)) := Lib.hid fun X lo hi' Aq cq h1 => by rw [← hb]; exact refHas_any X lo hi' Aq _ cq _ parent h1
  clear h hr hrm hav heq hx hb h0
  go_enter Try.func7, Try.ntmps7
  go_wp2_with (first | (go_at_call 24; (with_reducible refine (HRg.out _ HA0.out.bel).mono ?_); go_must (rintro e w1 ⟨rfl, hb1⟩; have ha1 := HA0.out.after hb1; have r10 := ha1.r.cell 0; have r11 := ha1.r.cell 1; have r12 := ha1.r.frozen 0; have r13 := ha1.r.frozen 1; have m10 := ha1.m.cell 0; have m11 := ha1.m.cell 1; simp at r10 r11 m10 m11; have HA1 := Lib.hid ha1; clear ha1 hb1)) | (go_at_call 26; (with_reducible refine (HAi.out _ HA1.out.bel).mono ?_); go_must (rintro e w3 ⟨rfl, hb3⟩; have ha3 := HA1.out.after hb3; have r30 := ha3.r.cell 0; have r31 := ha3.r.cell 1; have r32 := ha3.r.frozen 0; have r33 := ha3.r.frozen 1; have m30 := ha3.m.cell 0; have m31 := ha3.m.cell 1; simp at r30 r31 m30 m31; have HA3 := Lib.hid ha3; clear ha3 hb3)) | (go_at_call 28; (with_reducible refine (HDn.out _ HA3.out.bel).mono ?_); go_must (rintro e w5 ⟨vb, rfl, hvb, hb5⟩; obtain ⟨Ab, cb, rfl⟩ := own_form hvb; have HVB := Lib.hid (own_row hvb); have ha5 := HA3.out.after hb5; have r50 := ha5.r.cell 0; have r51 := ha5.r.cell 1; have r52 := ha5.r.frozen 0; have r53 := ha5.r.frozen 1; have m50 := ha5.m.cell 0; have m51 := ha5.m.cell 1; simp at r50 r51 m50 m51; have HA5 := Lib.hid ha5; clear ha5 hb5 hvb)) | (go_at_call 27; go_must (refine (HHs.out _ _ _ _ _ HVB.out).mono ?_; rintro e w9 ⟨rfl, rfl⟩)))
  (try rw [Exit.noGoto_ret])
  (try simp only [Exit.inBlock, Exit.then])
  refine bodyPost_ret (v := .tuple #[.agg #[.int .i64 0, .slice none 0 0], .int .i64 21]) ?hr rfl ?_
  case hr =>
    simp only [results, hres]
    go_simp
  rw [HE.out]
  exact mv_err (by decide) ((HA5.out.bel.setCell (p := ⟨w.heap.size + 1, 0, none⟩) (by simp) _).setCell (p := ⟨w.heap.size + 1, 1, none⟩) (by simp) _)
set_option maxRecDepth 20000 in
set_option maxHeartbeats 1600000 in
theorem refMove_e20p (w : World) (hi : Nat) (next id parent at_ : Int) (role : ByteArray) (A : Option Addr) (n c : Nat) (nds : List Nd) (h : NodesIn w 0 hi A n c nds) (hh : hi ≤ w.heap.size) (hs : role.size ≤ maxLen) (hr : rightB next nds = true) (h0 : parent ≠ 0) (hw : wordB role = true) (hav : atV nds id = -1) (hE : moveE next nds id parent role at_ = 20) :
    Calls Try.prog 7 #[.agg #[.int .i64 next, .slice A n c], .int .i64 id, .int .i64 parent, .string role, .int .i64 at_] w (SetPost w next (moveE next nds id parent role at_) (moveL next nds id parent role at_)) := by
  have hres : Try.f7.results = #[.cell 10 24, .tmp 11] := by kernel_rfl
  have HA0 := Lib.hid (A0.start w next A n c)
  have HRg : Hid (∀ X, Below w.heap.size w X → Calls Try.prog 24 #[.agg #[.int .i64 next, .slice A n c]] X (Ret X (.bool true))) := Lib.hid fun X hX => by
    have := refRight_any X hi next A n c nds (h.below (hX.mono hh)) (Nat.le_trans hh hX.size)
    rw [hr] at this
    exact this
  have HE := Lib.hid hE
  clear hE
  have HWd : Hid (∀ X, Calls Try.prog 25 #[.string role] X (Says X true)) := Lib.hid fun X => by have := refWord_any role X hs; rw [hw] at this; exact this
  have hp0 : (parent != 0) = true := by rw [bne_iff_ne]; exact h0
  have hrm := rightM hr
  have hn4 : n ≤ 4096 := by rw [← h.1]; exact hrm.len
  have HAi : Hid (∀ X, Below w.heap.size w X → Calls Try.prog 26 #[.agg #[.int .i64 next, .slice A n c], .int .i64 id] X (Ret X (.int .i64 (-1)))) := Lib.hid fun X hX => by
    have := refAt_any X hi next id A n c nds (h.below (hX.mono hh)) (Nat.le_trans hh hX.size) hrm.rise hn4
    rw [hav] at this
    exact this
  clear h hr hrm hav h0 hw
  go_enter Try.func7, Try.ntmps7
  go_wp2_with (first | (go_at_call 24; (with_reducible refine (HRg.out _ HA0.out.bel).mono ?_); go_must (rintro e w1 ⟨rfl, hb1⟩; have ha1 := HA0.out.after hb1; have r10 := ha1.r.cell 0; have r11 := ha1.r.cell 1; have r12 := ha1.r.frozen 0; have r13 := ha1.r.frozen 1; have m10 := ha1.m.cell 0; have m11 := ha1.m.cell 1; simp at r10 r11 m10 m11; have HA1 := Lib.hid ha1; clear ha1 hb1)) | (go_at_call 25; go_must (refine (HWd.out _).mono ?_; rintro e w2 ⟨rfl, rfl⟩)) | (go_at_call 26; (with_reducible refine (HAi.out _ HA1.out.bel).mono ?_); go_must (rintro e w3 ⟨rfl, hb3⟩; have ha3 := HA1.out.after hb3; have r30 := ha3.r.cell 0; have r31 := ha3.r.cell 1; have r32 := ha3.r.frozen 0; have r33 := ha3.r.frozen 1; have m30 := ha3.m.cell 0; have m31 := ha3.m.cell 1; simp at r30 r31 m30 m31; have HA3 := Lib.hid ha3; clear ha3 hb3)))
  (try rw [Exit.noGoto_ret])
  (try simp only [Exit.inBlock, Exit.then])
  refine bodyPost_ret (v := .tuple #[.agg #[.int .i64 0, .slice none 0 0], .int .i64 20]) ?hr rfl ?_
  case hr =>
    simp only [results, hres]
    go_simp
  rw [HE.out]
  exact mv_err (by decide) ((HA3.out.bel.setCell (p := ⟨w.heap.size + 1, 0, none⟩) (by simp) _).setCell (p := ⟨w.heap.size + 1, 1, none⟩) (by simp) _)
set_option maxRecDepth 20000 in
set_option maxHeartbeats 1600000 in
theorem refMove_e21p (w : World) (hi : Nat) (next id parent at_ : Int) (role : ByteArray) (A : Option Addr) (n c : Nat) (nds : List Nd) (h : NodesIn w 0 hi A n c nds) (hh : hi ≤ w.heap.size) (hs : role.size ≤ maxLen) (hr : rightB next nds = true) (h0 : parent ≠ 0) (hw : wordB role = true) (i : Nat) (hav : atV nds id = (i : Int)) (j : Nat) (hap : atV nds parent = (j : Int)) (heq : parent = id) (hE : moveE next nds id parent role at_ = 21) :
    Calls Try.prog 7 #[.agg #[.int .i64 next, .slice A n c], .int .i64 id, .int .i64 parent, .string role, .int .i64 at_] w (SetPost w next (moveE next nds id parent role at_) (moveL next nds id parent role at_)) := by
  have hres : Try.f7.results = #[.cell 10 24, .tmp 11] := by kernel_rfl
  have HA0 := Lib.hid (A0.start w next A n c)
  have HRg : Hid (∀ X, Below w.heap.size w X → Calls Try.prog 24 #[.agg #[.int .i64 next, .slice A n c]] X (Ret X (.bool true))) := Lib.hid fun X hX => by
    have := refRight_any X hi next A n c nds (h.below (hX.mono hh)) (Nat.le_trans hh hX.size)
    rw [hr] at this
    exact this
  have HE := Lib.hid hE
  clear hE
  have HWd : Hid (∀ X, Calls Try.prog 25 #[.string role] X (Says X true)) := Lib.hid fun X => by have := refWord_any role X hs; rw [hw] at this; exact this
  have hp0 : (parent != 0) = true := by rw [bne_iff_ne]; exact h0
  have hrm := rightM hr
  have hn4 : n ≤ 4096 := by rw [← h.1]; exact hrm.len
  have HAi : Hid (∀ X, Below w.heap.size w X → Calls Try.prog 26 #[.agg #[.int .i64 next, .slice A n c], .int .i64 id] X (Ret X (.int .i64 i))) := Lib.hid fun X hX => by
    have := refAt_any X hi next id A n c nds (h.below (hX.mono hh)) (Nat.le_trans hh hX.size) hrm.rise hn4
    rw [hav] at this
    exact this
  have HAp : Hid (∀ X, Below w.heap.size w X → Calls Try.prog 26 #[.agg #[.int .i64 next, .slice A n c], .int .i64 parent] X (Ret X (.int .i64 j))) := Lib.hid fun X hX => by
    have := refAt_any X hi next parent A n c nds (h.below (hX.mono hh)) (Nat.le_trans hh hX.size) hrm.rise hn4
    rw [hap] at this
    exact this
  have hj0 : ¬ (j : Int) < 0 := by omega
  have hi0 : ¬ (i : Int) < 0 := by omega
  have hq : (parent == id) = true := by rw [beq_iff_eq]; exact heq
  clear h hr hrm hav heq h0 hw hap
  go_enter Try.func7, Try.ntmps7
  go_wp2_with (first | (go_at_call 24; (with_reducible refine (HRg.out _ HA0.out.bel).mono ?_); go_must (rintro e w1 ⟨rfl, hb1⟩; have ha1 := HA0.out.after hb1; have r10 := ha1.r.cell 0; have r11 := ha1.r.cell 1; have r12 := ha1.r.frozen 0; have r13 := ha1.r.frozen 1; have m10 := ha1.m.cell 0; have m11 := ha1.m.cell 1; simp at r10 r11 m10 m11; have HA1 := Lib.hid ha1; clear ha1 hb1)) | (go_at_call 25; go_must (refine (HWd.out _).mono ?_; rintro e w2 ⟨rfl, rfl⟩)) | (go_at_call 26; (with_reducible refine (HAi.out _ HA1.out.bel).mono ?_); go_must (rintro e w3 ⟨rfl, hb3⟩; have ha3 := HA1.out.after hb3; have r30 := ha3.r.cell 0; have r31 := ha3.r.cell 1; have r32 := ha3.r.frozen 0; have r33 := ha3.r.frozen 1; have m30 := ha3.m.cell 0; have m31 := ha3.m.cell 1; simp at r30 r31 m30 m31; have HA3 := Lib.hid ha3; clear ha3 hb3)) | (go_at_call 26; (with_reducible refine (HAp.out _ HA3.out.bel).mono ?_); go_must (rintro e w4 ⟨rfl, hb4⟩; have ha4 := HA3.out.after hb4; have r40 := ha4.r.cell 0; have r41 := ha4.r.cell 1; have r42 := ha4.r.frozen 0; have r43 := ha4.r.frozen 1; have m40 := ha4.m.cell 0; have m41 := ha4.m.cell 1; simp at r40 r41 m40 m41; have HA4 := Lib.hid ha4; clear ha4 hb4)))
  (try rw [Exit.noGoto_ret])
  (try simp only [Exit.inBlock, Exit.then])
  refine bodyPost_ret (v := .tuple #[.agg #[.int .i64 0, .slice none 0 0], .int .i64 21]) ?hr rfl ?_
  case hr =>
    simp only [results, hres]
    go_simp
  rw [HE.out]
  exact mv_err (by decide) ((HA4.out.bel.setCell (p := ⟨w.heap.size + 1, 0, none⟩) (by simp) _).setCell (p := ⟨w.heap.size + 1, 1, none⟩) (by simp) _)
set_option maxRecDepth 20000 in
set_option maxHeartbeats 1600000 in
theorem refMove_e21bp (w : World) (hi : Nat) (next id parent at_ : Int) (role : ByteArray) (A : Option Addr) (n c : Nat) (nds : List Nd) (h : NodesIn w 0 hi A n c nds) (hh : hi ≤ w.heap.size) (hs : role.size ≤ maxLen) (hr : rightB next nds = true) (h0 : parent ≠ 0) (hw : wordB role = true) (i : Nat) (hav : atV nds id = (i : Int)) (j : Nat) (hap : atV nds parent = (j : Int)) (heq : parent ≠ id) (nd : Nd) (hx : ndOf nds id = some nd) (hb : (belowV nds id).contains parent = true) (hE : moveE next nds id parent role at_ = 21) :
    Calls Try.prog 7 #[.agg #[.int .i64 next, .slice A n c], .int .i64 id, .int .i64 parent, .string role, .int .i64 at_] w (SetPost w next (moveE next nds id parent role at_) (moveL next nds id parent role at_)) := by
  have hres : Try.f7.results = #[.cell 10 24, .tmp 11] := by kernel_rfl
  have HA0 := Lib.hid (A0.start w next A n c)
  have HRg : Hid (∀ X, Below w.heap.size w X → Calls Try.prog 24 #[.agg #[.int .i64 next, .slice A n c]] X (Ret X (.bool true))) := Lib.hid fun X hX => by
    have := refRight_any X hi next A n c nds (h.below (hX.mono hh)) (Nat.le_trans hh hX.size)
    rw [hr] at this
    exact this
  have HE := Lib.hid hE
  clear hE
  have HWd : Hid (∀ X, Calls Try.prog 25 #[.string role] X (Says X true)) := Lib.hid fun X => by have := refWord_any role X hs; rw [hw] at this; exact this
  have hp0 : (parent != 0) = true := by rw [bne_iff_ne]; exact h0
  have hrm := rightM hr
  have hn4 : n ≤ 4096 := by rw [← h.1]; exact hrm.len
  have HAi : Hid (∀ X, Below w.heap.size w X → Calls Try.prog 26 #[.agg #[.int .i64 next, .slice A n c], .int .i64 id] X (Ret X (.int .i64 i))) := Lib.hid fun X hX => by
    have := refAt_any X hi next id A n c nds (h.below (hX.mono hh)) (Nat.le_trans hh hX.size) hrm.rise hn4
    rw [hav] at this
    exact this
  have HAp : Hid (∀ X, Below w.heap.size w X → Calls Try.prog 26 #[.agg #[.int .i64 next, .slice A n c], .int .i64 parent] X (Ret X (.int .i64 j))) := Lib.hid fun X hX => by
    have := refAt_any X hi next parent A n c nds (h.below (hX.mono hh)) (Nat.le_trans hh hX.size) hrm.rise hn4
    rw [hap] at this
    exact this
  have hj0 : ¬ (j : Int) < 0 := by omega
  have hi0 : ¬ (i : Int) < 0 := by omega
  have hq : (parent == id) = false := by rw [beq_eq_false_iff_ne]; exact heq
  have HDn : Hid (∀ X, Below w.heap.size w X → Calls Try.prog 28 #[.agg #[.int .i64 next, .slice A n c], .int .i64 id] X (ListR X (belowV nds id))) := Lib.hid fun X hX => refDown_any X hi next id A n c nds (h.below (hX.mono hh)) (Nat.le_trans hh hX.size) hrm nd hx
  have HHs : Hid (∀ X lo hi' Aq cq, Row X lo hi' 1 Aq (belowV nds id).length cq (intCells (belowV nds id)) → Calls Try.prog 27 #[.slice Aq (belowV nds id).length cq, .int .i64 parent] X (Says X true)) := Lib.hid fun X lo hi' Aq cq h1 => by rw [← hb]; exact refHas_any X lo hi' Aq _ cq _ parent h1
  clear h hr hrm hav heq hx hb h0 hw hap
  go_enter Try.func7, Try.ntmps7
  go_wp2_with (first | (go_at_call 24; (with_reducible refine (HRg.out _ HA0.out.bel).mono ?_); go_must (rintro e w1 ⟨rfl, hb1⟩; have ha1 := HA0.out.after hb1; have r10 := ha1.r.cell 0; have r11 := ha1.r.cell 1; have r12 := ha1.r.frozen 0; have r13 := ha1.r.frozen 1; have m10 := ha1.m.cell 0; have m11 := ha1.m.cell 1; simp at r10 r11 m10 m11; have HA1 := Lib.hid ha1; clear ha1 hb1)) | (go_at_call 25; go_must (refine (HWd.out _).mono ?_; rintro e w2 ⟨rfl, rfl⟩)) | (go_at_call 26; (with_reducible refine (HAi.out _ HA1.out.bel).mono ?_); go_must (rintro e w3 ⟨rfl, hb3⟩; have ha3 := HA1.out.after hb3; have r30 := ha3.r.cell 0; have r31 := ha3.r.cell 1; have r32 := ha3.r.frozen 0; have r33 := ha3.r.frozen 1; have m30 := ha3.m.cell 0; have m31 := ha3.m.cell 1; simp at r30 r31 m30 m31; have HA3 := Lib.hid ha3; clear ha3 hb3)) | (go_at_call 26; (with_reducible refine (HAp.out _ HA3.out.bel).mono ?_); go_must (rintro e w4 ⟨rfl, hb4⟩; have ha4 := HA3.out.after hb4; have r40 := ha4.r.cell 0; have r41 := ha4.r.cell 1; have r42 := ha4.r.frozen 0; have r43 := ha4.r.frozen 1; have m40 := ha4.m.cell 0; have m41 := ha4.m.cell 1; simp at r40 r41 m40 m41; have HA4 := Lib.hid ha4; clear ha4 hb4)) | (go_at_call 28; (with_reducible refine (HDn.out _ HA4.out.bel).mono ?_); go_must (rintro e w5 ⟨vb, rfl, hvb, hb5⟩; obtain ⟨Ab, cb, rfl⟩ := own_form hvb; have HVB := Lib.hid (own_row hvb); have ha5 := HA4.out.after hb5; have r50 := ha5.r.cell 0; have r51 := ha5.r.cell 1; have r52 := ha5.r.frozen 0; have r53 := ha5.r.frozen 1; have m50 := ha5.m.cell 0; have m51 := ha5.m.cell 1; simp at r50 r51 m50 m51; have HA5 := Lib.hid ha5; clear ha5 hb5 hvb)) | (go_at_call 27; go_must (refine (HHs.out _ _ _ _ _ HVB.out).mono ?_; rintro e w9 ⟨rfl, rfl⟩)))
  (try rw [Exit.noGoto_ret])
  (try simp only [Exit.inBlock, Exit.then])
  refine bodyPost_ret (v := .tuple #[.agg #[.int .i64 0, .slice none 0 0], .int .i64 21]) ?hr rfl ?_
  case hr =>
    simp only [results, hres]
    go_simp
  rw [HE.out]
  exact mv_err (by decide) ((HA5.out.bel.setCell (p := ⟨w.heap.size + 1, 0, none⟩) (by simp) _).setCell (p := ⟨w.heap.size + 1, 1, none⟩) (by simp) _)
set_option maxRecDepth 20000 in
set_option maxHeartbeats 1600000 in
theorem refMove_e20pp (w : World) (hi : Nat) (next id parent at_ : Int) (role : ByteArray) (A : Option Addr) (n c : Nat) (nds : List Nd) (h : NodesIn w 0 hi A n c nds) (hh : hi ≤ w.heap.size) (hs : role.size ≤ maxLen) (hr : rightB next nds = true) (h0 : parent ≠ 0) (hw : wordB role = true) (i : Nat) (hav : atV nds id = (i : Int)) (hap : atV nds parent = -1) (hE : moveE next nds id parent role at_ = 20) :
    Calls Try.prog 7 #[.agg #[.int .i64 next, .slice A n c], .int .i64 id, .int .i64 parent, .string role, .int .i64 at_] w (SetPost w next (moveE next nds id parent role at_) (moveL next nds id parent role at_)) := by
  have hres : Try.f7.results = #[.cell 10 24, .tmp 11] := by kernel_rfl
  have HA0 := Lib.hid (A0.start w next A n c)
  have HRg : Hid (∀ X, Below w.heap.size w X → Calls Try.prog 24 #[.agg #[.int .i64 next, .slice A n c]] X (Ret X (.bool true))) := Lib.hid fun X hX => by
    have := refRight_any X hi next A n c nds (h.below (hX.mono hh)) (Nat.le_trans hh hX.size)
    rw [hr] at this
    exact this
  have HE := Lib.hid hE
  clear hE
  have HWd : Hid (∀ X, Calls Try.prog 25 #[.string role] X (Says X true)) := Lib.hid fun X => by have := refWord_any role X hs; rw [hw] at this; exact this
  have hp0 : (parent != 0) = true := by rw [bne_iff_ne]; exact h0
  have hrm := rightM hr
  have hn4 : n ≤ 4096 := by rw [← h.1]; exact hrm.len
  have HAi : Hid (∀ X, Below w.heap.size w X → Calls Try.prog 26 #[.agg #[.int .i64 next, .slice A n c], .int .i64 id] X (Ret X (.int .i64 i))) := Lib.hid fun X hX => by
    have := refAt_any X hi next id A n c nds (h.below (hX.mono hh)) (Nat.le_trans hh hX.size) hrm.rise hn4
    rw [hav] at this
    exact this
  have HAp : Hid (∀ X, Below w.heap.size w X → Calls Try.prog 26 #[.agg #[.int .i64 next, .slice A n c], .int .i64 parent] X (Ret X (.int .i64 (-1)))) := Lib.hid fun X hX => by
    have := refAt_any X hi next parent A n c nds (h.below (hX.mono hh)) (Nat.le_trans hh hX.size) hrm.rise hn4
    rw [hap] at this
    exact this
  have hi0 : ¬ (i : Int) < 0 := by omega
  clear h hr hrm hav hap h0 hw
  go_enter Try.func7, Try.ntmps7
  go_wp2_with (first | (go_at_call 24; (with_reducible refine (HRg.out _ HA0.out.bel).mono ?_); go_must (rintro e w1 ⟨rfl, hb1⟩; have ha1 := HA0.out.after hb1; have r10 := ha1.r.cell 0; have r11 := ha1.r.cell 1; have r12 := ha1.r.frozen 0; have r13 := ha1.r.frozen 1; have m10 := ha1.m.cell 0; have m11 := ha1.m.cell 1; simp at r10 r11 m10 m11; have HA1 := Lib.hid ha1; clear ha1 hb1)) | (go_at_call 25; go_must (refine (HWd.out _).mono ?_; rintro e w2 ⟨rfl, rfl⟩)) | (go_at_call 26; (with_reducible refine (HAi.out _ HA1.out.bel).mono ?_); go_must (rintro e w3 ⟨rfl, hb3⟩; have ha3 := HA1.out.after hb3; have r30 := ha3.r.cell 0; have r31 := ha3.r.cell 1; have r32 := ha3.r.frozen 0; have r33 := ha3.r.frozen 1; have m30 := ha3.m.cell 0; have m31 := ha3.m.cell 1; simp at r30 r31 m30 m31; have HA3 := Lib.hid ha3; clear ha3 hb3)) | (go_at_call 26; (with_reducible refine (HAp.out _ HA3.out.bel).mono ?_); go_must (rintro e w4 ⟨rfl, hb4⟩; have ha4 := HA3.out.after hb4; have r40 := ha4.r.cell 0; have r41 := ha4.r.cell 1; have r42 := ha4.r.frozen 0; have r43 := ha4.r.frozen 1; have m40 := ha4.m.cell 0; have m41 := ha4.m.cell 1; simp at r40 r41 m40 m41; have HA4 := Lib.hid ha4; clear ha4 hb4)))
  (try rw [Exit.noGoto_ret])
  (try simp only [Exit.inBlock, Exit.then])
  refine bodyPost_ret (v := .tuple #[.agg #[.int .i64 0, .slice none 0 0], .int .i64 20]) ?hr rfl ?_
  case hr =>
    simp only [results, hres]
    go_simp
  rw [HE.out]
  exact mv_err (by decide) ((HA4.out.bel.setCell (p := ⟨w.heap.size + 1, 0, none⟩) (by simp) _).setCell (p := ⟨w.heap.size + 1, 1, none⟩) (by simp) _)
end Go.Proofs.Ytfljndlmafcjeaa

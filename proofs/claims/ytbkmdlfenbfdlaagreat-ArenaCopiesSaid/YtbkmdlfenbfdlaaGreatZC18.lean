/-
  WALKS: a node is moved: the program's.
  WALKS: a node is put into a model that lacks it among its kids: both sides, from what admits and may tell.
  WALKS: a node is moved: the program's, behind a node that was taken.
  WALKS: a node is moved: the document's, behind a node that was taken.
  WALKS: a node is removed: both sides, where they tell an error.
-/
import Derived.Test.YtbkmdlfenbfdlaaGreatZC17
namespace Go.Proofs.YtbkmdlfenbfdlaaGreat
open Go Go.RowKit Go.Sort
set_option linter.unusedVariables false
attribute [local go_sem ↓] Go.wp_at_zero Go.wp_at_succ
/-- the error that is told -/
def moveE (next : Int) (nds : List Nd) (id parent : Int) (role : ByteArray) (at_ : Int) : Int :=
  if rightB next nds = false then 29 else if (parent == 0 || wordB role) = false then 2 else if (ndOf nds id).isNone = true then 20 else if (preI nds id).contains parent = true then 21
  else (admV next (takeL nds id) parent role at_ (hiV nds id) 0).2
/-- a node that stands nowhere is put there -/
def putL (t : List Nd) (id parent : Int) (role : ByteArray) (a : Nat) : List Nd :=
  match ndOf t id with
  | none => t
  | some p => if parent = 0 then t.set ((ixOf t id).getD 0) { p with par := parent, role := role } else match ndOf t parent with
    | none => t
    | some x => (t.set ((ixOf t id).getD 0) { p with par := parent, role := role }).set ((ixOf t parent).getD 0) { x with kids := insAt x.kids a id }
def moveL (next : Int) (nds : List Nd) (id parent : Int) (role : ByteArray) (at_ : Int) : List Nd := putL (takeL nds id) id parent role (admV next (takeL nds id) parent role at_ (hiV nds id) 0).1.toNat
theorem mv_err {w w' : World} {next er : Int} {nds' : List Nd} (he : er ≠ 0) (h : Below w.heap.size w w') : SetPost w next er nds' (.returned (.tuple #[.agg #[.int .i64 0, .slice none 0 0], .int .i64 er])) w' :=
  ⟨0, none, 0, 0, rfl, h, fun _ => ⟨rfl, rfl, rfl, rfl⟩, fun h0 => absurd h0 he⟩
section
variable {w X X' : World} {parent at_ next nx : Int} {role : ByteArray} {A : Option Addr} {n c gs go g m cg : Nat} {l l' : List (Nd × Leaf)}
theorem AO.turned (h : AO w parent role at_ next A n c gs go nx (.slice (some ⟨g, 0, none⟩) m cg) l X) (ho : OwnM X' w.heap.size (.slice (some ⟨g, 0, none⟩) m cg) l') (hg : X.grownBy X' (some g)) : AO w parent role at_ next A n c gs go nx (.slice (some ⟨g, 0, none⟩) m cg) l' X' :=
  ⟨h.ab.kept h.own.own hg, h.out.grown hg (Ne.symm (own_blk_ne h.own.own h.out (by decide))), ho, h.le, h.n1, h.n2⟩
end
set_option maxRecDepth 20000 in
set_option maxHeartbeats 1600000 in
theorem move_e29 (w : World) (hi : Nat) (next id parent at_ : Int) (role : ByteArray) (A : Option Addr) (n c : Nat) (nds : List Nd) (h : NodesIn w 0 hi A n c nds) (hh : hi ≤ w.heap.size) (hs : role.size ≤ maxLen) (hr : rightB next nds = false) :
    Calls Tryz.prog 21 #[.agg #[.int .i64 next, .slice A n c], .int .i64 id, .int .i64 parent, .string role, .int .i64 at_] w (SetPost w next (moveE next nds id parent role at_) (moveL next nds id parent role at_)) := by
  have hres : Tryz.f21.results = #[.cell 10 26, .tmp 11] := by kernel_rfl
  have HA0 := Lib.hid (A0.start w next A n c)
  have HCk : Hid (∀ X, Below w.heap.size w X → Calls Tryz.prog 12 #[.agg #[.int .i64 next, .slice A n c]] X (Ret X (.int .i64 (checkV next nds)))) := Lib.hid fun X hX => check_any X hi next A n c nds (h.below (hX.mono hh)) (Nat.le_trans hh hX.size)
  have HE : Hid (moveE next nds id parent role at_ = 29) := Lib.hid (by unfold moveE; rw [if_pos hr])
  have hcv : checkV next nds = 29 := by unfold checkV; rw [hr]; rfl
  rw [hcv] at HCk
  clear h hcv hr
  go_enter Tryz.func21, Tryz.ntmps21
  go_wp2_with (go_at_call 12; (with_reducible refine (HCk.out _ HA0.out.bel).mono ?_); go_must (rintro e w1 ⟨rfl, hb1⟩; have ha1 := HA0.out.after hb1; have ar0 := ha1.r.cell 0; have ar1 := ha1.r.cell 1; have ar2 := ha1.r.frozen 0; have ar3 := ha1.r.frozen 1; have am0 := ha1.m.cell 0; have am1 := ha1.m.cell 1; simp at ar0 ar1 am0 am1; have HA1 := Lib.hid ha1; clear ha1 hb1))
  (try rw [Exit.noGoto_ret])
  (try simp only [Exit.inBlock, Exit.then])
  refine bodyPost_ret (v := .tuple #[.agg #[.int .i64 0, .slice none 0 0], .int .i64 29]) ?hr rfl ?_
  case hr =>
    simp only [results, hres]
    go_simp
  rw [HE.out]
  exact mv_err (by decide) (HA1.out.bel.setCell (p := ⟨w.heap.size + 1, 0, none⟩) (by simp) _ |>.setCell (p := ⟨w.heap.size + 1, 1, none⟩) (by simp) _)
set_option maxRecDepth 20000 in
set_option maxHeartbeats 1600000 in
theorem move_e2 (w : World) (hi : Nat) (next id parent at_ : Int) (role : ByteArray) (A : Option Addr) (n c : Nat) (nds : List Nd) (h : NodesIn w 0 hi A n c nds) (hh : hi ≤ w.heap.size) (hs : role.size ≤ maxLen) (hr : rightB next nds = true) (hw : (parent == 0 || wordB role) = false) :
    Calls Tryz.prog 21 #[.agg #[.int .i64 next, .slice A n c], .int .i64 id, .int .i64 parent, .string role, .int .i64 at_] w (SetPost w next (moveE next nds id parent role at_) (moveL next nds id parent role at_)) := by
  have hres : Tryz.f21.results = #[.cell 10 26, .tmp 11] := by kernel_rfl
  have HA0 := Lib.hid (A0.start w next A n c)
  have HCk : Hid (∀ X, Below w.heap.size w X → Calls Tryz.prog 12 #[.agg #[.int .i64 next, .slice A n c]] X (Ret X (.int .i64 (checkV next nds)))) := Lib.hid fun X hX => check_any X hi next A n c nds (h.below (hX.mono hh)) (Nat.le_trans hh hX.size)
  have HE : Hid (moveE next nds id parent role at_ = 2) := Lib.hid (by unfold moveE; rw [if_neg (by rw [hr]; simp), if_pos hw])
  have hcv : checkV next nds = 0 := by unfold checkV; rw [hr]; rfl
  rw [hcv] at HCk
  have HNm : Hid (∀ X, Calls Tryz.prog 44 #[.agg #[.int .i64 parent, .string role, .int .i64 at_]] X (Ret X (.bool false))) := Lib.hid fun X => named_any X parent at_ role hs false hw
  clear h hcv hr hw
  go_enter Tryz.func21, Tryz.ntmps21
  go_upto_region 5 with (go_at_call 12; (with_reducible refine (HCk.out _ HA0.out.bel).mono ?_); go_must (rintro e w1 ⟨rfl, hb1⟩; have ha1 := HA0.out.after hb1; have ar0 := ha1.r.cell 0; have ar1 := ha1.r.cell 1; have ar2 := ha1.r.frozen 0; have ar3 := ha1.r.frozen 1; have am0 := ha1.m.cell 0; have am1 := ha1.m.cell 1; simp at ar0 ar1 am0 am1; have HA1 := Lib.hid ha1; clear ha1 hb1))
  have HB := Lib.hid (HA1.out.spot parent role at_)
  generalize w1.alloc (.cells #[.int .i64 parent, .string role, .int .i64 at_] 78) = X5 at HB ⊢
  generalize w1.heap.size = gs at HB ⊢
  clear ar0 ar1 ar2 ar3 am0 am1
  have b0 := HB.out.r.cell 0
  have b1 := HB.out.r.cell 1
  have b2 := HB.out.r.frozen 0
  have b3 := HB.out.r.frozen 1
  have b4 := HB.out.s.cell 0
  have b5 := HB.out.s.cell 1
  have b6 := HB.out.s.cell 2
  have b7 := HB.out.m.cell 0
  have b8 := HB.out.m.cell 1
  simp at b0 b1 b4 b5 b6 b7 b8
  go_wp2_with (go_at_call 44; (with_reducible refine (HNm.out _).mono ?_); go_must (rintro e w2 ⟨rfl, hb2⟩; have hb2' := HB.out.after hb2; have pr0 := hb2'.r.cell 0; have pr1 := hb2'.r.cell 1; have pr2 := hb2'.r.frozen 0; have pr3 := hb2'.r.frozen 1; have pm0 := hb2'.m.cell 0; have pm1 := hb2'.m.cell 1; simp at pr0 pr1 pm0 pm1; have ps0 := hb2'.s.cell 0; have ps1 := hb2'.s.cell 1; have ps2 := hb2'.s.cell 2; simp at ps0 ps1 ps2; have HB2 := Lib.hid hb2'; clear hb2 hb2'))
  (try rw [Exit.noGoto_ret])
  (try simp only [Exit.inBlock, Exit.then])
  refine bodyPost_ret (v := .tuple #[.agg #[.int .i64 0, .slice none 0 0], .int .i64 2]) ?hr rfl ?_
  case hr =>
    simp only [results, hres]
    go_simp
  rw [HE.out]
  exact mv_err (by decide) (HB2.out.bel.setCell (p := ⟨w.heap.size + 1, 0, none⟩) (by simp) _ |>.setCell (p := ⟨w.heap.size + 1, 1, none⟩) (by simp) _)
set_option maxRecDepth 20000 in
set_option maxHeartbeats 1600000 in
theorem move_e20 (w : World) (hi : Nat) (next id parent at_ : Int) (role : ByteArray) (A : Option Addr) (n c : Nat) (nds : List Nd) (h : NodesIn w 0 hi A n c nds) (hh : hi ≤ w.heap.size) (hs : role.size ≤ maxLen) (hr : rightB next nds = true) (hw : (parent == 0 || wordB role) = true) (hx : ndOf nds id = none) :
    Calls Tryz.prog 21 #[.agg #[.int .i64 next, .slice A n c], .int .i64 id, .int .i64 parent, .string role, .int .i64 at_] w (SetPost w next (moveE next nds id parent role at_) (moveL next nds id parent role at_)) := by
  have hres : Tryz.f21.results = #[.cell 10 26, .tmp 11] := by kernel_rfl
  have HA0 := Lib.hid (A0.start w next A n c)
  have HCk : Hid (∀ X, Below w.heap.size w X → Calls Tryz.prog 12 #[.agg #[.int .i64 next, .slice A n c]] X (Ret X (.int .i64 (checkV next nds)))) := Lib.hid fun X hX => check_any X hi next A n c nds (h.below (hX.mono hh)) (Nat.le_trans hh hX.size)
  have hrm := rightM hr
  have hcv : checkV next nds = 0 := by unfold checkV; rw [hr]; rfl
  rw [hcv] at HCk
  have hn4 : n ≤ 4096 := by rw [← h.1]; exact hrm.len
  have HNm : Hid (∀ X, Calls Tryz.prog 44 #[.agg #[.int .i64 parent, .string role, .int .i64 at_]] X (Ret X (.bool true))) := Lib.hid fun X => named_any X parent at_ role hs true hw
  have HHa : Hid (∀ X, Below w.heap.size w X → Calls Tryz.prog 40 #[.agg #[.int .i64 next, .slice A n c], .int .i64 id] X (Ret X (.bool false))) := Lib.hid fun X hX => by
    have h1 := has_any X hi next id A n c nds (h.below (hX.mono hh)) (Nat.le_trans hh hX.size) hrm.rise hn4
    rw [has_ndOf, hx] at h1
    exact h1
  have HE : Hid (moveE next nds id parent role at_ = 20) := Lib.hid (by unfold moveE; rw [if_neg (by rw [hr]; simp), if_neg (by rw [hw]; simp), if_pos (by rw [hx]; rfl)])
  clear h hcv hr hw hx hrm
  go_enter Tryz.func21, Tryz.ntmps21
  go_upto_region 5 with (go_at_call 12; (with_reducible refine (HCk.out _ HA0.out.bel).mono ?_); go_must (rintro e w1 ⟨rfl, hb1⟩; have ha1 := HA0.out.after hb1; have ar0 := ha1.r.cell 0; have ar1 := ha1.r.cell 1; have ar2 := ha1.r.frozen 0; have ar3 := ha1.r.frozen 1; have am0 := ha1.m.cell 0; have am1 := ha1.m.cell 1; simp at ar0 ar1 am0 am1; have HA1 := Lib.hid ha1; clear ha1 hb1))
  have HB := Lib.hid (HA1.out.spot parent role at_)
  generalize w1.alloc (.cells #[.int .i64 parent, .string role, .int .i64 at_] 78) = X5 at HB ⊢
  generalize w1.heap.size = gs at HB ⊢
  clear ar0 ar1 ar2 ar3 am0 am1
  have b0 := HB.out.r.cell 0
  have b1 := HB.out.r.cell 1
  have b2 := HB.out.r.frozen 0
  have b3 := HB.out.r.frozen 1
  have b4 := HB.out.s.cell 0
  have b5 := HB.out.s.cell 1
  have b6 := HB.out.s.cell 2
  have b7 := HB.out.m.cell 0
  have b8 := HB.out.m.cell 1
  simp at b0 b1 b4 b5 b6 b7 b8
  go_wp2_with (first | (go_at_call 44; (with_reducible refine (HNm.out _).mono ?_); go_must (rintro e w2 ⟨rfl, hb2⟩; have hb2' := HB.out.after hb2; have pr0 := hb2'.r.cell 0; have pr1 := hb2'.r.cell 1; have pr2 := hb2'.r.frozen 0; have pr3 := hb2'.r.frozen 1; have pm0 := hb2'.m.cell 0; have pm1 := hb2'.m.cell 1; simp at pr0 pr1 pm0 pm1; have ps0 := hb2'.s.cell 0; have ps1 := hb2'.s.cell 1; have ps2 := hb2'.s.cell 2; simp at ps0 ps1 ps2; have HB2 := Lib.hid hb2'; clear hb2 hb2')) | (go_at_call 40; (with_reducible refine (HHa.out _ HB2.out.bel).mono ?_); go_must (rintro e w3 ⟨rfl, hb3⟩; have hb3' := HB2.out.after hb3; have qr0 := hb3'.r.cell 0; have qr1 := hb3'.r.cell 1; have qr2 := hb3'.r.frozen 0; have qr3 := hb3'.r.frozen 1; have qm0 := hb3'.m.cell 0; have qm1 := hb3'.m.cell 1; simp at qr0 qr1 qm0 qm1; have qs0 := hb3'.s.cell 0; have qs1 := hb3'.s.cell 1; have qs2 := hb3'.s.cell 2; simp at qs0 qs1 qs2; have HB3 := Lib.hid hb3'; clear hb3 hb3')))
  (try rw [Exit.noGoto_ret])
  (try simp only [Exit.inBlock, Exit.then])
  refine bodyPost_ret (v := .tuple #[.agg #[.int .i64 0, .slice none 0 0], .int .i64 20]) ?hr rfl ?_
  case hr =>
    simp only [results, hres]
    go_simp
  rw [HE.out]
  exact mv_err (by decide) (HB3.out.bel.setCell (p := ⟨w.heap.size + 1, 0, none⟩) (by simp) _ |>.setCell (p := ⟨w.heap.size + 1, 1, none⟩) (by simp) _)
set_option maxRecDepth 20000 in
set_option maxHeartbeats 1600000 in
theorem move_e21 (w : World) (hi : Nat) (next id parent at_ : Int) (role : ByteArray) (A : Option Addr) (n c : Nat) (nds : List Nd) (h : NodesIn w 0 hi A n c nds) (hh : hi ≤ w.heap.size) (hs : role.size ≤ maxLen) (hr : rightB next nds = true) (hw : (parent == 0 || wordB role) = true) (nd : Nd) (hx : ndOf nds id = some nd) (hb : (preI nds id).contains parent = true) :
    Calls Tryz.prog 21 #[.agg #[.int .i64 next, .slice A n c], .int .i64 id, .int .i64 parent, .string role, .int .i64 at_] w (SetPost w next (moveE next nds id parent role at_) (moveL next nds id parent role at_)) := by
  have hres : Tryz.f21.results = #[.cell 10 26, .tmp 11] := by kernel_rfl
  have HA0 := Lib.hid (A0.start w next A n c)
  have HCk : Hid (∀ X, Below w.heap.size w X → Calls Tryz.prog 12 #[.agg #[.int .i64 next, .slice A n c]] X (Ret X (.int .i64 (checkV next nds)))) := Lib.hid fun X hX => check_any X hi next A n c nds (h.below (hX.mono hh)) (Nat.le_trans hh hX.size)
  have hrm := rightM hr
  have hcv : checkV next nds = 0 := by unfold checkV; rw [hr]; rfl
  rw [hcv] at HCk
  have hn4 : n ≤ 4096 := by rw [← h.1]; exact hrm.len
  have HNm : Hid (∀ X, Calls Tryz.prog 44 #[.agg #[.int .i64 parent, .string role, .int .i64 at_]] X (Ret X (.bool true))) := Lib.hid fun X => named_any X parent at_ role hs true hw
  have HHa : Hid (∀ X, Below w.heap.size w X → Calls Tryz.prog 40 #[.agg #[.int .i64 next, .slice A n c], .int .i64 id] X (Ret X (.bool true))) := Lib.hid fun X hX => by
    have h1 := has_any X hi next id A n c nds (h.below (hX.mono hh)) (Nat.le_trans hh hX.size) hrm.rise hn4
    rw [has_ndOf, hx] at h1
    exact h1
  have HBr : Hid (∀ X, Below w.heap.size w X → Calls Tryz.prog 49 #[.agg #[.int .i64 next, .slice A n c], .int .i64 id] X (ListR X (preI nds id))) := Lib.hid fun X hX => branch_any X hi next id A n c nds (h.below (hX.mono hh)) (Nat.le_trans hh hX.size) hrm nd hx
  obtain ⟨bq, hbq⟩ : ∃ b, (preI nds id).contains parent = b := ⟨_, rfl⟩
  have HCo : Hid (∀ X lo hi' Aq cq, Row X lo hi' 1 Aq (preI nds id).length cq (intCells (preI nds id)) → Calls Tryz.prog 55 #[.slice Aq (preI nds id).length cq, .int .i64 parent] X (Says X bq)) := Lib.hid fun X lo hi' Aq cq h1 => by rw [← hbq]; exact contains_int X lo hi' Aq _ cq _ parent h1
  have HE : Hid (moveE next nds id parent role at_ = 21) := Lib.hid (by unfold moveE; rw [if_neg (by rw [hr]; simp), if_neg (by rw [hw]; simp), if_neg (by rw [hx]; simp), if_pos hb])
  rw [hb] at hbq
  subst hbq
  clear h hcv hr hw hx hrm hb
  go_enter Tryz.func21, Tryz.ntmps21
  go_upto_region 5 with (go_at_call 12; (with_reducible refine (HCk.out _ HA0.out.bel).mono ?_); go_must (rintro e w1 ⟨rfl, hb1⟩; have ha1 := HA0.out.after hb1; have ar0 := ha1.r.cell 0; have ar1 := ha1.r.cell 1; have ar2 := ha1.r.frozen 0; have ar3 := ha1.r.frozen 1; have am0 := ha1.m.cell 0; have am1 := ha1.m.cell 1; simp at ar0 ar1 am0 am1; have HA1 := Lib.hid ha1; clear ha1 hb1))
  have HB := Lib.hid (HA1.out.spot parent role at_)
  generalize w1.alloc (.cells #[.int .i64 parent, .string role, .int .i64 at_] 78) = X5 at HB ⊢
  generalize w1.heap.size = gs at HB ⊢
  clear ar0 ar1 ar2 ar3 am0 am1
  have b0 := HB.out.r.cell 0
  have b1 := HB.out.r.cell 1
  have b2 := HB.out.r.frozen 0
  have b3 := HB.out.r.frozen 1
  have b4 := HB.out.s.cell 0
  have b5 := HB.out.s.cell 1
  have b6 := HB.out.s.cell 2
  have b7 := HB.out.m.cell 0
  have b8 := HB.out.m.cell 1
  simp at b0 b1 b4 b5 b6 b7 b8
  go_wp2_with (first | (go_at_call 44; (with_reducible refine (HNm.out _).mono ?_); go_must (rintro e w2 ⟨rfl, hb2⟩; have hb2' := HB.out.after hb2; have pr0 := hb2'.r.cell 0; have pr1 := hb2'.r.cell 1; have pr2 := hb2'.r.frozen 0; have pr3 := hb2'.r.frozen 1; have pm0 := hb2'.m.cell 0; have pm1 := hb2'.m.cell 1; simp at pr0 pr1 pm0 pm1; have ps0 := hb2'.s.cell 0; have ps1 := hb2'.s.cell 1; have ps2 := hb2'.s.cell 2; simp at ps0 ps1 ps2; have HB2 := Lib.hid hb2'; clear hb2 hb2')) | (go_at_call 40; (with_reducible refine (HHa.out _ HB2.out.bel).mono ?_); go_must (rintro e w3 ⟨rfl, hb3⟩; have hb3' := HB2.out.after hb3; have qr0 := hb3'.r.cell 0; have qr1 := hb3'.r.cell 1; have qr2 := hb3'.r.frozen 0; have qr3 := hb3'.r.frozen 1; have qm0 := hb3'.m.cell 0; have qm1 := hb3'.m.cell 1; simp at qr0 qr1 qm0 qm1; have qs0 := hb3'.s.cell 0; have qs1 := hb3'.s.cell 1; have qs2 := hb3'.s.cell 2; simp at qs0 qs1 qs2; have HB3 := Lib.hid hb3'; clear hb3 hb3')) | (go_at_call 49; (with_reducible refine (HBr.out _ HB3.out.bel).mono ?_); go_must (rintro e w4 ⟨vb, rfl, hvb, hb4⟩; obtain ⟨Ab, cb, rfl⟩ := own_form hvb; have HVB := Lib.hid (own_row hvb); have hb4' := HB3.out.after hb4; have tr0 := hb4'.r.cell 0; have tr1 := hb4'.r.cell 1; have tr2 := hb4'.r.frozen 0; have tr3 := hb4'.r.frozen 1; have tm0 := hb4'.m.cell 0; have tm1 := hb4'.m.cell 1; simp at tr0 tr1 tm0 tm1; have ts0 := hb4'.s.cell 0; have ts1 := hb4'.s.cell 1; have ts2 := hb4'.s.cell 2; simp at ts0 ts1 ts2; have HB4 := Lib.hid hb4'; clear hb4 hb4' hvb)) | (go_at_call 55; go_must (refine (HCo.out _ _ _ _ _ HVB.out).mono ?_; rintro e w5 ⟨rfl, rfl⟩)))
  (try rw [Exit.noGoto_ret])
  (try simp only [Exit.inBlock, Exit.then])
  refine bodyPost_ret (v := .tuple #[.agg #[.int .i64 0, .slice none 0 0], .int .i64 21]) ?hr rfl ?_
  case hr =>
    simp only [results, hres]
    go_simp
  rw [HE.out]
  exact mv_err (by decide) (HB4.out.bel.setCell (p := ⟨w.heap.size + 1, 0, none⟩) (by simp) _ |>.setCell (p := ⟨w.heap.size + 1, 1, none⟩) (by simp) _)
end Go.Proofs.YtbkmdlfenbfdlaaGreat
namespace Go.Proofs.YtbkmdlfenbfdlaaGreat
open Go Go.RowKit Go.Sort
set_option linter.unusedVariables false
theorem adm_lax {L M : Nat} {next : Int} {nds : List Nd} {parent : Int} {role : ByteArray} {at_ ri : Int} (hr : LaxM next nds) (h : admV next nds parent role at_ L M = (ri, 0)) :
    (parent ≠ 0 → ∃ x, ndOf nds parent = some x) ∧ (amV nds parent role at_).2 = true ∧ nds.length + M ≤ 4096 ∧ next - 1 + M ≤ 1048576 ∧
    (parent ≠ 0 → ∃ (x : Nd) (jj a : Nat), ndOf nds parent = some x ∧ ixOf nds parent = some jj ∧ nds[jj]? = some x ∧ x.id = parent ∧ ri = a ∧ a ≤ x.kids.length ∧ KOk nds x ∧ beforeV (inRoleB nds role) at_ x.kids = a) := by
  unfold admV at h
  split at h
  · cases h
  · rename_i h1
    split at h
    · cases h
    · rename_i h2
      split at h
      · cases h
      · split at h
        · cases h
        · rename_i h4
          split at h
          · cases h
          · rename_i h5
            have hri : (amV nds parent role at_).1 = ri := by injection h
            have h2' : (amV nds parent role at_).2 = true := by simpa using h2
            have hx : parent ≠ 0 → ∃ x, ndOf nds parent = some x := fun h0 => by
              cases hx : ndOf nds parent with
              | none => exact absurd ⟨h0, by rw [hx]; rfl⟩ h1
              | some x => exact ⟨x, rfl⟩
            refine ⟨hx, h2', by omega, by omega, fun h0 => ?_⟩
            obtain ⟨x, hx⟩ := hx h0
            obtain ⟨jj, j1, j2, j3⟩ := ndOf_some hx
            have hk := hr.kok _ (List.mem_of_getElem? j2)
            have hnd := hr.nodup _ (List.mem_of_getElem? j2)
            have e2 : amV nds parent role at_ = amongF (inRoleB nds role) at_ 0 x.kids.length 0 x.kids := by unfold amV; rw [if_neg h0, hx]
            obtain ⟨b1, b2⟩ := among_before (f := inRoleB nds role) (at_ := at_) hnd
            rw [e2] at h2' hri
            have b3 := b2 h2'
            rw [hri] at b3
            rw [h2'] at b1
            have b4 : beforeV (inRoleB nds role) at_ x.kids ≠ -1 := of_decide_eq_true b1.symm
            rcases before_range (inRoleB nds role) at_ x.kids with b5 | ⟨a, b5, b6⟩
            · exact absurd b5 b4
            · exact ⟨x, jj, a, hx, j1, j2, j3, by rw [b3, b5], b6, hk, b5⟩
theorem putL_root {t : List Nd} {id parent : Int} {role : ByteArray} {a i : Nat} {p : Nd} (hp : ndOf t id = some p) (hi : ixOf t id = some i) (h0 : parent = 0) : putL t id parent role a = t.set i { p with par := parent, role := role } := by
  simp only [putL, hp, hi, Option.getD_some, if_pos h0]
theorem putL_below {t : List Nd} {id parent : Int} {role : ByteArray} {a i jj : Nat} {p x : Nd} (hp : ndOf t id = some p) (hi : ixOf t id = some i) (h0 : parent ≠ 0) (hx : ndOf t parent = some x) (hj : ixOf t parent = some jj) : putL t id parent role a = (t.set i { p with par := parent, role := role }).set jj { x with kids := insAt x.kids a id } := by
  simp only [putL, hp, hi, hx, hj, Option.getD_some, if_neg h0]
theorem fold_le {α : Type} (f : α → Nat) (K : Nat) : ∀ (L : List α) (a : Nat), a ≤ K → (∀ y ∈ L, f y ≤ K) → L.foldl (fun a y => max a (f y)) a ≤ K
  | [], a, h, _ => h
  | y :: L, a, h, hL => fold_le f K L _ (Nat.max_le.2 ⟨h, hL y (List.mem_cons_self ..)⟩) (fun z hz => hL z (List.mem_cons_of_mem _ hz))
theorem hi_le {next : Int} {nds : List Nd} (hR : RightM next nds) {x : Int} {nd : Nd} (hx : ndOf nds x = some nd) : hiV nds x ≤ 64 := by
  unfold hiV
  refine fold_le _ 64 _ 0 (by omega) fun y _ => ?_
  have h1 := depthV_le nds y
  have h2 := (hR.depth hx).2.1
  omega
/-- a node that has a parent is among its kids -/
theorem in_kids {next : Int} {nds : List Nd} (hR : RightM next nds) {x : Int} {nd : Nd} (hx : ndOf nds x = some nd) (h0 : nd.par ≠ 0) : ∃ p, ndOf nds nd.par = some p ∧ x ∈ p.kids := by
  obtain ⟨i, _, hi, he⟩ := ndOf_some hx
  have hb := hR.below nd (List.mem_of_getElem? hi)
  rw [belowB, if_neg h0] at hb
  cases hp : ndOf nds nd.par with
  | none => rw [hp] at hb; cases hb
  | some p =>
    rw [hp] at hb
    simp only [Bool.and_eq_true] at hb
    have h1 := hb.1.2
    rw [he] at h1
    exact ⟨p, rfl, by simpa using h1⟩
theorem mem_self {nds : List Nd} (x : Int) : x ∈ preI nds x := by
  obtain ⟨r, hr⟩ := preI_cons nds x
  rw [hr]; exact List.mem_cons_self ..
theorem not_self {nds : List Nd} {id parent : Int} (h : (preI nds id).contains parent = false) : parent ≠ id := by
  rintro rfl
  have : (preI nds parent).contains parent = true := by simpa using mem_self (nds := nds) parent
  rw [h] at this; cases this
section
variable (w : World) (B : Nat) (next id parent at_ ri : Int) (role : ByteArray) (L M : Nat) (g n c : Nat) (l : List (Nd × Leaf)) (t : List Nd)
theorem put_ok (h : OwnM w B (.slice (some ⟨g, 0, none⟩) n c) l) (hn : l.length = n) (hm : l.map (·.1) = t) (hT : LaxM next t) (hs : role.size ≤ maxLen) (p : Nd) (hp : ndOf t id = some p) (hne : parent ≠ id) (ha : admV next t parent role at_ L M = (ri, 0)) (nx : Int) :
    Calls Tryz.prog 47 #[.agg #[.int .i64 nx, .slice (some ⟨g, 0, none⟩) n c], .int .i64 id, .agg #[.int .i64 parent, .string role, .int .i64 at_], .int .i64 ri] w (PutPost w B g n c (putL t id parent role ri.toNat)) := by
  subst hm
  have hn4 : n ≤ 4096 := by have := hT.len; rw [List.length_map] at this; omega
  obtain ⟨i, hix, hi, hie⟩ := ndOf_some hp
  rw [List.getElem?_map] at hi
  cases hl : l[i]? with
  | none => rw [hl] at hi; cases hi
  | some q =>
    rw [hl] at hi
    obtain rfl : q.1 = p := by simpa using hi
    by_cases h0 : parent = 0
    · refine put_any w B nx id ri parent at_ role g n c l h hn hn4 hT.rise i q hl hie hs 0 0 q.1 q.2 (fun h => absurd h0 h) _ ?_
      rw [putL_root hp hix h0, if_pos h0]
    · obtain ⟨_, _, _, _, hx⟩ := adm_lax hT ha
      obtain ⟨x, jj, a, j1, j2, j3, j4, j5, j6, j7, j8⟩ := hx h0
      have j3' := j3
      rw [List.getElem?_map] at j3
      cases hq : l[jj]? with
      | none => rw [hq] at j3; cases j3
      | some y =>
        rw [hq] at j3
        obtain rfl : y.1 = x := by simpa using j3
        have hji : jj ≠ i := by
          rintro rfl
          rw [hl] at hq
          injection hq with hq
          subst hq
          exact hne (by rw [← j4, hie])
        refine put_any w B nx id ri parent at_ role g n c l h hn hn4 hT.rise i q hl hie hs jj a y.1 y.2 (fun _ => ⟨hq, j4, hji, j6, j7.kl, j5⟩) _ ?_
        rw [putL_below hp hix h0 j1 j2, j5, Int.toNat_natCast, if_neg h0]
end
end Go.Proofs.YtbkmdlfenbfdlaaGreat
namespace Go.Proofs.YtbkmdlfenbfdlaaGreat
open Go Go.RowKit Go.Sort
set_option linter.unusedVariables false
attribute [local go_sem ↓] Go.wp_at_zero Go.wp_at_succ
theorem takeL_len (nds : List Nd) (id : Int) : (takeL nds id).length = nds.length := by unfold takeL; rw [List.length_map]
theorem putL_len (t : List Nd) (id parent : Int) (role : ByteArray) (a : Nat) : (putL t id parent role a).length = t.length := by
  unfold putL
  split
  · rfl
  · split
    · rw [List.length_set]
    · split
      · rfl
      · rw [List.length_set, List.length_set]
set_option maxRecDepth 20000 in
set_option maxHeartbeats 3200000 in
theorem move_adm (w : World) (hi : Nat) (next id parent at_ : Int) (role : ByteArray) (A : Option Addr) (n c : Nat) (nds : List Nd) (h : NodesIn w 0 hi A n c nds) (hh : hi ≤ w.heap.size) (hs : role.size ≤ maxLen) (hf : ∀ nd ∈ nds, Fits 1 nd) (hr : rightB next nds = true) (hw : (parent == 0 || wordB role) = true) (nd : Nd) (hx : ndOf nds id = some nd) (hb : (preI nds id).contains parent = false) (hz : (admV next (takeL nds id) parent role at_ (hiV nds id) 0).2 ≠ 0) :
    Calls Tryz.prog 21 #[.agg #[.int .i64 next, .slice A n c], .int .i64 id, .int .i64 parent, .string role, .int .i64 at_] w (SetPost w next (moveE next nds id parent role at_) (moveL next nds id parent role at_)) := by
  have hres : Tryz.f21.results = #[.cell 10 26, .tmp 11] := by kernel_rfl
  have HA0 := Lib.hid (A0.start w next A n c)
  have HCk : Hid (∀ X, Below w.heap.size w X → Calls Tryz.prog 12 #[.agg #[.int .i64 next, .slice A n c]] X (Ret X (.int .i64 (checkV next nds)))) := Lib.hid fun X hX => check_any X hi next A n c nds (h.below (hX.mono hh)) (Nat.le_trans hh hX.size)
  have hrm := rightM hr
  have hcv : checkV next nds = 0 := by unfold checkV; rw [hr]; rfl
  rw [hcv] at HCk
  have hn4 : n ≤ 4096 := by rw [← h.1]; exact hrm.len
  have HNm : Hid (∀ X, Calls Tryz.prog 44 #[.agg #[.int .i64 parent, .string role, .int .i64 at_]] X (Ret X (.bool true))) := Lib.hid fun X => named_any X parent at_ role hs true hw
  have HHa : Hid (∀ X, Below w.heap.size w X → Calls Tryz.prog 40 #[.agg #[.int .i64 next, .slice A n c], .int .i64 id] X (Ret X (.bool true))) := Lib.hid fun X hX => by
    have h1 := has_any X hi next id A n c nds (h.below (hX.mono hh)) (Nat.le_trans hh hX.size) hrm.rise hn4
    rw [has_ndOf, hx] at h1
    exact h1
  have HBr : Hid (∀ X, Below w.heap.size w X → Calls Tryz.prog 49 #[.agg #[.int .i64 next, .slice A n c], .int .i64 id] X (ListR X (preI nds id))) := Lib.hid fun X hX => branch_any X hi next id A n c nds (h.below (hX.mono hh)) (Nat.le_trans hh hX.size) hrm nd hx
  obtain ⟨bq, hbq⟩ : ∃ b, (preI nds id).contains parent = b := ⟨_, rfl⟩
  have HCo : Hid (∀ X lo hi' Aq cq, Row X lo hi' 1 Aq (preI nds id).length cq (intCells (preI nds id)) → Calls Tryz.prog 55 #[.slice Aq (preI nds id).length cq, .int .i64 parent] X (Says X bq)) := Lib.hid fun X lo hi' Aq cq h1 => by rw [← hbq]; exact contains_int X lo hi' Aq _ cq _ parent h1
  rw [hb] at hbq
  subst hbq
  obtain ⟨t, ht⟩ : ∃ t, takeL nds id = t := ⟨_, rfl⟩
  have hT : LaxM next t := ht ▸ hrm.lax.take id
  have hh64 := hi_le hrm hx
  obtain ⟨hv, hhv⟩ : ∃ k, hiV nds id = k := ⟨_, rfl⟩
  rw [hhv] at hh64
  have HLv : Hid (∀ X, Below w.heap.size w X → Calls Tryz.prog 56 #[.agg #[.int .i64 next, .slice A n c], .int .i64 id] X (Ret X (.int .i64 hv))) := Lib.hid fun X hX => by
    rw [← hhv]; exact levels_any X hi next id A n c nds (h.below (hX.mono hh)) (Nat.le_trans hh hX.size) hrm nd hx
  obtain ⟨rr, hrr⟩ : ∃ rr, admV next t parent role at_ hv 0 = rr := ⟨_, rfl⟩
  have HOw : Hid (∀ X, Below w.heap.size w X → Calls Tryz.prog 46 #[.agg #[.int .i64 next, .slice A n c]] X fun e w' => ∃ g l, e = .returned (.agg #[.int .i64 next, .slice (some ⟨g, 0, none⟩) n n]) ∧ OwnM w' X.heap.size (.slice (some ⟨g, 0, none⟩) n n) l ∧ l.map (·.1) = nds ∧ Below X.heap.size X w') := Lib.hid fun X hX => own_any X hi next A n c nds (h.below (hX.mono hh)) (Nat.le_trans hh hX.size) hn4 hf
  have HTk : Hid (∀ X g l, OwnM X w.heap.size (.slice (some ⟨g, 0, none⟩) n n) l → l.length = n → l.map (·.1) = nds → Calls Tryz.prog 48 #[.agg #[.int .i64 next, .slice (some ⟨g, 0, none⟩) n n], .int .i64 id] X (PutPost X w.heap.size g n n t)) := Lib.hid fun X g l h1 h2 h3 => by
    subst h3
    rw [← ht]
    exact take_any X w.heap.size next id g n n l h1 h2 hrm nd hx (fun h0 => in_kids hrm hx h0)
  obtain ⟨ri, re⟩ := rr
  have HAd : Hid (∀ X g l, OwnM X w.heap.size (.slice (some ⟨g, 0, none⟩) n n) l → l.length = n → l.map (·.1) = t → Calls Tryz.prog 45 #[.agg #[.int .i64 parent, .string role, .int .i64 at_], .agg #[.int .i64 next, .slice (some ⟨g, 0, none⟩) n n], .int .i64 hv, .int .i64 0] X (Ret X (.tuple #[.int .i64 ri, .int .i64 re]))) := Lib.hid fun X g l h1 h2 h3 => by
    have := admits_lax X X.heap.size next parent at_ role hv 0 (some ⟨g, 0, none⟩) n n t (by rw [← h3]; exact (h1.nodesIn h2).mono (Nat.zero_le _) (Nat.le_refl _)) (Nat.le_refl _) hT (by omega) (by omega)
    rw [hrr] at this
    exact this
  have hEE : moveE next nds id parent role at_ = re := by unfold moveE; rw [if_neg (by rw [hr]; simp), if_neg (by rw [hw]; simp), if_neg (by rw [hx]; simp), if_neg (by rw [hb]; simp), ht, hhv, hrr]
  have HLN0 : Hid (nds.length = n) := Lib.hid h.1
  have HNZ : Hid (re ≠ 0) := Lib.hid (by rw [ht, hhv, hrr] at hz; exact hz)
  have hnz : (re != 0) = true := by rw [bne_iff_ne]; exact HNZ.out
  have HE := Lib.hid hEE
  have HTT := Lib.hid ht
  clear h hf hcv hr hw hx hrm hb hT ht hhv hrr hEE hz hh64
  go_enter Tryz.func21, Tryz.ntmps21
  go_upto_region 5 with (go_at_call 12; (with_reducible refine (HCk.out _ HA0.out.bel).mono ?_); go_must (rintro e w1 ⟨rfl, hb1⟩; have ha1 := HA0.out.after hb1; have ar0 := ha1.r.cell 0; have ar1 := ha1.r.cell 1; have ar2 := ha1.r.frozen 0; have ar3 := ha1.r.frozen 1; have am0 := ha1.m.cell 0; have am1 := ha1.m.cell 1; simp at ar0 ar1 am0 am1; have HA1 := Lib.hid ha1; clear ha1 hb1))
  have HB := Lib.hid (HA1.out.spot parent role at_)
  generalize w1.alloc (.cells #[.int .i64 parent, .string role, .int .i64 at_] 78) = X5 at HB ⊢
  generalize w1.heap.size = gs at HB ⊢
  clear ar0 ar1 ar2 ar3 am0 am1
  have b0 := HB.out.r.cell 0
  have b1 := HB.out.r.cell 1
  have b2 := HB.out.r.frozen 0
  have b3 := HB.out.r.frozen 1
  have b4 := HB.out.s.cell 0
  have b5 := HB.out.s.cell 1
  have b6 := HB.out.s.cell 2
  have b7 := HB.out.m.cell 0
  have b8 := HB.out.m.cell 1
  simp at b0 b1 b4 b5 b6 b7 b8
  go_upto_region 11 with (first | (go_at_call 44; (with_reducible refine (HNm.out _).mono ?_); go_must (rintro e w2 ⟨rfl, hb2⟩; have hb2' := HB.out.after hb2; have pr0 := hb2'.r.cell 0; have pr1 := hb2'.r.cell 1; have pr2 := hb2'.r.frozen 0; have pr3 := hb2'.r.frozen 1; have pm0 := hb2'.m.cell 0; have pm1 := hb2'.m.cell 1; simp at pr0 pr1 pm0 pm1; have ps0 := hb2'.s.cell 0; have ps1 := hb2'.s.cell 1; have ps2 := hb2'.s.cell 2; simp at ps0 ps1 ps2; have HB2 := Lib.hid hb2'; clear hb2 hb2')) | (go_at_call 40; (with_reducible refine (HHa.out _ HB2.out.bel).mono ?_); go_must (rintro e w3 ⟨rfl, hb3⟩; have hb3' := HB2.out.after hb3; have qr0 := hb3'.r.cell 0; have qr1 := hb3'.r.cell 1; have qr2 := hb3'.r.frozen 0; have qr3 := hb3'.r.frozen 1; have qm0 := hb3'.m.cell 0; have qm1 := hb3'.m.cell 1; simp at qr0 qr1 qm0 qm1; have qs0 := hb3'.s.cell 0; have qs1 := hb3'.s.cell 1; have qs2 := hb3'.s.cell 2; simp at qs0 qs1 qs2; have HB3 := Lib.hid hb3'; clear hb3 hb3')) | (go_at_call 49; (with_reducible refine (HBr.out _ HB3.out.bel).mono ?_); go_must (rintro e w4 ⟨vb, rfl, hvb, hb4⟩; obtain ⟨Ab, cb, rfl⟩ := own_form hvb; have HVB := Lib.hid (own_row hvb); have hb4' := HB3.out.after hb4; have tr0 := hb4'.r.cell 0; have tr1 := hb4'.r.cell 1; have tr2 := hb4'.r.frozen 0; have tr3 := hb4'.r.frozen 1; have tm0 := hb4'.m.cell 0; have tm1 := hb4'.m.cell 1; simp at tr0 tr1 tm0 tm1; have ts0 := hb4'.s.cell 0; have ts1 := hb4'.s.cell 1; have ts2 := hb4'.s.cell 2; simp at ts0 ts1 ts2; have HB4 := Lib.hid hb4'; clear hb4 hb4' hvb)) | (go_at_call 55; go_must (refine (HCo.out _ _ _ _ _ HVB.out).mono ?_; rintro e w5 ⟨rfl, rfl⟩)))
  go_upto_region 12 with (go_at_call 46; (with_reducible refine (HOw.out _ HB4.out.bel).mono ?_); go_must (rintro e w6 ⟨g, l, rfl, ho6, hl6, hb6⟩; have HB6 := Lib.hid (HB4.out.after hb6); have HO6 := Lib.hid (ho6.mono HB4.out.bel.size); have HL6 := Lib.hid hl6; clear hb6 ho6 hl6))
  have HLN : Hid (l.length = n) := Lib.hid (by have := congrArg List.length HL6.out; rw [List.length_map, HLN0.out] at this; exact this)
  have hsz6 := HB6.out.bel.size
  have hsr := HB6.out.r.lt
  have HX6 : Hid (AO w parent role at_ next A n c gs w6.heap.size next (.slice (some ⟨g, 0, none⟩) n n) l (w6.alloc (.cells #[.int .i64 next, .slice (some ⟨g, 0, none⟩) n n] 26))) := Lib.hid ⟨HB6.out.after (below_more (Below.refl _ _) _), Blk.new _ _ _, HO6.out.after (below_more (Below.refl _ _) _), hsz6, by omega, by omega⟩
  generalize w6.alloc (.cells #[.int .i64 next, .slice (some ⟨g, 0, none⟩) n n] 26) = X6 at HX6 ⊢
  generalize w6.heap.size = go at HX6 ⊢
  clear hsz6 hsr b0 b1 b2 b3 b4 b5 b6 b7 b8
  have g0 := HX6.out.out.cell 0
  have g1 := HX6.out.out.cell 1
  simp at g0 g1
  go_upto_region 13 with (go_at_call 48; (with_reducible refine (HTk.out _ _ _ HX6.out.own HLN.out HL6.out).mono ?_); go_must (rintro e w7 ⟨rfl, l', ho7, hg7, hm7⟩; have HX8 := Lib.hid (HX6.out.turned ho7 hg7); have HMT := Lib.hid hm7; clear ho7 hg7 hm7))
  have HLT : Hid (l'.length = n) := Lib.hid (by have := congrArg List.length HMT.out; rw [List.length_map, ← HTT.out, takeL_len, HLN0.out] at this; exact this)
  rename World => X8
  have HSof : Hid (∀ X, AO w parent role at_ next A n c gs go next (.slice (some ⟨g, 0, none⟩) n n) l' X → X.cell? ⟨gs, 0, none⟩ = some (.int .i64 parent) ∧ X.cell? ⟨gs, 1, none⟩ = some (.string role) ∧ X.cell? ⟨gs, 2, none⟩ = some (.int .i64 at_) ∧ X.cell? ⟨go, 0, none⟩ = some (.int .i64 next) ∧ X.cell? ⟨go, 1, none⟩ = some (.slice (some ⟨g, 0, none⟩) n n) ∧ X.cell? ⟨w.heap.size, 0, none⟩ = some (.int .i64 next) ∧ X.cell? ⟨w.heap.size, 1, none⟩ = some (.slice A n c)) := Lib.hid fun X hX => ⟨(hX.ab.s.cell 0).trans rfl, (hX.ab.s.cell 1).trans rfl, (hX.ab.s.cell 2).trans rfl, (hX.out.cell 0).trans rfl, (hX.out.cell 1).trans rfl, (hX.ab.m.cell 0).trans rfl, (hX.ab.m.cell 1).trans rfl⟩
  obtain ⟨f0, f1, f2, f3, f4, f5, f6⟩ := HSof.out _ HX8.out
  have q0 := cell_regrown f0
  have q1 := cell_regrown f1
  have q2 := cell_regrown f2
  have q3 := cell_regrown f3
  have q4 := cell_regrown f4
  have q5 := cell_regrown f5
  have q6 := cell_regrown f6
  have HLq := Lib.hid fun (d : Nat) (os : Array Obj) => HLv.out _ (HX8.out.ab.bel.trans ((below_regrown X8 d os).mono HX8.out.ab.bel.size))
  have HAq := Lib.hid fun (d : Nat) (os : Array Obj) => HAd.out _ g l' (HX8.out.own.after (below_regrown X8 d os)) HLT.out HMT.out
  clear f0 f1 f2 f3 f4 f5 f6
  refine wp_region_quiet_below (by kernel_rfl) (by kernel_rfl) ?_
  repeat (go_big_quiet_step ((first | (go_at_call 56; exact regrown_ret (HLq.out _ _)) | (go_at_call 45; exact regrown_ret (HAq.out _ _)))))
  refine wpQuiet_nil ?_
  intro _ hw'
  obtain ⟨⟨dq, osq⟩, hw''⟩ := hw'
  subst hw''
  have HX := Lib.hid (HX8.out.after (below_regrown _ dq osq))
  generalize grow (redrawn _ dq) osq = wz at HX ⊢
  clear q0 q1 q2 q3 q4 q5 q6
  have c0 := HX.out.ab.r.cell 0
  have c1 := HX.out.ab.r.cell 1
  have c2 := HX.out.ab.r.frozen 0
  have c3 := HX.out.ab.r.frozen 1
  simp at c0 c1
  go_wp2_with fail
  (try rw [Exit.noGoto_ret])
  (try simp only [Exit.inBlock, Exit.then])
  refine bodyPost_ret (v := .tuple #[.agg #[.int .i64 0, .slice none 0 0], .int .i64 re]) ?hr rfl ?_
  case hr =>
    simp only [results, hres]
    go_simp
  rw [HE.out]
  exact mv_err HNZ.out ((HX.out.ab.bel.setCell (p := ⟨w.heap.size + 1, 0, none⟩) (by simp) _).setCell (p := ⟨w.heap.size + 1, 1, none⟩) (by simp) _)
set_option maxRecDepth 20000 in
set_option maxHeartbeats 3200000 in
theorem move_yes (w : World) (hi : Nat) (next id parent at_ : Int) (role : ByteArray) (A : Option Addr) (n c : Nat) (nds : List Nd) (h : NodesIn w 0 hi A n c nds) (hh : hi ≤ w.heap.size) (hs : role.size ≤ maxLen) (hf : ∀ nd ∈ nds, Fits 1 nd) (hr : rightB next nds = true) (hw : (parent == 0 || wordB role) = true) (nd : Nd) (hx : ndOf nds id = some nd) (hb : (preI nds id).contains parent = false) (hz : (admV next (takeL nds id) parent role at_ (hiV nds id) 0).2 = 0) :
    Calls Tryz.prog 21 #[.agg #[.int .i64 next, .slice A n c], .int .i64 id, .int .i64 parent, .string role, .int .i64 at_] w (SetPost w next (moveE next nds id parent role at_) (moveL next nds id parent role at_)) := by
  have hres : Tryz.f21.results = #[.cell 10 26, .tmp 11] := by kernel_rfl
  have HA0 := Lib.hid (A0.start w next A n c)
  have HCk : Hid (∀ X, Below w.heap.size w X → Calls Tryz.prog 12 #[.agg #[.int .i64 next, .slice A n c]] X (Ret X (.int .i64 (checkV next nds)))) := Lib.hid fun X hX => check_any X hi next A n c nds (h.below (hX.mono hh)) (Nat.le_trans hh hX.size)
  have hrm := rightM hr
  have hcv : checkV next nds = 0 := by unfold checkV; rw [hr]; rfl
  rw [hcv] at HCk
  have hn4 : n ≤ 4096 := by rw [← h.1]; exact hrm.len
  have HNm : Hid (∀ X, Calls Tryz.prog 44 #[.agg #[.int .i64 parent, .string role, .int .i64 at_]] X (Ret X (.bool true))) := Lib.hid fun X => named_any X parent at_ role hs true hw
  have HHa : Hid (∀ X, Below w.heap.size w X → Calls Tryz.prog 40 #[.agg #[.int .i64 next, .slice A n c], .int .i64 id] X (Ret X (.bool true))) := Lib.hid fun X hX => by
    have h1 := has_any X hi next id A n c nds (h.below (hX.mono hh)) (Nat.le_trans hh hX.size) hrm.rise hn4
    rw [has_ndOf, hx] at h1
    exact h1
  have HBr : Hid (∀ X, Below w.heap.size w X → Calls Tryz.prog 49 #[.agg #[.int .i64 next, .slice A n c], .int .i64 id] X (ListR X (preI nds id))) := Lib.hid fun X hX => branch_any X hi next id A n c nds (h.below (hX.mono hh)) (Nat.le_trans hh hX.size) hrm nd hx
  obtain ⟨bq, hbq⟩ : ∃ b, (preI nds id).contains parent = b := ⟨_, rfl⟩
  have HCo : Hid (∀ X lo hi' Aq cq, Row X lo hi' 1 Aq (preI nds id).length cq (intCells (preI nds id)) → Calls Tryz.prog 55 #[.slice Aq (preI nds id).length cq, .int .i64 parent] X (Says X bq)) := Lib.hid fun X lo hi' Aq cq h1 => by rw [← hbq]; exact contains_int X lo hi' Aq _ cq _ parent h1
  rw [hb] at hbq
  subst hbq
  obtain ⟨t, ht⟩ : ∃ t, takeL nds id = t := ⟨_, rfl⟩
  have hT : LaxM next t := ht ▸ hrm.lax.take id
  have hh64 := hi_le hrm hx
  obtain ⟨hv, hhv⟩ : ∃ k, hiV nds id = k := ⟨_, rfl⟩
  rw [hhv] at hh64
  have HLv : Hid (∀ X, Below w.heap.size w X → Calls Tryz.prog 56 #[.agg #[.int .i64 next, .slice A n c], .int .i64 id] X (Ret X (.int .i64 hv))) := Lib.hid fun X hX => by
    rw [← hhv]; exact levels_any X hi next id A n c nds (h.below (hX.mono hh)) (Nat.le_trans hh hX.size) hrm nd hx
  obtain ⟨rr, hrr⟩ : ∃ rr, admV next t parent role at_ hv 0 = rr := ⟨_, rfl⟩
  have HOw : Hid (∀ X, Below w.heap.size w X → Calls Tryz.prog 46 #[.agg #[.int .i64 next, .slice A n c]] X fun e w' => ∃ g l, e = .returned (.agg #[.int .i64 next, .slice (some ⟨g, 0, none⟩) n n]) ∧ OwnM w' X.heap.size (.slice (some ⟨g, 0, none⟩) n n) l ∧ l.map (·.1) = nds ∧ Below X.heap.size X w') := Lib.hid fun X hX => own_any X hi next A n c nds (h.below (hX.mono hh)) (Nat.le_trans hh hX.size) hn4 hf
  have HTk : Hid (∀ X g l, OwnM X w.heap.size (.slice (some ⟨g, 0, none⟩) n n) l → l.length = n → l.map (·.1) = nds → Calls Tryz.prog 48 #[.agg #[.int .i64 next, .slice (some ⟨g, 0, none⟩) n n], .int .i64 id] X (PutPost X w.heap.size g n n t)) := Lib.hid fun X g l h1 h2 h3 => by
    subst h3
    rw [← ht]
    exact take_any X w.heap.size next id g n n l h1 h2 hrm nd hx (fun h0 => in_kids hrm hx h0)
  obtain ⟨ri, re⟩ := rr
  have HAd : Hid (∀ X g l, OwnM X w.heap.size (.slice (some ⟨g, 0, none⟩) n n) l → l.length = n → l.map (·.1) = t → Calls Tryz.prog 45 #[.agg #[.int .i64 parent, .string role, .int .i64 at_], .agg #[.int .i64 next, .slice (some ⟨g, 0, none⟩) n n], .int .i64 hv, .int .i64 0] X (Ret X (.tuple #[.int .i64 ri, .int .i64 re]))) := Lib.hid fun X g l h1 h2 h3 => by
    have := admits_lax X X.heap.size next parent at_ role hv 0 (some ⟨g, 0, none⟩) n n t (by rw [← h3]; exact (h1.nodesIn h2).mono (Nat.zero_le _) (Nat.le_refl _)) (Nat.le_refl _) hT (by omega) (by omega)
    rw [hrr] at this
    exact this
  have hEE : moveE next nds id parent role at_ = re := by unfold moveE; rw [if_neg (by rw [hr]; simp), if_neg (by rw [hw]; simp), if_neg (by rw [hx]; simp), if_neg (by rw [hb]; simp), ht, hhv, hrr]
  have HLN0 : Hid (nds.length = n) := Lib.hid h.1
  obtain rfl : re = 0 := by rw [ht, hhv, hrr] at hz; exact hz
  have HML : Hid (moveL next nds id parent role at_ = putL t id parent role ri.toNat) := Lib.hid (by unfold moveL; rw [ht, hhv, hrr])
  have HPt : Hid (∀ X g l, OwnM X w.heap.size (.slice (some ⟨g, 0, none⟩) n n) l → l.length = n → l.map (·.1) = t → Calls Tryz.prog 47 #[.agg #[.int .i64 next, .slice (some ⟨g, 0, none⟩) n n], .int .i64 id, .agg #[.int .i64 parent, .string role, .int .i64 at_], .int .i64 ri] X (PutPost X w.heap.size g n n (putL t id parent role ri.toNat))) := Lib.hid fun X g l h1 h2 h3 => by
    have hp : ndOf t id = some (takeF (parV nds id) id nd) := by rw [← ht]; unfold takeL; rw [ndOf_map (takeF_id _ _), hx]; rfl
    exact put_ok X w.heap.size next id parent at_ ri role hv 0 g n n l t h1 h2 h3 hT hs _ hp (not_self hb) hrr next
  have HE := Lib.hid hEE
  have HTT := Lib.hid ht
  clear h hf hcv hr hw hx hrm hb hT ht hhv hrr hEE hz hh64
  go_enter Tryz.func21, Tryz.ntmps21
  go_upto_region 5 with (go_at_call 12; (with_reducible refine (HCk.out _ HA0.out.bel).mono ?_); go_must (rintro e w1 ⟨rfl, hb1⟩; have ha1 := HA0.out.after hb1; have ar0 := ha1.r.cell 0; have ar1 := ha1.r.cell 1; have ar2 := ha1.r.frozen 0; have ar3 := ha1.r.frozen 1; have am0 := ha1.m.cell 0; have am1 := ha1.m.cell 1; simp at ar0 ar1 am0 am1; have HA1 := Lib.hid ha1; clear ha1 hb1))
  have HB := Lib.hid (HA1.out.spot parent role at_)
  generalize w1.alloc (.cells #[.int .i64 parent, .string role, .int .i64 at_] 78) = X5 at HB ⊢
  generalize w1.heap.size = gs at HB ⊢
  clear ar0 ar1 ar2 ar3 am0 am1
  have b0 := HB.out.r.cell 0
  have b1 := HB.out.r.cell 1
  have b2 := HB.out.r.frozen 0
  have b3 := HB.out.r.frozen 1
  have b4 := HB.out.s.cell 0
  have b5 := HB.out.s.cell 1
  have b6 := HB.out.s.cell 2
  have b7 := HB.out.m.cell 0
  have b8 := HB.out.m.cell 1
  simp at b0 b1 b4 b5 b6 b7 b8
  go_upto_region 11 with (first | (go_at_call 44; (with_reducible refine (HNm.out _).mono ?_); go_must (rintro e w2 ⟨rfl, hb2⟩; have hb2' := HB.out.after hb2; have pr0 := hb2'.r.cell 0; have pr1 := hb2'.r.cell 1; have pr2 := hb2'.r.frozen 0; have pr3 := hb2'.r.frozen 1; have pm0 := hb2'.m.cell 0; have pm1 := hb2'.m.cell 1; simp at pr0 pr1 pm0 pm1; have ps0 := hb2'.s.cell 0; have ps1 := hb2'.s.cell 1; have ps2 := hb2'.s.cell 2; simp at ps0 ps1 ps2; have HB2 := Lib.hid hb2'; clear hb2 hb2')) | (go_at_call 40; (with_reducible refine (HHa.out _ HB2.out.bel).mono ?_); go_must (rintro e w3 ⟨rfl, hb3⟩; have hb3' := HB2.out.after hb3; have qr0 := hb3'.r.cell 0; have qr1 := hb3'.r.cell 1; have qr2 := hb3'.r.frozen 0; have qr3 := hb3'.r.frozen 1; have qm0 := hb3'.m.cell 0; have qm1 := hb3'.m.cell 1; simp at qr0 qr1 qm0 qm1; have qs0 := hb3'.s.cell 0; have qs1 := hb3'.s.cell 1; have qs2 := hb3'.s.cell 2; simp at qs0 qs1 qs2; have HB3 := Lib.hid hb3'; clear hb3 hb3')) | (go_at_call 49; (with_reducible refine (HBr.out _ HB3.out.bel).mono ?_); go_must (rintro e w4 ⟨vb, rfl, hvb, hb4⟩; obtain ⟨Ab, cb, rfl⟩ := own_form hvb; have HVB := Lib.hid (own_row hvb); have hb4' := HB3.out.after hb4; have tr0 := hb4'.r.cell 0; have tr1 := hb4'.r.cell 1; have tr2 := hb4'.r.frozen 0; have tr3 := hb4'.r.frozen 1; have tm0 := hb4'.m.cell 0; have tm1 := hb4'.m.cell 1; simp at tr0 tr1 tm0 tm1; have ts0 := hb4'.s.cell 0; have ts1 := hb4'.s.cell 1; have ts2 := hb4'.s.cell 2; simp at ts0 ts1 ts2; have HB4 := Lib.hid hb4'; clear hb4 hb4' hvb)) | (go_at_call 55; go_must (refine (HCo.out _ _ _ _ _ HVB.out).mono ?_; rintro e w5 ⟨rfl, rfl⟩)))
  go_upto_region 12 with (go_at_call 46; (with_reducible refine (HOw.out _ HB4.out.bel).mono ?_); go_must (rintro e w6 ⟨g, l, rfl, ho6, hl6, hb6⟩; have HB6 := Lib.hid (HB4.out.after hb6); have HO6 := Lib.hid (ho6.mono HB4.out.bel.size); have HL6 := Lib.hid hl6; clear hb6 ho6 hl6))
  have HLN : Hid (l.length = n) := Lib.hid (by have := congrArg List.length HL6.out; rw [List.length_map, HLN0.out] at this; exact this)
  have hsz6 := HB6.out.bel.size
  have hsr := HB6.out.r.lt
  have HX6 : Hid (AO w parent role at_ next A n c gs w6.heap.size next (.slice (some ⟨g, 0, none⟩) n n) l (w6.alloc (.cells #[.int .i64 next, .slice (some ⟨g, 0, none⟩) n n] 26))) := Lib.hid ⟨HB6.out.after (below_more (Below.refl _ _) _), Blk.new _ _ _, HO6.out.after (below_more (Below.refl _ _) _), hsz6, by omega, by omega⟩
  generalize w6.alloc (.cells #[.int .i64 next, .slice (some ⟨g, 0, none⟩) n n] 26) = X6 at HX6 ⊢
  generalize w6.heap.size = go at HX6 ⊢
  clear hsz6 hsr b0 b1 b2 b3 b4 b5 b6 b7 b8
  have g0 := HX6.out.out.cell 0
  have g1 := HX6.out.out.cell 1
  simp at g0 g1
  go_upto_region 13 with (go_at_call 48; (with_reducible refine (HTk.out _ _ _ HX6.out.own HLN.out HL6.out).mono ?_); go_must (rintro e w7 ⟨rfl, l', ho7, hg7, hm7⟩; have HX8 := Lib.hid (HX6.out.turned ho7 hg7); have HMT := Lib.hid hm7; clear ho7 hg7 hm7))
  have HLT : Hid (l'.length = n) := Lib.hid (by have := congrArg List.length HMT.out; rw [List.length_map, ← HTT.out, takeL_len, HLN0.out] at this; exact this)
  rename World => X8
  have HSof : Hid (∀ X, AO w parent role at_ next A n c gs go next (.slice (some ⟨g, 0, none⟩) n n) l' X → X.cell? ⟨gs, 0, none⟩ = some (.int .i64 parent) ∧ X.cell? ⟨gs, 1, none⟩ = some (.string role) ∧ X.cell? ⟨gs, 2, none⟩ = some (.int .i64 at_) ∧ X.cell? ⟨go, 0, none⟩ = some (.int .i64 next) ∧ X.cell? ⟨go, 1, none⟩ = some (.slice (some ⟨g, 0, none⟩) n n) ∧ X.cell? ⟨w.heap.size, 0, none⟩ = some (.int .i64 next) ∧ X.cell? ⟨w.heap.size, 1, none⟩ = some (.slice A n c)) := Lib.hid fun X hX => ⟨(hX.ab.s.cell 0).trans rfl, (hX.ab.s.cell 1).trans rfl, (hX.ab.s.cell 2).trans rfl, (hX.out.cell 0).trans rfl, (hX.out.cell 1).trans rfl, (hX.ab.m.cell 0).trans rfl, (hX.ab.m.cell 1).trans rfl⟩
  obtain ⟨f0, f1, f2, f3, f4, f5, f6⟩ := HSof.out _ HX8.out
  have q0 := cell_regrown f0
  have q1 := cell_regrown f1
  have q2 := cell_regrown f2
  have q3 := cell_regrown f3
  have q4 := cell_regrown f4
  have q5 := cell_regrown f5
  have q6 := cell_regrown f6
  have HLq := Lib.hid fun (d : Nat) (os : Array Obj) => HLv.out _ (HX8.out.ab.bel.trans ((below_regrown X8 d os).mono HX8.out.ab.bel.size))
  have HAq := Lib.hid fun (d : Nat) (os : Array Obj) => HAd.out _ g l' (HX8.out.own.after (below_regrown X8 d os)) HLT.out HMT.out
  clear f0 f1 f2 f3 f4 f5 f6
  refine wp_region_quiet_below (by kernel_rfl) (by kernel_rfl) ?_
  repeat (go_big_quiet_step ((first | (go_at_call 56; exact regrown_ret (HLq.out _ _)) | (go_at_call 45; exact regrown_ret (HAq.out _ _)))))
  refine wpQuiet_nil ?_
  intro _ hw'
  obtain ⟨⟨dq, osq⟩, hw''⟩ := hw'
  subst hw''
  have HX := Lib.hid (HX8.out.after (below_regrown _ dq osq))
  generalize grow (redrawn _ dq) osq = wz at HX ⊢
  clear q0 q1 q2 q3 q4 q5 q6
  have c0 := HX.out.ab.s.cell 0
  have c1 := HX.out.ab.s.cell 1
  have c2 := HX.out.ab.s.cell 2
  have c3 := HX.out.out.cell 0
  have c4 := HX.out.out.cell 1
  simp at c0 c1 c2 c3 c4
  go_upto_region 17 with (go_at_call 47; (with_reducible refine (HPt.out _ _ _ HX.out.own HLT.out HMT.out).mono ?_); go_must (rintro e w9 ⟨rfl, l9, ho9, hg9, hm9⟩; have HX9 := Lib.hid (HX.out.turned ho9 hg9); have HM9 := Lib.hid hm9; clear ho9 hg9 hm9))
  have d0 := HX9.out.ab.r.cell 0
  have d1 := HX9.out.ab.r.cell 1
  have d2 := HX9.out.ab.r.frozen 0
  have d3 := HX9.out.ab.r.frozen 1
  have d4 := HX9.out.out.cell 0
  have d5 := HX9.out.out.cell 1
  simp at d0 d1 d4 d5
  have HL9 : Hid (l9.length = n) := Lib.hid (by have := congrArg List.length HM9.out; rw [List.length_map, putL_len, ← HTT.out, takeL_len, HLN0.out] at this; exact this)
  go_wp2_with fail
  (try rw [Exit.noGoto_ret])
  (try simp only [Exit.inBlock, Exit.then])
  refine bodyPost_ret (v := .tuple #[.agg #[.int .i64 next, .slice (some ⟨g, 0, none⟩) n n], .int .i64 0]) ?hr rfl ?_
  case hr =>
    simp only [results, hres]
    go_simp
  rw [HE.out]
  refine ⟨next, some ⟨g, 0, none⟩, n, n, rfl, (HX9.out.ab.bel.setCell (p := ⟨w.heap.size + 1, 0, none⟩) (by simp) _).setCell (p := ⟨w.heap.size + 1, 1, none⟩) (by simp) _, fun h => absurd rfl h, fun _ => ⟨rfl, l9, (HX9.out.own.other HX9.out.ab.r 0 _).other (HX9.out.ab.r.set_ 0 _) 1 _, HL9.out, by rw [HM9.out, HML.out]⟩⟩
/-- Move of the program -/
theorem move_any (w : World) (hi : Nat) (next id parent at_ : Int) (role : ByteArray) (A : Option Addr) (n c : Nat) (nds : List Nd) (h : NodesIn w 0 hi A n c nds) (hh : hi ≤ w.heap.size) (hs : role.size ≤ maxLen) (hf : ∀ nd ∈ nds, Fits 1 nd) :
    Calls Tryz.prog 21 #[.agg #[.int .i64 next, .slice A n c], .int .i64 id, .int .i64 parent, .string role, .int .i64 at_] w (SetPost w next (moveE next nds id parent role at_) (moveL next nds id parent role at_)) := by
  cases hr : rightB next nds with
  | false => exact move_e29 w hi next id parent at_ role A n c nds h hh hs hr
  | true =>
    cases hw : (parent == 0 || wordB role) with
    | false => exact move_e2 w hi next id parent at_ role A n c nds h hh hs hr hw
    | true =>
      cases hx : ndOf nds id with
      | none => exact move_e20 w hi next id parent at_ role A n c nds h hh hs hr hw hx
      | some nd =>
        cases hb : (preI nds id).contains parent with
        | true => exact move_e21 w hi next id parent at_ role A n c nds h hh hs hr hw nd hx hb
        | false =>
          by_cases hz : (admV next (takeL nds id) parent role at_ (hiV nds id) 0).2 = 0
          · exact move_yes w hi next id parent at_ role A n c nds h hh hs hf hr hw nd hx hb hz
          · exact move_adm w hi next id parent at_ role A n c nds h hh hs hf hr hw nd hx hb hz
end Go.Proofs.YtbkmdlfenbfdlaaGreat
namespace Go.Proofs.YtbkmdlfenbfdlaaGreat
open Go Go.RowKit Go.Sort
set_option linter.unusedVariables false
attribute [local go_sem ↓] Go.wp_at_zero Go.wp_at_succ
/-- the boxes, and the model that is made -/
structure AR (w : World) (next : Int) (A : Option Addr) (n c go : Nat) (v : Value) (l : List (Nd × Leaf)) (X : World) : Prop where
  a : A0 w next A n c X
  out : Blk X go 26 #[.int .i64 next, v]
  own : OwnM X w.heap.size v l
  n1 : w.heap.size ≠ go
  n2 : w.heap.size + 1 ≠ go
section
variable {w X X' : World} {next : Int} {A : Option Addr} {n c go g m co : Nat} {v : Value} {l l' : List (Nd × Leaf)}
theorem AR.after (h : AR w next A n c go v l X) (hb : Below X.heap.size X X') : AR w next A n c go v l X' := ⟨h.a.after hb, h.out.after hb, h.own.after hb, h.n1, h.n2⟩
theorem AR.turned (h : AR w next A n c go (.slice (some ⟨g, 0, none⟩) m co) l X) (ho : OwnM X' w.heap.size (.slice (some ⟨g, 0, none⟩) m co) l') (hg : X.grownBy X' (some g)) : AR w next A n c go (.slice (some ⟨g, 0, none⟩) m co) l' X' :=
  ⟨⟨h.a.m.grown hg (Ne.symm (own_blk_ne h.own.own h.a.m (by decide))), h.a.r.grown hg (Ne.symm (own_blk_ne h.own.own h.a.r (by decide))), below_grows (v := .slice (some ⟨g, 0, none⟩) m co) h.a.bel hg h.own.own (Nat.le_refl _)⟩, h.out.grown hg (Ne.symm (own_blk_ne h.own.own h.out (by decide))), ho, h.n1, h.n2⟩
end
theorem own_some' {X : World} {B n c : Nat} {A : Option Addr} {l : List (Nd × Leaf)} (h : OwnM X B (.slice A n c) l) (hn : l.length = n) (h0 : 0 < n) : ∃ g, A = some ⟨g, 0, none⟩ := by
  have h1 := h.own
  unfold OwnN at h1
  rcases h1.2 with ⟨_, h2⟩ | ⟨g, cap, cur, hv, _⟩
  · omega
  · injection hv with h3
    exact ⟨g, h3⟩
end Go.Proofs.YtbkmdlfenbfdlaaGreat
namespace Go.Proofs.YtbkmdlfenbfdlaaGreat
open Go Go.RowKit Go.Sort
set_option linter.unusedVariables false
attribute [local go_sem ↓] Go.wp_at_zero Go.wp_at_succ
/-- the error that is told -/
def removeE (next : Int) (nds : List Nd) (id : Int) : Int := if rightB next nds = false then 29 else if (ndOf nds id).isNone = true then 20 else 0
/-- the nodes that are left -/
def removeL (nds : List Nd) (id : Int) : List Nd := (takeL nds id).filter fun y => !(preI nds id).contains y.id
set_option maxRecDepth 20000 in
set_option maxHeartbeats 1600000 in
theorem remove_e29 (w : World) (hi : Nat) (next id : Int) (A : Option Addr) (n c : Nat) (nds : List Nd) (h : NodesIn w 0 hi A n c nds) (hh : hi ≤ w.heap.size) (hr : rightB next nds = false) :
    Calls Tryz.prog 19 #[.agg #[.int .i64 next, .slice A n c], .int .i64 id] w (SetPost w next (removeE next nds id) (removeL nds id)) := by
  have hres : Tryz.f19.results = #[.cell 4 26, .tmp 5] := by kernel_rfl
  have HA0 := Lib.hid (A0.start w next A n c)
  have HCk : Hid (∀ X, Below w.heap.size w X → Calls Tryz.prog 12 #[.agg #[.int .i64 next, .slice A n c]] X (Ret X (.int .i64 (checkV next nds)))) := Lib.hid fun X hX => check_any X hi next A n c nds (h.below (hX.mono hh)) (Nat.le_trans hh hX.size)
  have HE : Hid (removeE next nds id = 29) := Lib.hid (by unfold removeE; rw [if_pos hr])
  have hcv : checkV next nds = 29 := by unfold checkV; rw [hr]; rfl
  rw [hcv] at HCk
  clear h hcv hr
  go_enter Tryz.func19, Tryz.ntmps19
  go_wp2_with (go_at_call 12; (with_reducible refine (HCk.out _ HA0.out.bel).mono ?_); go_must (rintro e w1 ⟨rfl, hb1⟩; have ha1 := HA0.out.after hb1; have r10 := ha1.r.cell 0; have r11 := ha1.r.cell 1; have r12 := ha1.r.frozen 0; have r13 := ha1.r.frozen 1; have m10 := ha1.m.cell 0; have m11 := ha1.m.cell 1; simp at r10 r11 m10 m11; have HA1 := Lib.hid ha1; clear ha1 hb1))
  (try rw [Exit.noGoto_ret])
  (try simp only [Exit.inBlock, Exit.then])
  refine bodyPost_ret (v := .tuple #[.agg #[.int .i64 0, .slice none 0 0], .int .i64 29]) ?hr rfl ?_
  case hr =>
    simp only [results, hres]
    go_simp
  rw [HE.out]
  exact mv_err (by decide) ((HA1.out.bel.setCell (p := ⟨w.heap.size + 1, 0, none⟩) (by simp) _).setCell (p := ⟨w.heap.size + 1, 1, none⟩) (by simp) _)
set_option maxRecDepth 20000 in
set_option maxHeartbeats 1600000 in
theorem remove_e20 (w : World) (hi : Nat) (next id : Int) (A : Option Addr) (n c : Nat) (nds : List Nd) (h : NodesIn w 0 hi A n c nds) (hh : hi ≤ w.heap.size) (hr : rightB next nds = true) (hx : ndOf nds id = none) :
    Calls Tryz.prog 19 #[.agg #[.int .i64 next, .slice A n c], .int .i64 id] w (SetPost w next (removeE next nds id) (removeL nds id)) := by
  have hres : Tryz.f19.results = #[.cell 4 26, .tmp 5] := by kernel_rfl
  have HA0 := Lib.hid (A0.start w next A n c)
  have HCk : Hid (∀ X, Below w.heap.size w X → Calls Tryz.prog 12 #[.agg #[.int .i64 next, .slice A n c]] X (Ret X (.int .i64 (checkV next nds)))) := Lib.hid fun X hX => check_any X hi next A n c nds (h.below (hX.mono hh)) (Nat.le_trans hh hX.size)
  have HE : Hid (removeE next nds id = 20) := Lib.hid (by unfold removeE; rw [if_neg (by rw [hr]; simp), if_pos (by rw [hx]; rfl)])
  have hcv : checkV next nds = 0 := by unfold checkV; rw [hr]; rfl
  rw [hcv] at HCk
  have hrm := rightM hr
  have hn4 : n ≤ 4096 := by rw [← h.1]; exact hrm.len
  have HHa : Hid (∀ X, Below w.heap.size w X → Calls Tryz.prog 40 #[.agg #[.int .i64 next, .slice A n c], .int .i64 id] X (Ret X (.bool false))) := Lib.hid fun X hX => by
    have h1 := has_any X hi next id A n c nds (h.below (hX.mono hh)) (Nat.le_trans hh hX.size) hrm.rise hn4
    rw [has_ndOf, hx] at h1
    exact h1
  clear h hcv hr hx hrm
  go_enter Tryz.func19, Tryz.ntmps19
  go_wp2_with (first | (go_at_call 12; (with_reducible refine (HCk.out _ HA0.out.bel).mono ?_); go_must (rintro e w1 ⟨rfl, hb1⟩; have ha1 := HA0.out.after hb1; have r10 := ha1.r.cell 0; have r11 := ha1.r.cell 1; have r12 := ha1.r.frozen 0; have r13 := ha1.r.frozen 1; have m10 := ha1.m.cell 0; have m11 := ha1.m.cell 1; simp at r10 r11 m10 m11; have HA1 := Lib.hid ha1; clear ha1 hb1)) | (go_at_call 40; (with_reducible refine (HHa.out _ HA1.out.bel).mono ?_); go_must (rintro e w3 ⟨rfl, hb3⟩; have ha3 := HA1.out.after hb3; have r30 := ha3.r.cell 0; have r31 := ha3.r.cell 1; have r32 := ha3.r.frozen 0; have r33 := ha3.r.frozen 1; have m30 := ha3.m.cell 0; have m31 := ha3.m.cell 1; simp at r30 r31 m30 m31; have HA3 := Lib.hid ha3; clear ha3 hb3)))
  (try rw [Exit.noGoto_ret])
  (try simp only [Exit.inBlock, Exit.then])
  refine bodyPost_ret (v := .tuple #[.agg #[.int .i64 0, .slice none 0 0], .int .i64 20]) ?hr rfl ?_
  case hr =>
    simp only [results, hres]
    go_simp
  rw [HE.out]
  exact mv_err (by decide) ((HA3.out.bel.setCell (p := ⟨w.heap.size + 1, 0, none⟩) (by simp) _).setCell (p := ⟨w.heap.size + 1, 1, none⟩) (by simp) _)
end Go.Proofs.YtbkmdlfenbfdlaaGreat

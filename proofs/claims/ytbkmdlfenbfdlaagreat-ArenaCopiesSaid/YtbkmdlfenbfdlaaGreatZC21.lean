/-
  WALKS: a node is copied: the program's.
  WALKS: a node is removed: the document's marks.
  WALKS: a node is removed: the document's.
-/
import Derived.Test.YtbkmdlfenbfdlaaGreatZC20
namespace Go.Proofs.YtbkmdlfenbfdlaaGreat
open Go Go.RowKit Go.Sort
set_option linter.unusedVariables false
attribute [local go_sem ↓] Go.wp_at_zero Go.wp_at_succ
theorem cp_err {w w' : World} {next id parent at_ er : Int} {nds : List Nd} {role : ByteArray} (hE : copyE next nds id parent role at_ = er) (he : er ≠ 0) (h : Below w.heap.size w w') : CopyPost w next nds id parent role at_ (.returned (.tuple #[.agg #[.int .i64 0, .slice none 0 0], .int .i64 0, .int .i64 er])) w' := by
  subst hE
  exact ⟨0, 0, none, 0, 0, rfl, h, fun _ => ⟨rfl, rfl, rfl, rfl, rfl⟩, fun h0 => absurd h0 he⟩
theorem OwnM.pushAll {X X' : World} {B n m : Nat} {v v' : Value} {l l2 : List (Nd × Leaf)} (h : OwnM X B v l) (hg : X.grownBy X' v.ownBlock) (hn : l.length = n) (hm : l2.length = m) (hown : X'.ownsRow B 41 7 v' (n + m) (allCells l ++ allCells l2)) (hp : ∀ p ∈ l2, OwnLeaf X B p.1 p.2) : OwnM X' B v' (l ++ l2) := by
  subst hn hm
  refine ⟨?_, fun q hq => ?_⟩
  · unfold OwnN
    have e : allCells (l ++ l2) = allCells l ++ allCells l2 := by simp [allCells]
    rw [e, List.length_append]
    exact hown
  · rcases List.mem_append.1 hq with hq | hq
    · exact (h.leaf q hq).kept h.own hg
    · exact (hp q hq).kept h.own hg
set_option maxRecDepth 20000 in
set_option maxHeartbeats 3200000 in
theorem copy_e29 (w : World) (hi : Nat) (next id parent at_ : Int) (role : ByteArray) (A : Option Addr) (n c : Nat) (nds : List Nd) (h : NodesIn w 0 hi A n c nds) (hh : hi ≤ w.heap.size) (hs : role.size ≤ maxLen) (hr : rightB next nds = false) :
    Calls Tryz.prog 24 #[.agg #[.int .i64 next, .slice A n c], .int .i64 id, .int .i64 parent, .string role, .int .i64 at_] w (CopyPost w next nds id parent role at_) := by
  have hres : Tryz.f24.results = #[.cell 10 26, .tmp 11, .tmp 12] := by kernel_rfl
  have HA0 := Lib.hid (A0.start w next A n c)
  have HCk : Hid (∀ X, Below w.heap.size w X → Calls Tryz.prog 12 #[.agg #[.int .i64 next, .slice A n c]] X (Ret X (.int .i64 (checkV next nds)))) := Lib.hid fun X hX => check_any X hi next A n c nds (h.below (hX.mono hh)) (Nat.le_trans hh hX.size)
  have HE : Hid (copyE next nds id parent role at_ = 29) := Lib.hid (by unfold copyE; rw [if_pos hr])
  have hcv : checkV next nds = 29 := by unfold checkV; rw [hr]; rfl
  rw [hcv] at HCk
  clear h hcv hr
  go_enter Tryz.func24, Tryz.ntmps24
  go_wp2_with (go_at_call 12; (with_reducible refine (HCk.out _ HA0.out.bel).mono ?_); go_must (rintro e w1 ⟨rfl, hb1⟩; have ha1 := HA0.out.after hb1; have ar0 := ha1.r.cell 0; have ar1 := ha1.r.cell 1; have ar2 := ha1.r.frozen 0; have ar3 := ha1.r.frozen 1; have am0 := ha1.m.cell 0; have am1 := ha1.m.cell 1; simp at ar0 ar1 am0 am1; have HA1 := Lib.hid ha1; clear ha1 hb1))
  (try rw [Exit.noGoto_ret])
  (try simp only [Exit.inBlock, Exit.then])
  refine bodyPost_ret (v := .tuple #[.agg #[.int .i64 0, .slice none 0 0], .int .i64 0, .int .i64 29]) ?hr rfl ?_
  case hr =>
    simp only [results, hres]
    go_simp
  exact cp_err HE.out (by decide) (HA1.out.bel.setCell (p := ⟨w.heap.size + 1, 0, none⟩) (by simp) _ |>.setCell (p := ⟨w.heap.size + 1, 1, none⟩) (by simp) _)
set_option maxRecDepth 20000 in
set_option maxHeartbeats 3200000 in
theorem copy_e2 (w : World) (hi : Nat) (next id parent at_ : Int) (role : ByteArray) (A : Option Addr) (n c : Nat) (nds : List Nd) (h : NodesIn w 0 hi A n c nds) (hh : hi ≤ w.heap.size) (hs : role.size ≤ maxLen) (hr : rightB next nds = true) (hw : (parent == 0 || wordB role) = false) :
    Calls Tryz.prog 24 #[.agg #[.int .i64 next, .slice A n c], .int .i64 id, .int .i64 parent, .string role, .int .i64 at_] w (CopyPost w next nds id parent role at_) := by
  have hres : Tryz.f24.results = #[.cell 10 26, .tmp 11, .tmp 12] := by kernel_rfl
  have HA0 := Lib.hid (A0.start w next A n c)
  have HCk : Hid (∀ X, Below w.heap.size w X → Calls Tryz.prog 12 #[.agg #[.int .i64 next, .slice A n c]] X (Ret X (.int .i64 (checkV next nds)))) := Lib.hid fun X hX => check_any X hi next A n c nds (h.below (hX.mono hh)) (Nat.le_trans hh hX.size)
  have HE : Hid (copyE next nds id parent role at_ = 2) := Lib.hid (by unfold copyE; rw [if_neg (by rw [hr]; simp), if_pos hw])
  have hcv : checkV next nds = 0 := by unfold checkV; rw [hr]; rfl
  rw [hcv] at HCk
  have HNm : Hid (∀ X, Calls Tryz.prog 44 #[.agg #[.int .i64 parent, .string role, .int .i64 at_]] X (Ret X (.bool false))) := Lib.hid fun X => named_any X parent at_ role hs false hw
  clear h hcv hr hw
  go_enter Tryz.func24, Tryz.ntmps24
  go_upto_region 5 with (go_at_call 12; (with_reducible refine (HCk.out _ HA0.out.bel).mono ?_); go_must (rintro e w1 ⟨rfl, hb1⟩; have ha1 := HA0.out.after hb1; have ar0 := ha1.r.cell 0; have ar1 := ha1.r.cell 1; have ar2 := ha1.r.frozen 0; have ar3 := ha1.r.frozen 1; have am0 := ha1.m.cell 0; have am1 := ha1.m.cell 1; simp at ar0 ar1 am0 am1; have HA1 := Lib.hid ha1; clear ha1 hb1))
  have HB := Lib.hid (HA1.out.spot parent role at_)
  generalize w1.alloc (.cells #[.int .i64 parent, .string role, .int .i64 at_] 78) = X5 at HB ⊢
  generalize w1.heap.size = gs at HB ⊢
  clear ar0 ar1 ar2 ar3 am0 am1
  have b0 := HB.out.r.cell 0
  have b1 := HB.out.r.cell 1
  have b2 := HB.out.r.frozen 0
  have b3 := HB.out.r.frozen 1
  have b4 := HB.out.s.cell 0
  have b5 := HB.out.s.cell 1
  have b6 := HB.out.s.cell 2
  have b7 := HB.out.m.cell 0
  have b8 := HB.out.m.cell 1
  simp at b0 b1 b4 b5 b6 b7 b8
  go_wp2_with (go_at_call 44; (with_reducible refine (HNm.out _).mono ?_); go_must (rintro e w2 ⟨rfl, hb2⟩; have hb2' := HB.out.after hb2; have pr0 := hb2'.r.cell 0; have pr1 := hb2'.r.cell 1; have pr2 := hb2'.r.frozen 0; have pr3 := hb2'.r.frozen 1; have pm0 := hb2'.m.cell 0; have pm1 := hb2'.m.cell 1; simp at pr0 pr1 pm0 pm1; have ps0 := hb2'.s.cell 0; have ps1 := hb2'.s.cell 1; have ps2 := hb2'.s.cell 2; simp at ps0 ps1 ps2; have HB2 := Lib.hid hb2'; clear hb2 hb2'))
  (try rw [Exit.noGoto_ret])
  (try simp only [Exit.inBlock, Exit.then])
  refine bodyPost_ret (v := .tuple #[.agg #[.int .i64 0, .slice none 0 0], .int .i64 0, .int .i64 2]) ?hr rfl ?_
  case hr =>
    simp only [results, hres]
    go_simp
  exact cp_err HE.out (by decide) (HB2.out.bel.setCell (p := ⟨w.heap.size + 1, 0, none⟩) (by simp) _ |>.setCell (p := ⟨w.heap.size + 1, 1, none⟩) (by simp) _)
set_option maxRecDepth 20000 in
set_option maxHeartbeats 3200000 in
theorem copy_e20 (w : World) (hi : Nat) (next id parent at_ : Int) (role : ByteArray) (A : Option Addr) (n c : Nat) (nds : List Nd) (h : NodesIn w 0 hi A n c nds) (hh : hi ≤ w.heap.size) (hs : role.size ≤ maxLen) (hr : rightB next nds = true) (hw : (parent == 0 || wordB role) = true) (hx : ndOf nds id = none) :
    Calls Tryz.prog 24 #[.agg #[.int .i64 next, .slice A n c], .int .i64 id, .int .i64 parent, .string role, .int .i64 at_] w (CopyPost w next nds id parent role at_) := by
  have hres : Tryz.f24.results = #[.cell 10 26, .tmp 11, .tmp 12] := by kernel_rfl
  have HA0 := Lib.hid (A0.start w next A n c)
  have HCk : Hid (∀ X, Below w.heap.size w X → Calls Tryz.prog 12 #[.agg #[.int .i64 next, .slice A n c]] X (Ret X (.int .i64 (checkV next nds)))) := Lib.hid fun X hX => check_any X hi next A n c nds (h.below (hX.mono hh)) (Nat.le_trans hh hX.size)
  have hrm := rightM hr
  have hcv : checkV next nds = 0 := by unfold checkV; rw [hr]; rfl
  rw [hcv] at HCk
  have hn4 : n ≤ 4096 := by rw [← h.1]; exact hrm.len
  have HNm : Hid (∀ X, Calls Tryz.prog 44 #[.agg #[.int .i64 parent, .string role, .int .i64 at_]] X (Ret X (.bool true))) := Lib.hid fun X => named_any X parent at_ role hs true hw
  have HHa : Hid (∀ X, Below w.heap.size w X → Calls Tryz.prog 40 #[.agg #[.int .i64 next, .slice A n c], .int .i64 id] X (Ret X (.bool false))) := Lib.hid fun X hX => by
    have h1 := has_any X hi next id A n c nds (h.below (hX.mono hh)) (Nat.le_trans hh hX.size) hrm.rise hn4
    rw [has_ndOf, hx] at h1
    exact h1
  have HE : Hid (copyE next nds id parent role at_ = 20) := Lib.hid (by unfold copyE; rw [if_neg (by rw [hr]; simp), if_neg (by rw [hw]; simp), if_pos (by rw [hx]; rfl)])
  clear h hcv hr hw hx hrm
  go_enter Tryz.func24, Tryz.ntmps24
  go_upto_region 5 with (go_at_call 12; (with_reducible refine (HCk.out _ HA0.out.bel).mono ?_); go_must (rintro e w1 ⟨rfl, hb1⟩; have ha1 := HA0.out.after hb1; have ar0 := ha1.r.cell 0; have ar1 := ha1.r.cell 1; have ar2 := ha1.r.frozen 0; have ar3 := ha1.r.frozen 1; have am0 := ha1.m.cell 0; have am1 := ha1.m.cell 1; simp at ar0 ar1 am0 am1; have HA1 := Lib.hid ha1; clear ha1 hb1))
  have HB := Lib.hid (HA1.out.spot parent role at_)
  generalize w1.alloc (.cells #[.int .i64 parent, .string role, .int .i64 at_] 78) = X5 at HB ⊢
  generalize w1.heap.size = gs at HB ⊢
  clear ar0 ar1 ar2 ar3 am0 am1
  have b0 := HB.out.r.cell 0
  have b1 := HB.out.r.cell 1
  have b2 := HB.out.r.frozen 0
  have b3 := HB.out.r.frozen 1
  have b4 := HB.out.s.cell 0
  have b5 := HB.out.s.cell 1
  have b6 := HB.out.s.cell 2
  have b7 := HB.out.m.cell 0
  have b8 := HB.out.m.cell 1
  simp at b0 b1 b4 b5 b6 b7 b8
  go_wp2_with (first | (go_at_call 44; (with_reducible refine (HNm.out _).mono ?_); go_must (rintro e w2 ⟨rfl, hb2⟩; have hb2' := HB.out.after hb2; have pr0 := hb2'.r.cell 0; have pr1 := hb2'.r.cell 1; have pr2 := hb2'.r.frozen 0; have pr3 := hb2'.r.frozen 1; have pm0 := hb2'.m.cell 0; have pm1 := hb2'.m.cell 1; simp at pr0 pr1 pm0 pm1; have ps0 := hb2'.s.cell 0; have ps1 := hb2'.s.cell 1; have ps2 := hb2'.s.cell 2; simp at ps0 ps1 ps2; have HB2 := Lib.hid hb2'; clear hb2 hb2')) | (go_at_call 40; (with_reducible refine (HHa.out _ HB2.out.bel).mono ?_); go_must (rintro e w3 ⟨rfl, hb3⟩; have hb3' := HB2.out.after hb3; have qr0 := hb3'.r.cell 0; have qr1 := hb3'.r.cell 1; have qr2 := hb3'.r.frozen 0; have qr3 := hb3'.r.frozen 1; have qm0 := hb3'.m.cell 0; have qm1 := hb3'.m.cell 1; simp at qr0 qr1 qm0 qm1; have qs0 := hb3'.s.cell 0; have qs1 := hb3'.s.cell 1; have qs2 := hb3'.s.cell 2; simp at qs0 qs1 qs2; have HB3 := Lib.hid hb3'; clear hb3 hb3')))
  (try rw [Exit.noGoto_ret])
  (try simp only [Exit.inBlock, Exit.then])
  refine bodyPost_ret (v := .tuple #[.agg #[.int .i64 0, .slice none 0 0], .int .i64 0, .int .i64 20]) ?hr rfl ?_
  case hr =>
    simp only [results, hres]
    go_simp
  exact cp_err HE.out (by decide) (HB3.out.bel.setCell (p := ⟨w.heap.size + 1, 0, none⟩) (by simp) _ |>.setCell (p := ⟨w.heap.size + 1, 1, none⟩) (by simp) _)
set_option maxRecDepth 20000 in
set_option maxHeartbeats 3200000 in
theorem copy_adm (w : World) (hi : Nat) (next id parent at_ : Int) (role : ByteArray) (A : Option Addr) (n c : Nat) (nds : List Nd) (h : NodesIn w 0 hi A n c nds) (hh : hi ≤ w.heap.size) (hs : role.size ≤ maxLen) (hf : ∀ nd ∈ nds, Fits 1 nd) (hr : rightB next nds = true) (hw : (parent == 0 || wordB role) = true) (nd : Nd) (hx : ndOf nds id = some nd) (hz : (admV next nds parent role at_ (hiV nds id) (preI nds id).length).2 ≠ 0) :
    Calls Tryz.prog 24 #[.agg #[.int .i64 next, .slice A n c], .int .i64 id, .int .i64 parent, .string role, .int .i64 at_] w (CopyPost w next nds id parent role at_) := by
  have hres : Tryz.f24.results = #[.cell 10 26, .tmp 11, .tmp 12] := by kernel_rfl
  have HA0 := Lib.hid (A0.start w next A n c)
  have HCk : Hid (∀ X, Below w.heap.size w X → Calls Tryz.prog 12 #[.agg #[.int .i64 next, .slice A n c]] X (Ret X (.int .i64 (checkV next nds)))) := Lib.hid fun X hX => check_any X hi next A n c nds (h.below (hX.mono hh)) (Nat.le_trans hh hX.size)
  have hrm := rightM hr
  have hcv : checkV next nds = 0 := by unfold checkV; rw [hr]; rfl
  rw [hcv] at HCk
  have hn4 : n ≤ 4096 := by rw [← h.1]; exact hrm.len
  have HNm : Hid (∀ X, Calls Tryz.prog 44 #[.agg #[.int .i64 parent, .string role, .int .i64 at_]] X (Ret X (.bool true))) := Lib.hid fun X => named_any X parent at_ role hs true hw
  have HHa : Hid (∀ X, Below w.heap.size w X → Calls Tryz.prog 40 #[.agg #[.int .i64 next, .slice A n c], .int .i64 id] X (Ret X (.bool true))) := Lib.hid fun X hX => by
    have h1 := has_any X hi next id A n c nds (h.below (hX.mono hh)) (Nat.le_trans hh hX.size) hrm.rise hn4
    rw [has_ndOf, hx] at h1
    exact h1
  have hh64 := hi_le hrm hx
  obtain ⟨hv, hhv⟩ : ∃ k, hiV nds id = k := ⟨_, rfl⟩
  rw [hhv] at hh64
  have HLv : Hid (∀ X, Below w.heap.size w X → Calls Tryz.prog 56 #[.agg #[.int .i64 next, .slice A n c], .int .i64 id] X (Ret X (.int .i64 hv))) := Lib.hid fun X hX => by
    rw [← hhv]; exact levels_any X hi next id A n c nds (h.below (hX.mono hh)) (Nat.le_trans hh hX.size) hrm nd hx
  obtain ⟨zs, hzs⟩ : ∃ zs, preI nds id = zs := ⟨_, rfl⟩
  have hz4 : zs.length ≤ 4096 := by rw [← hzs]; exact Nat.le_trans (preI_len hrm hx) hrm.len
  have hz0 : 0 < zs.length := by rw [← hzs]; obtain ⟨r, hr⟩ := preI_cons nds id; rw [hr]; simp
  have HBr : Hid (∀ X, Below w.heap.size w X → Calls Tryz.prog 49 #[.agg #[.int .i64 next, .slice A n c], .int .i64 id] X (ListR X zs)) := Lib.hid fun X hX => by
    rw [← hzs]; exact branch_any X hi next id A n c nds (h.below (hX.mono hh)) (Nat.le_trans hh hX.size) hrm nd hx
  have HOw : Hid (∀ X, Below w.heap.size w X → Calls Tryz.prog 46 #[.agg #[.int .i64 next, .slice A n c]] X fun e w' => ∃ g l, e = .returned (.agg #[.int .i64 next, .slice (some ⟨g, 0, none⟩) n n]) ∧ OwnM w' X.heap.size (.slice (some ⟨g, 0, none⟩) n n) l ∧ l.map (·.1) = nds ∧ Below X.heap.size X w') := Lib.hid fun X hX => own_any X hi next A n c nds (h.below (hX.mono hh)) (Nat.le_trans hh hX.size) hn4 hf
  obtain ⟨rr, hrr⟩ : ∃ rr, admV next nds parent role at_ hv zs.length = rr := ⟨_, rfl⟩
  obtain ⟨ri, re⟩ := rr
  have HAd : Hid (∀ X, Below w.heap.size w X → Calls Tryz.prog 45 #[.agg #[.int .i64 parent, .string role, .int .i64 at_], .agg #[.int .i64 next, .slice A n c], .int .i64 hv, .int .i64 zs.length] X (Ret X (.tuple #[.int .i64 ri, .int .i64 re]))) := Lib.hid fun X hX => by
    have := admits_lax X hi next parent at_ role hv zs.length A n c nds (h.below (hX.mono hh)) (Nat.le_trans hh hX.size) hrm.lax (by omega) (by omega)
    rw [hrr] at this
    exact this
  have hEE : copyE next nds id parent role at_ = re := by unfold copyE; rw [if_neg (by rw [hr]; simp), if_neg (by rw [hw]; simp), if_neg (by rw [hx]; simp), hzs, hhv, hrr]
  have HLN0 : Hid (nds.length = n) := Lib.hid h.1
  have HNZ : Hid (re ≠ 0) := Lib.hid (by rw [hzs, hhv, hrr] at hz; exact hz)
  have hnz : (re != 0) = true := by rw [bne_iff_ne]; exact HNZ.out
  have HE := Lib.hid hEE
  clear h hf hcv hr hw hx hrm hhv hrr hEE hz hh64 hzs
  go_enter Tryz.func24, Tryz.ntmps24
  go_upto_region 5 with (go_at_call 12; (with_reducible refine (HCk.out _ HA0.out.bel).mono ?_); go_must (rintro e w1 ⟨rfl, hb1⟩; have ha1 := HA0.out.after hb1; have ar0 := ha1.r.cell 0; have ar1 := ha1.r.cell 1; have ar2 := ha1.r.frozen 0; have ar3 := ha1.r.frozen 1; have am0 := ha1.m.cell 0; have am1 := ha1.m.cell 1; simp at ar0 ar1 am0 am1; have HA1 := Lib.hid ha1; clear ha1 hb1))
  have HB := Lib.hid (HA1.out.spot parent role at_)
  generalize w1.alloc (.cells #[.int .i64 parent, .string role, .int .i64 at_] 78) = X5 at HB ⊢
  generalize w1.heap.size = gs at HB ⊢
  clear ar0 ar1 ar2 ar3 am0 am1
  have b0 := HB.out.r.cell 0
  have b1 := HB.out.r.cell 1
  have b2 := HB.out.r.frozen 0
  have b3 := HB.out.r.frozen 1
  have b4 := HB.out.s.cell 0
  have b5 := HB.out.s.cell 1
  have b6 := HB.out.s.cell 2
  have b7 := HB.out.m.cell 0
  have b8 := HB.out.m.cell 1
  simp at b0 b1 b4 b5 b6 b7 b8
  go_upto_region 10 with (first | (go_at_call 44; (with_reducible refine (HNm.out _).mono ?_); go_must (rintro e w2 ⟨rfl, hb2⟩; have hb2' := HB.out.after hb2; have pr0 := hb2'.r.cell 0; have pr1 := hb2'.r.cell 1; have pr2 := hb2'.r.frozen 0; have pr3 := hb2'.r.frozen 1; have pm0 := hb2'.m.cell 0; have pm1 := hb2'.m.cell 1; simp at pr0 pr1 pm0 pm1; have ps0 := hb2'.s.cell 0; have ps1 := hb2'.s.cell 1; have ps2 := hb2'.s.cell 2; simp at ps0 ps1 ps2; have HB2 := Lib.hid hb2'; clear hb2 hb2')) | (go_at_call 40; (with_reducible refine (HHa.out _ HB2.out.bel).mono ?_); go_must (rintro e w3 ⟨rfl, hb3⟩; have hb3' := HB2.out.after hb3; have qr0 := hb3'.r.cell 0; have qr1 := hb3'.r.cell 1; have qr2 := hb3'.r.frozen 0; have qr3 := hb3'.r.frozen 1; have qm0 := hb3'.m.cell 0; have qm1 := hb3'.m.cell 1; simp at qr0 qr1 qm0 qm1; have qs0 := hb3'.s.cell 0; have qs1 := hb3'.s.cell 1; have qs2 := hb3'.s.cell 2; simp at qs0 qs1 qs2; have HB3 := Lib.hid hb3'; clear hb3 hb3')) | (go_at_call 49; (with_reducible refine (HBr.out _ HB3.out.bel).mono ?_); go_must (rintro e w4 ⟨vb, rfl, hvb, hb4⟩; obtain ⟨Ab, cb, rfl⟩ := own_form hvb; have HVB := Lib.hid (own_row hvb); have HVL := Lib.hid (own_row hvb).2; have hb4' := HB3.out.after hb4; have tr0 := hb4'.r.cell 0; have tr1 := hb4'.r.cell 1; have tr2 := hb4'.r.frozen 0; have tr3 := hb4'.r.frozen 1; have tm0 := hb4'.m.cell 0; have tm1 := hb4'.m.cell 1; simp at tr0 tr1 tm0 tm1; have ts0 := hb4'.s.cell 0; have ts1 := hb4'.s.cell 1; have ts2 := hb4'.s.cell 2; simp at ts0 ts1 ts2; have HB4 := Lib.hid hb4'; clear hb4 hb4' hvb)))
  have f0 := (HB4.out.s.cell 0).trans (show _ = some (.int .i64 parent) from rfl)
  have f1 := (HB4.out.s.cell 1).trans (show _ = some (.string role) from rfl)
  have f2 := (HB4.out.s.cell 2).trans (show _ = some (.int .i64 at_) from rfl)
  have f3 := (HB4.out.m.cell 0).trans (show _ = some (.int .i64 next) from rfl)
  have f4 := (HB4.out.m.cell 1).trans (show _ = some (.slice A n c) from rfl)
  have q0 := cell_regrown f0
  have q1 := cell_regrown f1
  have q2 := cell_regrown f2
  have q3 := cell_regrown f3
  have q4 := cell_regrown f4
  have HLq := Lib.hid fun (d : Nat) (os : Array Obj) => HLv.out _ (HB4.out.bel.trans ((below_regrown w4 d os).mono HB4.out.bel.size))
  have HAq := Lib.hid fun (d : Nat) (os : Array Obj) => HAd.out _ (HB4.out.bel.trans ((below_regrown w4 d os).mono HB4.out.bel.size))
  clear f0 f1 f2 f3 f4
  refine wp_region_quiet_below (by kernel_rfl) (by kernel_rfl) ?_
  repeat (go_big_quiet_step ((first | (go_at_call 56; exact regrown_ret (HLq.out _ _)) | (go_at_call 45; exact regrown_ret (HAq.out _ _)))))
  refine wpQuiet_nil ?_
  intro _ hw'
  obtain ⟨⟨dq, osq⟩, hw''⟩ := hw'
  subst hw''
  have HX := Lib.hid (And.intro (HB4.out.after (below_regrown _ dq osq)) (below_regrown w4 dq osq))
  generalize grow (redrawn _ dq) osq = wz at HX ⊢
  clear q0 q1 q2 q3 q4
  have c0 := HX.out.1.r.cell 0
  have c1 := HX.out.1.r.cell 1
  have c2 := HX.out.1.r.frozen 0
  have c3 := HX.out.1.r.frozen 1
  have c7 := HX.out.1.m.cell 0
  have c8 := HX.out.1.m.cell 1
  simp at c0 c1 c7 c8
  go_wp2_with fail
  (try rw [Exit.noGoto_ret])
  (try simp only [Exit.inBlock, Exit.then])
  refine bodyPost_ret (v := .tuple #[.agg #[.int .i64 0, .slice none 0 0], .int .i64 0, .int .i64 re]) ?hr rfl ?_
  case hr =>
    simp only [results, hres]
    go_simp
  exact cp_err HE.out (HNZ.out) (HX.out.1.bel.setCell (p := ⟨w.heap.size + 1, 0, none⟩) (by simp) _ |>.setCell (p := ⟨w.heap.size + 1, 1, none⟩) (by simp) _)
section
variable {w X X' : World} {parent at_ next nx : Int} {role : ByteArray} {A : Option Addr} {n c gs go g m cg n1 m1 : Nat} {v v' : Value} {l l2 : List (Nd × Leaf)}
/-- the list has grown, and is not yet stored -/
structure AP (w : World) (parent : Int) (role : ByteArray) (at_ next : Int) (A : Option Addr) (n c gs go : Nat) (nx : Int) (v v' : Value) (l : List (Nd × Leaf)) (X : World) : Prop where
  ab : AB w parent role at_ next A n c gs X
  out : Blk X go 26 #[.int .i64 nx, v]
  own : OwnM X w.heap.size v' l
  le : w.heap.size ≤ go
  n1 : w.heap.size ≠ go
  n2 : w.heap.size + 1 ≠ go
theorem AO.pushed (h : AO w parent role at_ next A n c gs go nx v l X) (hg : X.grownBy X' v.ownBlock) (hn : l.length = n1) (hm : l2.length = m1) (hown : X'.ownsRow w.heap.size 41 7 v' (n1 + m1) (allCells l ++ allCells l2)) (hp : ∀ p ∈ l2, OwnLeaf X w.heap.size p.1 p.2) :
    AP w parent role at_ next A n c gs go nx v v' (l ++ l2) X' :=
  ⟨h.ab.kept h.own.own hg, h.out.grown hg (Ne.symm (own_blk_ne h.own.own h.out (by decide))), h.own.pushAll hg hn hm hown hp, h.le, h.n1, h.n2⟩
end
set_option maxRecDepth 20000 in
set_option maxHeartbeats 3200000 in
theorem copy_yes (w : World) (hi : Nat) (next id parent at_ : Int) (role : ByteArray) (A : Option Addr) (n c : Nat) (nds : List Nd) (h : NodesIn w 0 hi A n c nds) (hh : hi ≤ w.heap.size) (hs : role.size ≤ maxLen) (hf : ∀ nd ∈ nds, Fits 1 nd) (hr : rightB next nds = true) (hw : (parent == 0 || wordB role) = true) (nd : Nd) (hx : ndOf nds id = some nd) (hz : (admV next nds parent role at_ (hiV nds id) (preI nds id).length).2 = 0) :
    Calls Tryz.prog 24 #[.agg #[.int .i64 next, .slice A n c], .int .i64 id, .int .i64 parent, .string role, .int .i64 at_] w (CopyPost w next nds id parent role at_) := by
  have hres : Tryz.f24.results = #[.cell 10 26, .tmp 11, .tmp 12] := by kernel_rfl
  have HA0 := Lib.hid (A0.start w next A n c)
  have HCk : Hid (∀ X, Below w.heap.size w X → Calls Tryz.prog 12 #[.agg #[.int .i64 next, .slice A n c]] X (Ret X (.int .i64 (checkV next nds)))) := Lib.hid fun X hX => check_any X hi next A n c nds (h.below (hX.mono hh)) (Nat.le_trans hh hX.size)
  have hrm := rightM hr
  have hcv : checkV next nds = 0 := by unfold checkV; rw [hr]; rfl
  rw [hcv] at HCk
  have hn4 : n ≤ 4096 := by rw [← h.1]; exact hrm.len
  have HNm : Hid (∀ X, Calls Tryz.prog 44 #[.agg #[.int .i64 parent, .string role, .int .i64 at_]] X (Ret X (.bool true))) := Lib.hid fun X => named_any X parent at_ role hs true hw
  have HHa : Hid (∀ X, Below w.heap.size w X → Calls Tryz.prog 40 #[.agg #[.int .i64 next, .slice A n c], .int .i64 id] X (Ret X (.bool true))) := Lib.hid fun X hX => by
    have h1 := has_any X hi next id A n c nds (h.below (hX.mono hh)) (Nat.le_trans hh hX.size) hrm.rise hn4
    rw [has_ndOf, hx] at h1
    exact h1
  have hh64 := hi_le hrm hx
  obtain ⟨hv, hhv⟩ : ∃ k, hiV nds id = k := ⟨_, rfl⟩
  rw [hhv] at hh64
  have HLv : Hid (∀ X, Below w.heap.size w X → Calls Tryz.prog 56 #[.agg #[.int .i64 next, .slice A n c], .int .i64 id] X (Ret X (.int .i64 hv))) := Lib.hid fun X hX => by
    rw [← hhv]; exact levels_any X hi next id A n c nds (h.below (hX.mono hh)) (Nat.le_trans hh hX.size) hrm nd hx
  obtain ⟨zs, hzs⟩ : ∃ zs, preI nds id = zs := ⟨_, rfl⟩
  have hz4 : zs.length ≤ 4096 := by rw [← hzs]; exact Nat.le_trans (preI_len hrm hx) hrm.len
  have hz0 : 0 < zs.length := by rw [← hzs]; obtain ⟨r, hr⟩ := preI_cons nds id; rw [hr]; simp
  have HBr : Hid (∀ X, Below w.heap.size w X → Calls Tryz.prog 49 #[.agg #[.int .i64 next, .slice A n c], .int .i64 id] X (ListR X zs)) := Lib.hid fun X hX => by
    rw [← hzs]; exact branch_any X hi next id A n c nds (h.below (hX.mono hh)) (Nat.le_trans hh hX.size) hrm nd hx
  have HOw : Hid (∀ X, Below w.heap.size w X → Calls Tryz.prog 46 #[.agg #[.int .i64 next, .slice A n c]] X fun e w' => ∃ g l, e = .returned (.agg #[.int .i64 next, .slice (some ⟨g, 0, none⟩) n n]) ∧ OwnM w' X.heap.size (.slice (some ⟨g, 0, none⟩) n n) l ∧ l.map (·.1) = nds ∧ Below X.heap.size X w') := Lib.hid fun X hX => own_any X hi next A n c nds (h.below (hX.mono hh)) (Nat.le_trans hh hX.size) hn4 hf
  obtain ⟨rr, hrr⟩ : ∃ rr, admV next nds parent role at_ hv zs.length = rr := ⟨_, rfl⟩
  obtain ⟨ri, re⟩ := rr
  have HAd : Hid (∀ X, Below w.heap.size w X → Calls Tryz.prog 45 #[.agg #[.int .i64 parent, .string role, .int .i64 at_], .agg #[.int .i64 next, .slice A n c], .int .i64 hv, .int .i64 zs.length] X (Ret X (.tuple #[.int .i64 ri, .int .i64 re]))) := Lib.hid fun X hX => by
    have := admits_lax X hi next parent at_ role hv zs.length A n c nds (h.below (hX.mono hh)) (Nat.le_trans hh hX.size) hrm.lax (by omega) (by omega)
    rw [hrr] at this
    exact this
  have hEE : copyE next nds id parent role at_ = re := by unfold copyE; rw [if_neg (by rw [hr]; simp), if_neg (by rw [hw]; simp), if_neg (by rw [hx]; simp), hzs, hhv, hrr]
  have HLN0 : Hid (nds.length = n) := Lib.hid h.1
  obtain rfl : re = 0 := by rw [hzs, hhv, hrr] at hz; exact hz
  have HE := Lib.hid hEE
  obtain ⟨i0, hi0, hz0', hz1, hz2⟩ := info_parts nodeInfo
  have hlo := hrm.lo
  have hhn := hrm.hi
  obtain ⟨cs, hcs, _⟩ := cpsV_head (next := next) (p0 := nd.par) (nds := nds) (S := zs) (k := zs.length) hz0
  obtain ⟨c0, hc0⟩ : ∃ c0, cpNd next zs nd.par 0 (ndD nds (zs.getD 0 0)) = c0 := ⟨_, rfl⟩
  rw [hc0] at hcs
  have hlt := (adm_lax hrm.lax hrr).2.2
  have HBh : Behind next nds (c0 :: cs) := ⟨hrm.rise, hlo, hrm.lt, fun i x hi' => cpsV_id (p0 := nd.par) (nds := nds) (S := zs) (k := zs.length) (by rw [hcs]; exact hi'), by rw [← hcs, cpsV_len]; exact hlt.1⟩
  have HCL : Hid (copyL next nds id parent role at_ = inKid nds parent ri.toNat next ++ { c0 with par := parent, role := role } :: cs) := Lib.hid (copyL_of (p0 := nd.par) (by rw [hzs]; exact hcs) (by rw [hzs, hhv, hrr]))
  have HCLn : Hid ((copyL next nds id parent role at_).length = n + zs.length) := Lib.hid (by
    have h1 := cpsV_len next nds zs nd.par zs.length
    rw [hcs, List.length_cons] at h1
    rw [HCL.out, List.length_append, inKid_len, List.length_cons, HLN0.out, h1])
  have HPu : Hid (∀ X g c l, OwnM X w.heap.size (.slice (some ⟨g, 0, none⟩) (n + zs.length) c) l → l.length = n + zs.length → l.map (·.1) = nds ++ cpsV next nds zs nd.par zs.length → Calls Tryz.prog 47 #[.agg #[.int .i64 (next + zs.length), .slice (some ⟨g, 0, none⟩) (n + zs.length) c], .int .i64 next, .agg #[.int .i64 parent, .string role, .int .i64 at_], .int .i64 ri] X (PutPost X w.heap.size g (n + zs.length) c (copyL next nds id parent role at_))) := Lib.hid fun X g c l h1 h2 h3 => by
    rw [HCL.out]
    exact put_cp X w.heap.size next parent at_ ri role hv zs.length g (n + zs.length) c l nds cs c0 h1 h2 (by rw [h3, hcs]) hrm.lax HBh hs hrr (next + zs.length)
  have HZL : Hid ((preI nds id).length = zs.length) := Lib.hid (by rw [hzs])
  have HCq : Hid (∀ X, Below w.heap.size w X → ∀ lo' hi' Ap cp, Row X lo' hi' 1 Ap zs.length cp (intCells zs) → hi' ≤ X.heap.size → Calls Tryz.prog 57 #[.agg #[.int .i64 next, .slice A n c], .slice Ap zs.length cp] X fun e w' => ∃ g l, e = .returned (.slice (some ⟨g, 0, none⟩) zs.length zs.length) ∧ OwnM w' X.heap.size (.slice (some ⟨g, 0, none⟩) zs.length zs.length) l ∧ l.map (·.1) = cpsV next nds zs nd.par zs.length ∧ Below X.heap.size X w') := Lib.hid fun X hX lo' hi' Ap cp h1 h2 => copies_any X hi next id A n c nds (h.below (hX.mono hh)) (Nat.le_trans hh hX.size) hrm hf nd hx lo' hi' Ap cp zs hzs h1 h2
  clear h hf hcv hr hw hx hrm hhv hrr hEE hz hh64 hzs hcs hc0 hlt HBh HCL
  go_enter Tryz.func24, Tryz.ntmps24
  go_upto_region 5 with (go_at_call 12; (with_reducible refine (HCk.out _ HA0.out.bel).mono ?_); go_must (rintro e w1 ⟨rfl, hb1⟩; have ha1 := HA0.out.after hb1; have ar0 := ha1.r.cell 0; have ar1 := ha1.r.cell 1; have ar2 := ha1.r.frozen 0; have ar3 := ha1.r.frozen 1; have am0 := ha1.m.cell 0; have am1 := ha1.m.cell 1; simp at ar0 ar1 am0 am1; have HA1 := Lib.hid ha1; clear ha1 hb1))
  have HB := Lib.hid (HA1.out.spot parent role at_)
  generalize w1.alloc (.cells #[.int .i64 parent, .string role, .int .i64 at_] 78) = X5 at HB ⊢
  generalize w1.heap.size = gs at HB ⊢
  clear ar0 ar1 ar2 ar3 am0 am1
  have b0 := HB.out.r.cell 0
  have b1 := HB.out.r.cell 1
  have b2 := HB.out.r.frozen 0
  have b3 := HB.out.r.frozen 1
  have b4 := HB.out.s.cell 0
  have b5 := HB.out.s.cell 1
  have b6 := HB.out.s.cell 2
  have b7 := HB.out.m.cell 0
  have b8 := HB.out.m.cell 1
  simp at b0 b1 b4 b5 b6 b7 b8
  go_upto_region 10 with (first | (go_at_call 44; (with_reducible refine (HNm.out _).mono ?_); go_must (rintro e w2 ⟨rfl, hb2⟩; have hb2' := HB.out.after hb2; have pr0 := hb2'.r.cell 0; have pr1 := hb2'.r.cell 1; have pr2 := hb2'.r.frozen 0; have pr3 := hb2'.r.frozen 1; have pm0 := hb2'.m.cell 0; have pm1 := hb2'.m.cell 1; simp at pr0 pr1 pm0 pm1; have ps0 := hb2'.s.cell 0; have ps1 := hb2'.s.cell 1; have ps2 := hb2'.s.cell 2; simp at ps0 ps1 ps2; have HB2 := Lib.hid hb2'; clear hb2 hb2')) | (go_at_call 40; (with_reducible refine (HHa.out _ HB2.out.bel).mono ?_); go_must (rintro e w3 ⟨rfl, hb3⟩; have hb3' := HB2.out.after hb3; have qr0 := hb3'.r.cell 0; have qr1 := hb3'.r.cell 1; have qr2 := hb3'.r.frozen 0; have qr3 := hb3'.r.frozen 1; have qm0 := hb3'.m.cell 0; have qm1 := hb3'.m.cell 1; simp at qr0 qr1 qm0 qm1; have qs0 := hb3'.s.cell 0; have qs1 := hb3'.s.cell 1; have qs2 := hb3'.s.cell 2; simp at qs0 qs1 qs2; have HB3 := Lib.hid hb3'; clear hb3 hb3')) | (go_at_call 49; (with_reducible refine (HBr.out _ HB3.out.bel).mono ?_); go_must (rintro e w4 ⟨vb, rfl, hvb, hb4⟩; obtain ⟨Ab, cb, rfl⟩ := own_form hvb; have HVB := Lib.hid (own_row hvb); have HVL := Lib.hid (own_row hvb).2; have hb4' := HB3.out.after hb4; have tr0 := hb4'.r.cell 0; have tr1 := hb4'.r.cell 1; have tr2 := hb4'.r.frozen 0; have tr3 := hb4'.r.frozen 1; have tm0 := hb4'.m.cell 0; have tm1 := hb4'.m.cell 1; simp at tr0 tr1 tm0 tm1; have ts0 := hb4'.s.cell 0; have ts1 := hb4'.s.cell 1; have ts2 := hb4'.s.cell 2; simp at ts0 ts1 ts2; have HB4 := Lib.hid hb4'; clear hb4 hb4' hvb)))
  have f0 := (HB4.out.s.cell 0).trans (show _ = some (.int .i64 parent) from rfl)
  have f1 := (HB4.out.s.cell 1).trans (show _ = some (.string role) from rfl)
  have f2 := (HB4.out.s.cell 2).trans (show _ = some (.int .i64 at_) from rfl)
  have f3 := (HB4.out.m.cell 0).trans (show _ = some (.int .i64 next) from rfl)
  have f4 := (HB4.out.m.cell 1).trans (show _ = some (.slice A n c) from rfl)
  have q0 := cell_regrown f0
  have q1 := cell_regrown f1
  have q2 := cell_regrown f2
  have q3 := cell_regrown f3
  have q4 := cell_regrown f4
  have HLq := Lib.hid fun (d : Nat) (os : Array Obj) => HLv.out _ (HB4.out.bel.trans ((below_regrown w4 d os).mono HB4.out.bel.size))
  have HAq := Lib.hid fun (d : Nat) (os : Array Obj) => HAd.out _ (HB4.out.bel.trans ((below_regrown w4 d os).mono HB4.out.bel.size))
  clear f0 f1 f2 f3 f4
  refine wp_region_quiet_below (by kernel_rfl) (by kernel_rfl) ?_
  repeat (go_big_quiet_step ((first | (go_at_call 56; exact regrown_ret (HLq.out _ _)) | (go_at_call 45; exact regrown_ret (HAq.out _ _)))))
  refine wpQuiet_nil ?_
  intro _ hw'
  obtain ⟨⟨dq, osq⟩, hw''⟩ := hw'
  subst hw''
  have HX := Lib.hid (And.intro (HB4.out.after (below_regrown _ dq osq)) (below_regrown w4 dq osq))
  generalize grow (redrawn _ dq) osq = wz at HX ⊢
  clear q0 q1 q2 q3 q4
  have c0 := HX.out.1.r.cell 0
  have c1 := HX.out.1.r.cell 1
  have c2 := HX.out.1.r.frozen 0
  have c3 := HX.out.1.r.frozen 1
  have c7 := HX.out.1.m.cell 0
  have c8 := HX.out.1.m.cell 1
  simp at c0 c1 c7 c8
  go_upto_region 14 with (go_at_call 46; (with_reducible refine (HOw.out _ HX.out.1.bel).mono ?_); go_must (rintro e w6 ⟨g, l, rfl, ho6, hl6, hb6⟩; have HX6 := Lib.hid (And.intro (HX.out.1.after hb6) (HX.out.2.trans (hb6.mono HX.out.2.size))); have HO6 := Lib.hid (ho6.mono HX.out.1.bel.size); have HL6 := Lib.hid hl6; clear hb6 ho6 hl6))
  have HLN : Hid (l.length = n) := Lib.hid (by have := congrArg List.length HL6.out; rw [List.length_map, HLN0.out] at this; exact this)
  have hsz6 := HX6.out.1.bel.size
  have hsr := HX6.out.1.r.lt
  have HX7' : Hid (AO w parent role at_ next A n c gs w6.heap.size next (.slice (some ⟨g, 0, none⟩) n n) l (w6.alloc (.cells #[.int .i64 next, .slice (some ⟨g, 0, none⟩) n n] 26)) ∧ Below w4.heap.size w4 (w6.alloc (.cells #[.int .i64 next, .slice (some ⟨g, 0, none⟩) n n] 26))) := Lib.hid ⟨⟨HX6.out.1.after (below_more (Below.refl _ _) _), Blk.new _ _ _, HO6.out.after (below_more (Below.refl _ _) _), hsz6, by omega, by omega⟩, below_more HX6.out.2 _⟩
  generalize w6.alloc (.cells #[.int .i64 next, .slice (some ⟨g, 0, none⟩) n n] 26) = X6 at HX7' ⊢
  generalize w6.heap.size = go at HX7' ⊢
  clear hsz6 hsr c0 c1 c2 c3 c7 c8 HX HX6 HO6
  have HCp : Hid (∀ X, Below w4.heap.size w4 X → Calls Tryz.prog 57 #[.agg #[.int .i64 next, .slice A n c], .slice Ab zs.length cb] X fun e w' => ∃ g l, e = .returned (.slice (some ⟨g, 0, none⟩) zs.length zs.length) ∧ OwnM w' X.heap.size (.slice (some ⟨g, 0, none⟩) zs.length zs.length) l ∧ l.map (·.1) = cpsV next nds zs nd.par zs.length ∧ Below X.heap.size X w') := Lib.hid fun X hX => HCq.out X (HB4.out.bel.trans (hX.mono HB4.out.bel.size)) _ _ _ _ (HVB.out.below hX) hX.size
  have HSof : Hid (∀ X v, AB w parent role at_ next A n c gs X → Blk X go 26 #[.int .i64 next, v] → v = .slice (some ⟨g, 0, none⟩) n n → X.cell? ⟨go, 1, none⟩ = some (.slice (some ⟨g, 0, none⟩) n n) ∧ X.cell? ⟨w.heap.size, 0, none⟩ = some (.int .i64 next) ∧ X.cell? ⟨w.heap.size, 1, none⟩ = some (.slice A n c)) := Lib.hid fun X v h1 h2 h3 => by
    subst h3
    exact ⟨(h2.cell 1).trans rfl, (h1.m.cell 0).trans rfl, (h1.m.cell 1).trans rfl⟩
  have HX := Lib.hid (And.intro (HX7'.out.1.after (below_drew1 _)) (HX7'.out.2.trans ((below_drew1 _).mono HX7'.out.2.size)))
  refine wp_region_held_tail 6 (fun w' => w'.cell? ⟨go, 1, none⟩ = some (.slice (some ⟨g, 0, none⟩) n n) ∧ w'.cell? ⟨w.heap.size, 0, none⟩ = some (.int .i64 next) ∧ w'.cell? ⟨w.heap.size, 1, none⟩ = some (.slice A n c)) (by kernel_rfl) (by kernel_rfl) ?hSt (fun hHeld => ?qt0)
  case hSt => exact HSof.out _ _ HX.out.1.ab HX.out.1.out rfl
  case qt0 =>
    generalize X6.drew = wz at HX hHeld ⊢
    simp only [List.take_succ_cons, List.take_zero, List.drop_succ_cons, List.drop_zero]
    refine wpAnyH_take (i := 0) (v := (.pointer (some ⟨go, 1, none⟩))) rfl (by kernel_rfl) (by kernel_rfl) (by kernel_rfl) (fun _ _ _ h => h) (Or.inl ⟨by rfl, ?yt_1⟩) (by assumption) ?qt_1
    case yt_1 => (intro w hSw; (try dsimp only at hSw); go_simp)
    case qt_1 =>
      (try simp only [Act.put]); (try simp only [List.setIfInBounds_toArray])
      refine wpAnyH_take (i := 1) (v := (.slice (some ⟨g, 0, none⟩) n n)) rfl (by kernel_rfl) (by kernel_rfl) (by kernel_rfl) (fun _ _ _ h => h) (Or.inl ⟨by rfl, ?yt_2⟩) (by assumption) ?qt_2
      case yt_2 => (intro w hSw; (try dsimp only at hSw); go_simp)
      case qt_2 =>
        (try simp only [Act.put]); (try simp only [List.setIfInBounds_toArray])
        refine wpAnyH_take (i := 2) (v := (.agg #[.int .i64 next, .slice A n c])) rfl (by kernel_rfl) (by kernel_rfl) (by kernel_rfl) (fun _ _ _ h => h) (Or.inl ⟨by rfl, ?yt_3⟩) (by assumption) ?qt_3
        case yt_3 => (intro w hSw; (try dsimp only at hSw); go_simp)
        case qt_3 =>
          (try simp only [Act.put]); (try simp only [List.setIfInBounds_toArray])
          refine wpAnyH_take (i := 3) (v := (.slice Ab zs.length cb)) rfl (by kernel_rfl) (by kernel_rfl) (by kernel_rfl) (fun _ _ _ h => h) (Or.inl ⟨by rfl, ?yt_4⟩) (by assumption) ?qt_4
          case yt_4 => (intro w hSw; (try dsimp only at hSw); go_simp)
          case qt_4 =>
            (try simp only [Act.put]); (try simp only [List.setIfInBounds_toArray])
            refine wpAnyH_ready (rs := [4]) (by kernel_rfl) (by simp) ?_
            refine AllReadyH.cons rfl (fun K hK => ?st_5) ?mt_5
            case st_5 =>
              (refine step_call _ (by rfl) 57 #[.agg #[.int .i64 next, .slice A n c], .slice Ab zs.length cb] (by go_simp) (HCp.out _ HX.out.2) ?_; rintro e Yb ⟨g2, l2, rfl, ho2, hm2, hb2⟩; refine ⟨_, rfl, ?_⟩; have HO2 := Lib.hid (ho2.mono HX.out.1.ab.bel.size); have HM2 := Lib.hid hm2; replace HX := Lib.hid (And.intro (HX.out.1.after hb2) (HX.out.2.trans (hb2.mono HX.out.2.size))); have HL2 : Hid (l2.length = zs.length) := Lib.hid (by have := congrArg List.length HM2.out; rw [List.length_map, cpsV_len] at this; exact this); have hr2 : Yb.ownsRow w.heap.size 41 7 (.slice (some ⟨g2, 0, none⟩) zs.length zs.length) zs.length (allCells l2) := (by have := HO2.out.own; unfold OwnN at this; rw [HL2.out] at this; exact this); have HR2 := Lib.hid (own_row hr2); clear ho2 hm2 hb2 hr2)
              refine hK.out _ _ ?kt_5 (fun hHeld => ?qt_5)
              case kt_5 => ((try dsimp only); first | exact HSof.out _ _ HX7.out.ab HX7.out.out rfl | exact HSof.out _ _ HX.out.1.ab HX.out.1.out rfl)
              case qt_5 =>
                clear hK K
                (try simp only [Act.put]); (try simp only [List.setIfInBounds_toArray])
                refine wpAnyH_ready (rs := [5]) (by kernel_rfl) (by simp) ?_
                refine AllReadyH.cons rfl (fun K hK => ?st_6) ?mt_6
                case st_6 =>
                  (have hr1 : Yb.ownsRow w.heap.size 41 7 (.slice (some ⟨g, 0, none⟩) n n) n (allCells l) := (by have := HX.out.1.own.own; unfold OwnN at this; rw [HLN.out] at this; exact this); refine step_app _ (by rfl) (.tmp 59) (.tmp 62) _ (by rfl) w.heap.size 41 i0 _ 7 120 Tryz.underlying24 hi0 hz0' hz1 hz2 rfl (by omega) (.slice (some ⟨g, 0, none⟩) n n) n (allCells l) (by go_simp) hr1 _ _ (some ⟨g2, 0, none⟩) zs.length zs.length (allCells l2) (by go_simp) HR2.out (allCells_one _) (by unfold maxLen; omega) (by omega) HX.out.1.ab.bel.size ?_; intro v7 w7 hown7 hg7 _; obtain ⟨A7, c7, rfl⟩ := own_form hown7; have HX7 := Lib.hid (HX.out.1.pushed hg7 HLN.out HL2.out hown7 HO2.out.leaf); clear hr1 hown7 hg7)
                  refine hK.out _ _ ?kt_6 (fun hHeld => ?qt_6)
                  case kt_6 => ((try dsimp only); first | exact HSof.out _ _ HX7.out.ab HX7.out.out rfl | exact HSof.out _ _ HX.out.1.ab HX.out.1.out rfl)
                  case qt_6 =>
                    clear hK K
                    (try simp only [Act.put]); (try simp only [List.setIfInBounds_toArray])
                    refine wpAnyH_done (by kernel_rfl) ?_ _
                    show wpList _ _ _ _ _ _
                    clear hHeld
                    have hl7 : (l ++ l2).length = n + zs.length := by rw [List.length_append, HLN.out, HL2.out]
                    have HL7 := Lib.hid hl7
                    obtain ⟨G7, hG7⟩ := own_some' HX7.out.own HL7.out (by omega)
                    subst hG7
                    have o0 := HX7.out.out.cell 0
                    have o1 := HX7.out.out.cell 1
                    have o2 := HX7.out.out.frozen 1
                    have o3 := HX7.out.out.frozen 0
                    simp at o0 o1
                    have HX8 := Lib.hid (ao_set HX7.out.ab HX7.out.out HX7.out.le HX7.out.n1 HX7.out.n2 1 (.slice (some ⟨G7, 0, none⟩) (n + zs.length) c7) (nx' := next) (v' := .slice (some ⟨G7, 0, none⟩) (n + zs.length) c7) (by simp) HX7.out.own)
                    clear hl7
                    go_upto_region 15 with (fail)
                    clear o0 o1 o2 o3
                    generalize w7.setCell ⟨go, 1, none⟩ (.slice (some ⟨G7, 0, none⟩) (n + zs.length) c7) = X8 at HX8 ⊢
                    have o0 := HX8.out.out.cell 0
                    have o1 := HX8.out.out.cell 1
                    have o3 := HX8.out.out.frozen 0
                    simp at o0 o1
                    go_upto_region 16 with (fail)
                    have HX9 := Lib.hid (ao_set HX8.out.ab HX8.out.out HX8.out.le HX8.out.n1 HX8.out.n2 0 (.int .i64 (next + zs.length)) (nx' := next + zs.length) (v' := .slice (some ⟨G7, 0, none⟩) (n + zs.length) c7) (by simp) HX8.out.own)
                    generalize X8.setCell ⟨go, 0, none⟩ (.int .i64 (next + zs.length)) = X9 at HX9 ⊢
                    clear o0 o1 o3
                    have o0 := HX9.out.out.cell 0
                    have o1 := HX9.out.out.cell 1
                    have o4 := HX9.out.ab.s.cell 0
                    have o5 := HX9.out.ab.s.cell 1
                    have o6 := HX9.out.ab.s.cell 2
                    have o7 := HX9.out.ab.m.cell 0
                    simp at o0 o1 o4 o5 o6 o7
                    have HPt := Lib.hid (HPu.out X9 G7 c7 (l ++ l2) HX9.out.own HL7.out (by rw [List.map_append, HL6.out, HM2.out]))
                    go_upto_region 17 with (go_at_call 47; (with_reducible refine HPt.out.mono ?_); go_must (rintro e w10 ⟨rfl, l', ho10, hg10, hm10⟩; have HX10 := Lib.hid (HX9.out.turned ho10 hg10); have HM10 := Lib.hid hm10; clear ho10 hg10 hm10))
                    clear o0 o1 o4 o5 o6 o7
                    have HXd := Lib.hid (HX10.out.after (below_drew1 _))
                    refine wp_region_held_tail 4 (fun X => X.cell? ⟨go, 0, none⟩ = some (.int .i64 (next + zs.length)) ∧ X.cell? ⟨go, 1, none⟩ = some (.slice (some ⟨G7, 0, none⟩) (n + zs.length) c7) ∧ X.cell? ⟨w.heap.size, 0, none⟩ = some (.int .i64 next)) (by kernel_rfl) (by kernel_rfl) ?hSz (fun hHeld => ?qz0)
                    case hSz => exact ⟨(HXd.out.out.cell 0).trans rfl, (HXd.out.out.cell 1).trans rfl, (HXd.out.ab.m.cell 0).trans rfl⟩
                    case qz0 =>
                      generalize w10.drew = wy at HXd hHeld ⊢
                      have t0 := HXd.out.ab.r.cell 0
                      have t1 := HXd.out.ab.r.cell 1
                      have t2 := HXd.out.ab.r.frozen 0
                      have t3 := HXd.out.ab.r.frozen 1
                      have t4 := HXd.out.ab.m.cell 0
                      have t5 := HXd.out.out.cell 0
                      have t6 := HXd.out.out.cell 1
                      simp at t0 t1 t4 t5 t6
                      simp only [List.take_succ_cons, List.take_zero, List.drop_succ_cons, List.drop_zero]
                      refine wpAnyH_take (i := 0) (v := (.agg #[.int .i64 (next + zs.length), .slice (some ⟨G7, 0, none⟩) (n + zs.length) c7])) rfl (by kernel_rfl) (by kernel_rfl) (by kernel_rfl) (fun _ _ _ h => h) (Or.inl ⟨by rfl, ?yz_1⟩) (by assumption) ?qz_1
                      case yz_1 => (intro w hSw; (try dsimp only at hSw); go_simp)
                      case qz_1 =>
                        (try simp only [Act.put]); (try simp only [List.setIfInBounds_toArray])
                        refine wpAnyH_take (i := 1) (v := (.pointer (some ⟨w.heap.size, 0, none⟩))) rfl (by kernel_rfl) (by kernel_rfl) (by kernel_rfl) (fun _ _ _ h => h) (Or.inl ⟨by rfl, ?yz_2⟩) (by assumption) ?qz_2
                        case yz_2 => (intro w hSw; (try dsimp only at hSw); go_simp)
                        case qz_2 =>
                          (try simp only [Act.put]); (try simp only [List.setIfInBounds_toArray])
                          refine wpAnyH_take (i := 2) (v := (.int .i64 next)) rfl (by kernel_rfl) (by kernel_rfl) (by kernel_rfl) (fun _ _ _ h => h) (Or.inl ⟨by rfl, ?yz_3⟩) (by assumption) ?qz_3
                          case yz_3 => (intro w hSw; (try dsimp only at hSw); go_simp)
                          case qz_3 =>
                            (try simp only [Act.put]); (try simp only [List.setIfInBounds_toArray])
                            refine wpAnyH_ready (rs := [3]) (by kernel_rfl) (by simp) ?_
                            refine AllReadyH.cons rfl (fun K hK => ?sz_4) ?mz_4
                            case sz_4 =>
                              (go_simp; have HSz : Hid (Blk ((wy.setCell ⟨w.heap.size + 1, 0, none⟩ (.int .i64 (next + zs.length))).setCell ⟨w.heap.size + 1, 1, none⟩ (.slice (some ⟨G7, 0, none⟩) (n + zs.length) c7)) go 26 #[.int .i64 (next + zs.length), .slice (some ⟨G7, 0, none⟩) (n + zs.length) c7] ∧ Blk ((wy.setCell ⟨w.heap.size + 1, 0, none⟩ (.int .i64 (next + zs.length))).setCell ⟨w.heap.size + 1, 1, none⟩ (.slice (some ⟨G7, 0, none⟩) (n + zs.length) c7)) w.heap.size 26 #[.int .i64 next, .slice A n c]) := Lib.hid ⟨(HXd.out.out.far (p := ⟨w.heap.size + 1, 0, none⟩) (Ne.symm HXd.out.n2) _).far (p := ⟨w.heap.size + 1, 1, none⟩) (Ne.symm HXd.out.n2) _, (HXd.out.ab.m.far (p := ⟨w.heap.size + 1, 0, none⟩) (by simp) _).far (p := ⟨w.heap.size + 1, 1, none⟩) (by simp) _⟩)
                              refine hK.out _ _ ?kz_4 (fun hHeld => ?qz_4)
                              case kz_4 => ((try dsimp only); exact ⟨(HSz.out.1.cell 0).trans rfl, (HSz.out.1.cell 1).trans rfl, (HSz.out.2.cell 0).trans rfl⟩)
                              case qz_4 =>
                                clear hK K
                                (try simp only [Act.put]); (try simp only [List.setIfInBounds_toArray])
                                refine wpAnyH_done (by kernel_rfl) ?_ _
                                show wpList _ _ _ _ _ _
                                go_wp2_with fail
                                (try rw [Exit.noGoto_ret])
                                (try simp only [Exit.inBlock, Exit.then])
                                refine bodyPost_ret (v := .tuple #[.agg #[.int .i64 (next + zs.length), .slice (some ⟨G7, 0, none⟩) (n + zs.length) c7], .int .i64 next, .int .i64 0]) ?hr rfl ?_
                                case hr =>
                                  simp only [results, hres]
                                  go_simp
                                have hl10 : l'.length = n + zs.length := by have := congrArg List.length HM10.out; rw [List.length_map, HCLn.out] at this; exact this
                                exact ⟨next + zs.length, next, some ⟨G7, 0, none⟩, n + zs.length, c7, by rw [HE.out], (HXd.out.ab.bel.setCell (p := ⟨w.heap.size + 1, 0, none⟩) (by simp) _).setCell (p := ⟨w.heap.size + 1, 1, none⟩) (by simp) _, fun h => absurd HE.out h, fun _ => ⟨by rw [HZL.out], rfl, l', (HXd.out.own.other HXd.out.ab.r 0 _).other (HXd.out.ab.r.set_ 0 _) 1 _, hl10, HM10.out⟩⟩
                            case mz_4 =>
                              exact AllReadyH.nil
                case mt_6 =>
                  exact AllReadyH.nil
            case mt_5 =>
              exact AllReadyH.nil
/-- Copy of the program -/
theorem copy_any (w : World) (hi : Nat) (next id parent at_ : Int) (role : ByteArray) (A : Option Addr) (n c : Nat) (nds : List Nd) (h : NodesIn w 0 hi A n c nds) (hh : hi ≤ w.heap.size) (hs : role.size ≤ maxLen) (hf : ∀ nd ∈ nds, Fits 1 nd) :
    Calls Tryz.prog 24 #[.agg #[.int .i64 next, .slice A n c], .int .i64 id, .int .i64 parent, .string role, .int .i64 at_] w (CopyPost w next nds id parent role at_) := by
  cases hr : rightB next nds with
  | false => exact copy_e29 w hi next id parent at_ role A n c nds h hh hs hr
  | true =>
    cases hw : (parent == 0 || wordB role) with
    | false => exact copy_e2 w hi next id parent at_ role A n c nds h hh hs hr hw
    | true =>
      cases hx : ndOf nds id with
      | none => exact copy_e20 w hi next id parent at_ role A n c nds h hh hs hr hw hx
      | some nd =>
        by_cases hz : (admV next nds parent role at_ (hiV nds id) (preI nds id).length).2 = 0
        · exact copy_yes w hi next id parent at_ role A n c nds h hh hs hf hr hw nd hx hz
        · exact copy_adm w hi next id parent at_ role A n c nds h hh hs hf hr hw nd hx hz
end Go.Proofs.YtbkmdlfenbfdlaaGreat
namespace Go.Proofs.YtbkmdlfenbfdlaaGreat
open Go Go.RowKit Go.Sort
set_option linter.unusedVariables false
attribute [local go_sem ↓] Go.wp_at_zero Go.wp_at_succ
/-- the boxes, and the marks -/
structure GB (w : World) (next : Int) (A : Option Addr) (n c gb : Nat) (nds : List Nd) (S : List Int) (X : World) : Prop where
  a : A0 w next A n c X
  g : BBlk X gb (goneB nds S)
  le : w.heap.size ≤ gb
section
variable {w X X' : World} {next : Int} {A : Option Addr} {n c gb : Nat} {nds : List Nd} {S : List Int}
theorem GB.after (h : GB w next A n c gb nds S X) (hb : Below X.heap.size X X') : GB w next A n c gb nds S X' := ⟨h.a.after hb, Blk.after h.g hb, h.le⟩
theorem GB.set (h : GB w next A n c gb nds S X) (hr : Rise nds) {j : Nat} {nd : Nd} (hj : nds[j]? = some nd) : GB w next A n c gb nds (S ++ [nd.id]) (X.setCell ⟨gb, j, none⟩ (.bool true)) :=
  ⟨⟨h.a.m.far (p := ⟨gb, j, none⟩) (h.a.m.ne_ h.g (by decide)) _, h.a.r.far (p := ⟨gb, j, none⟩) (h.a.r.ne_ h.g (by decide)) _, h.a.bel.setCell (p := ⟨gb, j, none⟩) h.le _⟩, by rw [← goneB_set hr hj]; exact h.g.set_ j true, h.le⟩
end
/-- the list of the nodes that are left, behind all that was there in X5 -/
structure GL (X5 : World) (next : Int) (ov : Value) (lo : List (Nd × Leaf)) (X : World) : Prop where
  b : Below X5.heap.size X5 X
  o : Blk X X5.heap.size 26 #[.int .i64 next, ov]
  own : X.ownsRow (X5.heap.size + 1) 41 7 ov lo.length (allCells lo)
section
variable {X5 X X' : World} {next : Int} {ov v' : Value} {lo : List (Nd × Leaf)} {p : Nd × Leaf}
theorem GL.start (X5 : World) (next : Int) : GL X5 next (.slice none 0 0) [] (X5.alloc (.cells #[.int .i64 next, .slice none 0 0] 26)) := ⟨below_more (Below.refl _ _) _, Blk.new _ _ _, ⟨by simp [allCells], .inl ⟨rfl, rfl⟩⟩⟩
theorem GL.after (h : GL X5 next ov lo X) (hb : Below X.heap.size X X') : GL X5 next ov lo X' := ⟨h.b.trans (hb.mono h.b.size), h.o.after hb, own_after h.own hb⟩
theorem GL.kept (h : GL X5 next ov lo X) (hg : X.grownBy X' ov.ownBlock) : Below X5.heap.size X5 X' ∧ Blk X' X5.heap.size 26 #[.int .i64 next, ov] :=
  ⟨below_grows h.b hg h.own (Nat.le_succ _), h.o.grown hg (Ne.symm (own_blk_ne h.own h.o (by decide)))⟩
theorem GL.push (h : GL X5 next ov lo X) (hg : X.grownBy X' ov.ownBlock) (hown : X'.ownsRow (X5.heap.size + 1) 41 7 v' (lo.length + 1) (allCells lo ++ ndCells p)) : GL X5 next v' (lo ++ [p]) (X'.setCell ⟨X5.heap.size, 1, none⟩ v') := by
  obtain ⟨h1, h2⟩ := h.kept hg
  refine ⟨h1.setCell (p := ⟨X5.heap.size, 1, none⟩) (Nat.le_refl _) _, by simpa using h2.set_ 1 v', ?_⟩
  rw [List.length_append, List.length_singleton, show allCells (lo ++ [p]) = allCells lo ++ ndCells p from by simp [allCells]]
  exact own_other hown h2 (by decide) 1 v'
end
def leftP (S : List Int) (l : List (Nd × Leaf)) : List (Nd × Leaf) := l.filter fun q => !S.contains q.1.id
theorem leftP_succ (S : List Int) (l : List (Nd × Leaf)) {k : Nat} {q : Nd × Leaf} (h : l[k]? = some q) : leftP S (l.take (k + 1)) = leftP S (l.take k) ++ if S.contains q.1.id = true then [] else [q] := by
  unfold leftP
  rw [List.take_add_one, h, List.filter_append]
  congr 1
  cases hx : S.contains q.1.id with
  | true => rw [if_pos rfl]; exact List.filter_cons_of_neg (by rw [hx]; decide)
  | false => rw [if_neg (by decide)]; exact List.filter_cons_of_pos (by rw [hx]; rfl)
theorem leftP_map (S : List Int) (l : List (Nd × Leaf)) : (leftP S l).map (·.1) = leftV S (l.map (·.1)) := by
  unfold leftP leftV
  rw [List.filter_map]; rfl
end Go.Proofs.YtbkmdlfenbfdlaaGreat
namespace Go.Proofs.YtbkmdlfenbfdlaaGreat
open Go Go.RowKit Go.Sort
set_option linter.unusedVariables false
attribute [local go_sem ↓] Go.wp_at_zero Go.wp_at_succ
section
variable {w X X' : World} {next : Int} {A : Option Addr} {n c gb g m co : Nat} {nds : List Nd} {S : List Int} {l : List (Nd × Leaf)}
theorem GB.turned (h : GB w next A n c gb nds S X) (ho : OwnM X w.heap.size (.slice (some ⟨g, 0, none⟩) m co) l) (hg : X.grownBy X' (some g)) : GB w next A n c gb nds S X' :=
  ⟨⟨h.a.m.grown hg (Ne.symm (own_blk_ne ho.own h.a.m (by decide))), h.a.r.grown hg (Ne.symm (own_blk_ne ho.own h.a.r (by decide))), below_grows (v := .slice (some ⟨g, 0, none⟩) m co) h.a.bel hg ho.own (Nat.le_refl _)⟩, Blk.grown h.g hg (Ne.symm (own_blk_ne ho.own h.g (by decide))), h.le⟩
end
end Go.Proofs.YtbkmdlfenbfdlaaGreat

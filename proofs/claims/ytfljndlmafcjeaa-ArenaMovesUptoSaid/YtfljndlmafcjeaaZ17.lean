/-
  WALKS: a node is moved: the program's, behind a node that was taken.
-/
import Derived.Test.YtfljndlmafcjeaaZ16
namespace Go.Proofs.Ytfljndlmafcjeaa
open Go Go.RowKit Go.Sort
set_option linter.unusedVariables false
attribute [local go_sem ↓] Go.wp_at_zero Go.wp_at_succ
theorem takeL_len (nds : List Nd) (id : Int) : (takeL nds id).length = nds.length := by unfold takeL; rw [List.length_map]
theorem putL_len (t : List Nd) (id parent : Int) (role : ByteArray) (a : Nat) : (putL t id parent role a).length = t.length := by
  unfold putL
  split
  · rfl
  · split
    · rw [List.length_set]
    · split
      · rfl
      · rw [List.length_set, List.length_set]
set_option maxRecDepth 20000 in
set_option maxHeartbeats 3200000 in
theorem move_adm (w : World) (hi : Nat) (next id parent at_ : Int) (role : ByteArray) (A : Option Addr) (n c : Nat) (nds : List Nd) (h : NodesIn w 0 hi A n c nds) (hh : hi ≤ w.heap.size) (hs : role.size ≤ maxLen) (hf : ∀ nd ∈ nds, Fits 1 nd) (hr : rightB next nds = true) (hw : (parent == 0 || wordB role) = true) (nd : Nd) (hx : ndOf nds id = some nd) (hb : (preI nds id).contains parent = false) (hz : (admV next (takeL nds id) parent role at_ (hiV nds id) 0).2 ≠ 0) :
    Calls Try.prog 6 #[.agg #[.int .i64 next, .slice A n c], .int .i64 id, .int .i64 parent, .string role, .int .i64 at_] w (SetPost w next (moveE next nds id parent role at_) (moveL next nds id parent role at_)) := by
  have hres : Try.f6.results = #[.cell 10 24, .tmp 11] := by kernel_rfl
  have HA0 := Lib.hid (A0.start w next A n c)
  have HCk : Hid (∀ X, Below w.heap.size w X → Calls Try.prog 14 #[.agg #[.int .i64 next, .slice A n c]] X (Ret X (.int .i64 (checkV next nds)))) := Lib.hid fun X hX => check_any X hi next A n c nds (h.below (hX.mono hh)) (Nat.le_trans hh hX.size)
  have hrm := rightM hr
  have hcv : checkV next nds = 0 := by unfold checkV; rw [hr]; rfl
  rw [hcv] at HCk
  have hn4 : n ≤ 4096 := by rw [← h.1]; exact hrm.len
  have HNm : Hid (∀ X, Calls Try.prog 15 #[.agg #[.int .i64 parent, .string role, .int .i64 at_]] X (Ret X (.bool true))) := Lib.hid fun X => named_any X parent at_ role hs true hw
  have HHa : Hid (∀ X, Below w.heap.size w X → Calls Try.prog 16 #[.agg #[.int .i64 next, .slice A n c], .int .i64 id] X (Ret X (.bool true))) := Lib.hid fun X hX => by
    have h1 := has_any X hi next id A n c nds (h.below (hX.mono hh)) (Nat.le_trans hh hX.size) hrm.rise hn4
    rw [has_ndOf, hx] at h1
    exact h1
  have HBr : Hid (∀ X, Below w.heap.size w X → Calls Try.prog 18 #[.agg #[.int .i64 next, .slice A n c], .int .i64 id] X (ListR X (preI nds id))) := Lib.hid fun X hX => branch_any X hi next id A n c nds (h.below (hX.mono hh)) (Nat.le_trans hh hX.size) hrm nd hx
  obtain ⟨bq, hbq⟩ : ∃ b, (preI nds id).contains parent = b := ⟨_, rfl⟩
  have HCo : Hid (∀ X lo hi' Aq cq, Row X lo hi' 1 Aq (preI nds id).length cq (intCells (preI nds id)) → Calls Try.prog 17 #[.slice Aq (preI nds id).length cq, .int .i64 parent] X (Says X bq)) := Lib.hid fun X lo hi' Aq cq h1 => by rw [← hbq]; exact contains_int X lo hi' Aq _ cq _ parent h1
  rw [hb] at hbq
  subst hbq
  obtain ⟨t, ht⟩ : ∃ t, takeL nds id = t := ⟨_, rfl⟩
  have hT : LaxM next t := ht ▸ hrm.lax.take id
  have hh64 := hi_le hrm hx
  obtain ⟨hv, hhv⟩ : ∃ k, hiV nds id = k := ⟨_, rfl⟩
  rw [hhv] at hh64
  have HLv : Hid (∀ X, Below w.heap.size w X → Calls Try.prog 22 #[.agg #[.int .i64 next, .slice A n c], .int .i64 id] X (Ret X (.int .i64 hv))) := Lib.hid fun X hX => by
    rw [← hhv]; exact levels_any X hi next id A n c nds (h.below (hX.mono hh)) (Nat.le_trans hh hX.size) hrm nd hx
  obtain ⟨rr, hrr⟩ : ∃ rr, admV next t parent role at_ hv 0 = rr := ⟨_, rfl⟩
  have HOw : Hid (∀ X, Below w.heap.size w X → Calls Try.prog 19 #[.agg #[.int .i64 next, .slice A n c]] X fun e w' => ∃ g l, e = .returned (.agg #[.int .i64 next, .slice (some ⟨g, 0, none⟩) n n]) ∧ OwnM w' X.heap.size (.slice (some ⟨g, 0, none⟩) n n) l ∧ l.map (·.1) = nds ∧ Below X.heap.size X w') := Lib.hid fun X hX => own_any X hi next A n c nds (h.below (hX.mono hh)) (Nat.le_trans hh hX.size) hn4 hf
  have HTk : Hid (∀ X g l, OwnM X w.heap.size (.slice (some ⟨g, 0, none⟩) n n) l → l.length = n → l.map (·.1) = nds → Calls Try.prog 20 #[.agg #[.int .i64 next, .slice (some ⟨g, 0, none⟩) n n], .int .i64 id] X (PutPost X w.heap.size g n n t)) := Lib.hid fun X g l h1 h2 h3 => by
    subst h3
    rw [← ht]
    exact take_any X w.heap.size next id g n n l h1 h2 hrm nd hx (fun h0 => in_kids hrm hx h0)
  obtain ⟨ri, re⟩ := rr
  have HAd : Hid (∀ X g l, OwnM X w.heap.size (.slice (some ⟨g, 0, none⟩) n n) l → l.length = n → l.map (·.1) = t → Calls Try.prog 21 #[.agg #[.int .i64 parent, .string role, .int .i64 at_], .agg #[.int .i64 next, .slice (some ⟨g, 0, none⟩) n n], .int .i64 hv, .int .i64 0] X (Ret X (.tuple #[.int .i64 ri, .int .i64 re]))) := Lib.hid fun X g l h1 h2 h3 => by
    have := admits_lax X X.heap.size next parent at_ role hv 0 (some ⟨g, 0, none⟩) n n t (by rw [← h3]; exact (h1.nodesIn h2).mono (Nat.zero_le _) (Nat.le_refl _)) (Nat.le_refl _) hT (by omega) (by omega)
    rw [hrr] at this
    exact this
  have hEE : moveE next nds id parent role at_ = re := by unfold moveE; rw [if_neg (by rw [hr]; simp), if_neg (by rw [hw]; simp), if_neg (by rw [hx]; simp), if_neg (by rw [hb]; simp), ht, hhv, hrr]
  have HLN0 : Hid (nds.length = n) := Lib.hid h.1
  have HNZ : Hid (re ≠ 0) := Lib.hid (by rw [ht, hhv, hrr] at hz; exact hz)
  have hnz : (re != 0) = true := by rw [bne_iff_ne]; exact HNZ.out
  have HE := Lib.hid hEE
  have HTT := Lib.hid ht
  clear h hf hcv hr hw hx hrm hb hT ht hhv hrr hEE hz hh64
  go_enter Try.func6, Try.ntmps6
  go_upto_region 5 with (go_at_call 14; (with_reducible refine (HCk.out _ HA0.out.bel).mono ?_); go_must (rintro e w1 ⟨rfl, hb1⟩; have ha1 := HA0.out.after hb1; have ar0 := ha1.r.cell 0; have ar1 := ha1.r.cell 1; have ar2 := ha1.r.frozen 0; have ar3 := ha1.r.frozen 1; have am0 := ha1.m.cell 0; have am1 := ha1.m.cell 1; simp at ar0 ar1 am0 am1; have HA1 := Lib.hid ha1; clear ha1 hb1))
  have HB := Lib.hid (HA1.out.spot parent role at_)
  generalize w1.alloc (.cells #[.int .i64 parent, .string role, .int .i64 at_] 51) = X5 at HB ⊢
  generalize w1.heap.size = gs at HB ⊢
  clear ar0 ar1 ar2 ar3 am0 am1
  have b0 := HB.out.r.cell 0
  have b1 := HB.out.r.cell 1
  have b2 := HB.out.r.frozen 0
  have b3 := HB.out.r.frozen 1
  have b4 := HB.out.s.cell 0
  have b5 := HB.out.s.cell 1
  have b6 := HB.out.s.cell 2
  have b7 := HB.out.m.cell 0
  have b8 := HB.out.m.cell 1
  simp at b0 b1 b4 b5 b6 b7 b8
  go_upto_region 11 with (first | (go_at_call 15; (with_reducible refine (HNm.out _).mono ?_); go_must (rintro e w2 ⟨rfl, hb2⟩; have hb2' := HB.out.after hb2; have pr0 := hb2'.r.cell 0; have pr1 := hb2'.r.cell 1; have pr2 := hb2'.r.frozen 0; have pr3 := hb2'.r.frozen 1; have pm0 := hb2'.m.cell 0; have pm1 := hb2'.m.cell 1; simp at pr0 pr1 pm0 pm1; have ps0 := hb2'.s.cell 0; have ps1 := hb2'.s.cell 1; have ps2 := hb2'.s.cell 2; simp at ps0 ps1 ps2; have HB2 := Lib.hid hb2'; clear hb2 hb2')) | (go_at_call 16; (with_reducible refine (HHa.out _ HB2.out.bel).mono ?_); go_must (rintro e w3 ⟨rfl, hb3⟩; have hb3' := HB2.out.after hb3; have qr0 := hb3'.r.cell 0; have qr1 := hb3'.r.cell 1; have qr2 := hb3'.r.frozen 0; have qr3 := hb3'.r.frozen 1; have qm0 := hb3'.m.cell 0; have qm1 := hb3'.m.cell 1; simp at qr0 qr1 qm0 qm1; have qs0 := hb3'.s.cell 0; have qs1 := hb3'.s.cell 1; have qs2 := hb3'.s.cell 2; simp at qs0 qs1 qs2; have HB3 := Lib.hid hb3'; clear hb3 hb3')) | (go_at_call 18; (with_reducible refine (HBr.out _ HB3.out.bel).mono ?_); go_must (rintro e w4 ⟨vb, rfl, hvb, hb4⟩; obtain ⟨Ab, cb, rfl⟩ := own_form hvb; have HVB := Lib.hid (own_row hvb); have hb4' := HB3.out.after hb4; have tr0 := hb4'.r.cell 0; have tr1 := hb4'.r.cell 1; have tr2 := hb4'.r.frozen 0; have tr3 := hb4'.r.frozen 1; have tm0 := hb4'.m.cell 0; have tm1 := hb4'.m.cell 1; simp at tr0 tr1 tm0 tm1; have ts0 := hb4'.s.cell 0; have ts1 := hb4'.s.cell 1; have ts2 := hb4'.s.cell 2; simp at ts0 ts1 ts2; have HB4 := Lib.hid hb4'; clear hb4 hb4' hvb)) | (go_at_call 17; go_must (refine (HCo.out _ _ _ _ _ HVB.out).mono ?_; rintro e w5 ⟨rfl, rfl⟩)))
  go_upto_region 12 with (go_at_call 19; (with_reducible refine (HOw.out _ HB4.out.bel).mono ?_); go_must (rintro e w6 ⟨g, l, rfl, ho6, hl6, hb6⟩; have HB6 := Lib.hid (HB4.out.after hb6); have HO6 := Lib.hid (ho6.mono HB4.out.bel.size); have HL6 := Lib.hid hl6; clear hb6 ho6 hl6))
  have HLN : Hid (l.length = n) := Lib.hid (by have := congrArg List.length HL6.out; rw [List.length_map, HLN0.out] at this; exact this)
  have hsz6 := HB6.out.bel.size
  have hsr := HB6.out.r.lt
  have HX6 : Hid (AO w parent role at_ next A n c gs w6.heap.size next (.slice (some ⟨g, 0, none⟩) n n) l (w6.alloc (.cells #[.int .i64 next, .slice (some ⟨g, 0, none⟩) n n] 24))) := Lib.hid ⟨HB6.out.after (below_more (Below.refl _ _) _), Blk.new _ _ _, HO6.out.after (below_more (Below.refl _ _) _), hsz6, by omega, by omega⟩
  generalize w6.alloc (.cells #[.int .i64 next, .slice (some ⟨g, 0, none⟩) n n] 24) = X6 at HX6 ⊢
  generalize w6.heap.size = go at HX6 ⊢
  clear hsz6 hsr b0 b1 b2 b3 b4 b5 b6 b7 b8
  have g0 := HX6.out.out.cell 0
  have g1 := HX6.out.out.cell 1
  simp at g0 g1
  go_upto_region 13 with (go_at_call 20; (with_reducible refine (HTk.out _ _ _ HX6.out.own HLN.out HL6.out).mono ?_); go_must (rintro e w7 ⟨rfl, l', ho7, hg7, hm7⟩; have HX8 := Lib.hid (HX6.out.turned ho7 hg7); have HMT := Lib.hid hm7; clear ho7 hg7 hm7))
  have HLT : Hid (l'.length = n) := Lib.hid (by have := congrArg List.length HMT.out; rw [List.length_map, ← HTT.out, takeL_len, HLN0.out] at this; exact this)
  rename World => X8
  have HSof : Hid (∀ X, AO w parent role at_ next A n c gs go next (.slice (some ⟨g, 0, none⟩) n n) l' X → X.cell? ⟨gs, 0, none⟩ = some (.int .i64 parent) ∧ X.cell? ⟨gs, 1, none⟩ = some (.string role) ∧ X.cell? ⟨gs, 2, none⟩ = some (.int .i64 at_) ∧ X.cell? ⟨go, 0, none⟩ = some (.int .i64 next) ∧ X.cell? ⟨go, 1, none⟩ = some (.slice (some ⟨g, 0, none⟩) n n) ∧ X.cell? ⟨w.heap.size, 0, none⟩ = some (.int .i64 next) ∧ X.cell? ⟨w.heap.size, 1, none⟩ = some (.slice A n c)) := Lib.hid fun X hX => ⟨(hX.ab.s.cell 0).trans rfl, (hX.ab.s.cell 1).trans rfl, (hX.ab.s.cell 2).trans rfl, (hX.out.cell 0).trans rfl, (hX.out.cell 1).trans rfl, (hX.ab.m.cell 0).trans rfl, (hX.ab.m.cell 1).trans rfl⟩
  obtain ⟨f0, f1, f2, f3, f4, f5, f6⟩ := HSof.out _ HX8.out
  have q0 := cell_regrown f0
  have q1 := cell_regrown f1
  have q2 := cell_regrown f2
  have q3 := cell_regrown f3
  have q4 := cell_regrown f4
  have q5 := cell_regrown f5
  have q6 := cell_regrown f6
  have HLq := Lib.hid fun (d : Nat) (os : Array Obj) => HLv.out _ (HX8.out.ab.bel.trans ((below_regrown X8 d os).mono HX8.out.ab.bel.size))
  have HAq := Lib.hid fun (d : Nat) (os : Array Obj) => HAd.out _ g l' (HX8.out.own.after (below_regrown X8 d os)) HLT.out HMT.out
  clear f0 f1 f2 f3 f4 f5 f6
  refine wp_region_quiet_below (by kernel_rfl) (by kernel_rfl) ?_
  repeat (go_big_quiet_step ((first | (go_at_call 22; exact regrown_ret (HLq.out _ _)) | (go_at_call 21; exact regrown_ret (HAq.out _ _)))))
  refine wpQuiet_nil ?_
  intro _ hw'
  obtain ⟨⟨dq, osq⟩, hw''⟩ := hw'
  subst hw''
  have HX := Lib.hid (HX8.out.after (below_regrown _ dq osq))
  generalize grow (redrawn _ dq) osq = wz at HX ⊢
  clear q0 q1 q2 q3 q4 q5 q6
  have c0 := HX.out.ab.r.cell 0
  have c1 := HX.out.ab.r.cell 1
  have c2 := HX.out.ab.r.frozen 0
  have c3 := HX.out.ab.r.frozen 1
  simp at c0 c1
  go_wp2_with fail
  (try rw [Exit.noGoto_ret])
  (try simp only [Exit.inBlock, Exit.then])
  refine bodyPost_ret (v := .tuple #[.agg #[.int .i64 0, .slice none 0 0], .int .i64 re]) ?hr rfl ?_
  case hr =>
    simp only [results, hres]
    go_simp
  rw [HE.out]
  exact mv_err HNZ.out ((HX.out.ab.bel.setCell (p := ⟨w.heap.size + 1, 0, none⟩) (by simp) _).setCell (p := ⟨w.heap.size + 1, 1, none⟩) (by simp) _)
set_option maxRecDepth 20000 in
set_option maxHeartbeats 3200000 in
theorem move_yes (w : World) (hi : Nat) (next id parent at_ : Int) (role : ByteArray) (A : Option Addr) (n c : Nat) (nds : List Nd) (h : NodesIn w 0 hi A n c nds) (hh : hi ≤ w.heap.size) (hs : role.size ≤ maxLen) (hf : ∀ nd ∈ nds, Fits 1 nd) (hr : rightB next nds = true) (hw : (parent == 0 || wordB role) = true) (nd : Nd) (hx : ndOf nds id = some nd) (hb : (preI nds id).contains parent = false) (hz : (admV next (takeL nds id) parent role at_ (hiV nds id) 0).2 = 0) :
    Calls Try.prog 6 #[.agg #[.int .i64 next, .slice A n c], .int .i64 id, .int .i64 parent, .string role, .int .i64 at_] w (SetPost w next (moveE next nds id parent role at_) (moveL next nds id parent role at_)) := by
  have hres : Try.f6.results = #[.cell 10 24, .tmp 11] := by kernel_rfl
  have HA0 := Lib.hid (A0.start w next A n c)
  have HCk : Hid (∀ X, Below w.heap.size w X → Calls Try.prog 14 #[.agg #[.int .i64 next, .slice A n c]] X (Ret X (.int .i64 (checkV next nds)))) := Lib.hid fun X hX => check_any X hi next A n c nds (h.below (hX.mono hh)) (Nat.le_trans hh hX.size)
  have hrm := rightM hr
  have hcv : checkV next nds = 0 := by unfold checkV; rw [hr]; rfl
  rw [hcv] at HCk
  have hn4 : n ≤ 4096 := by rw [← h.1]; exact hrm.len
  have HNm : Hid (∀ X, Calls Try.prog 15 #[.agg #[.int .i64 parent, .string role, .int .i64 at_]] X (Ret X (.bool true))) := Lib.hid fun X => named_any X parent at_ role hs true hw
  have HHa : Hid (∀ X, Below w.heap.size w X → Calls Try.prog 16 #[.agg #[.int .i64 next, .slice A n c], .int .i64 id] X (Ret X (.bool true))) := Lib.hid fun X hX => by
    have h1 := has_any X hi next id A n c nds (h.below (hX.mono hh)) (Nat.le_trans hh hX.size) hrm.rise hn4
    rw [has_ndOf, hx] at h1
    exact h1
  have HBr : Hid (∀ X, Below w.heap.size w X → Calls Try.prog 18 #[.agg #[.int .i64 next, .slice A n c], .int .i64 id] X (ListR X (preI nds id))) := Lib.hid fun X hX => branch_any X hi next id A n c nds (h.below (hX.mono hh)) (Nat.le_trans hh hX.size) hrm nd hx
  obtain ⟨bq, hbq⟩ : ∃ b, (preI nds id).contains parent = b := ⟨_, rfl⟩
  have HCo : Hid (∀ X lo hi' Aq cq, Row X lo hi' 1 Aq (preI nds id).length cq (intCells (preI nds id)) → Calls Try.prog 17 #[.slice Aq (preI nds id).length cq, .int .i64 parent] X (Says X bq)) := Lib.hid fun X lo hi' Aq cq h1 => by rw [← hbq]; exact contains_int X lo hi' Aq _ cq _ parent h1
  rw [hb] at hbq
  subst hbq
  obtain ⟨t, ht⟩ : ∃ t, takeL nds id = t := ⟨_, rfl⟩
  have hT : LaxM next t := ht ▸ hrm.lax.take id
  have hh64 := hi_le hrm hx
  obtain ⟨hv, hhv⟩ : ∃ k, hiV nds id = k := ⟨_, rfl⟩
  rw [hhv] at hh64
  have HLv : Hid (∀ X, Below w.heap.size w X → Calls Try.prog 22 #[.agg #[.int .i64 next, .slice A n c], .int .i64 id] X (Ret X (.int .i64 hv))) := Lib.hid fun X hX => by
    rw [← hhv]; exact levels_any X hi next id A n c nds (h.below (hX.mono hh)) (Nat.le_trans hh hX.size) hrm nd hx
  obtain ⟨rr, hrr⟩ : ∃ rr, admV next t parent role at_ hv 0 = rr := ⟨_, rfl⟩
  have HOw : Hid (∀ X, Below w.heap.size w X → Calls Try.prog 19 #[.agg #[.int .i64 next, .slice A n c]] X fun e w' => ∃ g l, e = .returned (.agg #[.int .i64 next, .slice (some ⟨g, 0, none⟩) n n]) ∧ OwnM w' X.heap.size (.slice (some ⟨g, 0, none⟩) n n) l ∧ l.map (·.1) = nds ∧ Below X.heap.size X w') := Lib.hid fun X hX => own_any X hi next A n c nds (h.below (hX.mono hh)) (Nat.le_trans hh hX.size) hn4 hf
  have HTk : Hid (∀ X g l, OwnM X w.heap.size (.slice (some ⟨g, 0, none⟩) n n) l → l.length = n → l.map (·.1) = nds → Calls Try.prog 20 #[.agg #[.int .i64 next, .slice (some ⟨g, 0, none⟩) n n], .int .i64 id] X (PutPost X w.heap.size g n n t)) := Lib.hid fun X g l h1 h2 h3 => by
    subst h3
    rw [← ht]
    exact take_any X w.heap.size next id g n n l h1 h2 hrm nd hx (fun h0 => in_kids hrm hx h0)
  obtain ⟨ri, re⟩ := rr
  have HAd : Hid (∀ X g l, OwnM X w.heap.size (.slice (some ⟨g, 0, none⟩) n n) l → l.length = n → l.map (·.1) = t → Calls Try.prog 21 #[.agg #[.int .i64 parent, .string role, .int .i64 at_], .agg #[.int .i64 next, .slice (some ⟨g, 0, none⟩) n n], .int .i64 hv, .int .i64 0] X (Ret X (.tuple #[.int .i64 ri, .int .i64 re]))) := Lib.hid fun X g l h1 h2 h3 => by
    have := admits_lax X X.heap.size next parent at_ role hv 0 (some ⟨g, 0, none⟩) n n t (by rw [← h3]; exact (h1.nodesIn h2).mono (Nat.zero_le _) (Nat.le_refl _)) (Nat.le_refl _) hT (by omega) (by omega)
    rw [hrr] at this
    exact this
  have hEE : moveE next nds id parent role at_ = re := by unfold moveE; rw [if_neg (by rw [hr]; simp), if_neg (by rw [hw]; simp), if_neg (by rw [hx]; simp), if_neg (by rw [hb]; simp), ht, hhv, hrr]
  have HLN0 : Hid (nds.length = n) := Lib.hid h.1
  obtain rfl : re = 0 := by rw [ht, hhv, hrr] at hz; exact hz
  have HML : Hid (moveL next nds id parent role at_ = putL t id parent role ri.toNat) := Lib.hid (by unfold moveL; rw [ht, hhv, hrr])
  have HPt : Hid (∀ X g l, OwnM X w.heap.size (.slice (some ⟨g, 0, none⟩) n n) l → l.length = n → l.map (·.1) = t → Calls Try.prog 23 #[.agg #[.int .i64 next, .slice (some ⟨g, 0, none⟩) n n], .int .i64 id, .agg #[.int .i64 parent, .string role, .int .i64 at_], .int .i64 ri] X (PutPost X w.heap.size g n n (putL t id parent role ri.toNat))) := Lib.hid fun X g l h1 h2 h3 => by
    have hp : ndOf t id = some (takeF (parV nds id) id nd) := by rw [← ht]; unfold takeL; rw [ndOf_map (takeF_id _ _), hx]; rfl
    exact put_ok X w.heap.size next id parent at_ ri role hv 0 g n n l t h1 h2 h3 hT hs _ hp (not_self hb) hrr next
  have HE := Lib.hid hEE
  have HTT := Lib.hid ht
  clear h hf hcv hr hw hx hrm hb hT ht hhv hrr hEE hz hh64
  go_enter Try.func6, Try.ntmps6
  go_upto_region 5 with (go_at_call 14; (with_reducible refine (HCk.out _ HA0.out.bel).mono ?_); go_must (rintro e w1 ⟨rfl, hb1⟩; have ha1 := HA0.out.after hb1; have ar0 := ha1.r.cell 0; have ar1 := ha1.r.cell 1; have ar2 := ha1.r.frozen 0; have ar3 := ha1.r.frozen 1; have am0 := ha1.m.cell 0; have am1 := ha1.m.cell 1; simp at ar0 ar1 am0 am1; have HA1 := Lib.hid ha1; clear ha1 hb1))
  have HB := Lib.hid (HA1.out.spot parent role at_)
  generalize w1.alloc (.cells #[.int .i64 parent, .string role, .int .i64 at_] 51) = X5 at HB ⊢
  generalize w1.heap.size = gs at HB ⊢
  clear ar0 ar1 ar2 ar3 am0 am1
  have b0 := HB.out.r.cell 0
  have b1 := HB.out.r.cell 1
  have b2 := HB.out.r.frozen 0
  have b3 := HB.out.r.frozen 1
  have b4 := HB.out.s.cell 0
  have b5 := HB.out.s.cell 1
  have b6 := HB.out.s.cell 2
  have b7 := HB.out.m.cell 0
  have b8 := HB.out.m.cell 1
  simp at b0 b1 b4 b5 b6 b7 b8
  go_upto_region 11 with (first | (go_at_call 15; (with_reducible refine (HNm.out _).mono ?_); go_must (rintro e w2 ⟨rfl, hb2⟩; have hb2' := HB.out.after hb2; have pr0 := hb2'.r.cell 0; have pr1 := hb2'.r.cell 1; have pr2 := hb2'.r.frozen 0; have pr3 := hb2'.r.frozen 1; have pm0 := hb2'.m.cell 0; have pm1 := hb2'.m.cell 1; simp at pr0 pr1 pm0 pm1; have ps0 := hb2'.s.cell 0; have ps1 := hb2'.s.cell 1; have ps2 := hb2'.s.cell 2; simp at ps0 ps1 ps2; have HB2 := Lib.hid hb2'; clear hb2 hb2')) | (go_at_call 16; (with_reducible refine (HHa.out _ HB2.out.bel).mono ?_); go_must (rintro e w3 ⟨rfl, hb3⟩; have hb3' := HB2.out.after hb3; have qr0 := hb3'.r.cell 0; have qr1 := hb3'.r.cell 1; have qr2 := hb3'.r.frozen 0; have qr3 := hb3'.r.frozen 1; have qm0 := hb3'.m.cell 0; have qm1 := hb3'.m.cell 1; simp at qr0 qr1 qm0 qm1; have qs0 := hb3'.s.cell 0; have qs1 := hb3'.s.cell 1; have qs2 := hb3'.s.cell 2; simp at qs0 qs1 qs2; have HB3 := Lib.hid hb3'; clear hb3 hb3')) | (go_at_call 18; (with_reducible refine (HBr.out _ HB3.out.bel).mono ?_); go_must (rintro e w4 ⟨vb, rfl, hvb, hb4⟩; obtain ⟨Ab, cb, rfl⟩ := own_form hvb; have HVB := Lib.hid (own_row hvb); have hb4' := HB3.out.after hb4; have tr0 := hb4'.r.cell 0; have tr1 := hb4'.r.cell 1; have tr2 := hb4'.r.frozen 0; have tr3 := hb4'.r.frozen 1; have tm0 := hb4'.m.cell 0; have tm1 := hb4'.m.cell 1; simp at tr0 tr1 tm0 tm1; have ts0 := hb4'.s.cell 0; have ts1 := hb4'.s.cell 1; have ts2 := hb4'.s.cell 2; simp at ts0 ts1 ts2; have HB4 := Lib.hid hb4'; clear hb4 hb4' hvb)) | (go_at_call 17; go_must (refine (HCo.out _ _ _ _ _ HVB.out).mono ?_; rintro e w5 ⟨rfl, rfl⟩)))
  go_upto_region 12 with (go_at_call 19; (with_reducible refine (HOw.out _ HB4.out.bel).mono ?_); go_must (rintro e w6 ⟨g, l, rfl, ho6, hl6, hb6⟩; have HB6 := Lib.hid (HB4.out.after hb6); have HO6 := Lib.hid (ho6.mono HB4.out.bel.size); have HL6 := Lib.hid hl6; clear hb6 ho6 hl6))
  have HLN : Hid (l.length = n) := Lib.hid (by have := congrArg List.length HL6.out; rw [List.length_map, HLN0.out] at this; exact this)
  have hsz6 := HB6.out.bel.size
  have hsr := HB6.out.r.lt
  have HX6 : Hid (AO w parent role at_ next A n c gs w6.heap.size next (.slice (some ⟨g, 0, none⟩) n n) l (w6.alloc (.cells #[.int .i64 next, .slice (some ⟨g, 0, none⟩) n n] 24))) := Lib.hid ⟨HB6.out.after (below_more (Below.refl _ _) _), Blk.new _ _ _, HO6.out.after (below_more (Below.refl _ _) _), hsz6, by omega, by omega⟩
  generalize w6.alloc (.cells #[.int .i64 next, .slice (some ⟨g, 0, none⟩) n n] 24) = X6 at HX6 ⊢
  generalize w6.heap.size = go at HX6 ⊢
  clear hsz6 hsr b0 b1 b2 b3 b4 b5 b6 b7 b8
  have g0 := HX6.out.out.cell 0
  have g1 := HX6.out.out.cell 1
  simp at g0 g1
  go_upto_region 13 with (go_at_call 20; (with_reducible refine (HTk.out _ _ _ HX6.out.own HLN.out HL6.out).mono ?_); go_must (rintro e w7 ⟨rfl, l', ho7, hg7, hm7⟩; have HX8 := Lib.hid (HX6.out.turned ho7 hg7); have HMT := Lib.hid hm7; clear ho7 hg7 hm7))
  have HLT : Hid (l'.length = n) := Lib.hid (by have := congrArg List.length HMT.out; rw [List.length_map, ← HTT.out, takeL_len, HLN0.out] at this; exact this)
  rename World => X8
  have HSof : Hid (∀ X, AO w parent role at_ next A n c gs go next (.slice (some ⟨g, 0, none⟩) n n) l' X → X.cell? ⟨gs, 0, none⟩ = some (.int .i64 parent) ∧ X.cell? ⟨gs, 1, none⟩ = some (.string role) ∧ X.cell? ⟨gs, 2, none⟩ = some (.int .i64 at_) ∧ X.cell? ⟨go, 0, none⟩ = some (.int .i64 next) ∧ X.cell? ⟨go, 1, none⟩ = some (.slice (some ⟨g, 0, none⟩) n n) ∧ X.cell? ⟨w.heap.size, 0, none⟩ = some (.int .i64 next) ∧ X.cell? ⟨w.heap.size, 1, none⟩ = some (.slice A n c)) := Lib.hid fun X hX => ⟨(hX.ab.s.cell 0).trans rfl, (hX.ab.s.cell 1).trans rfl, (hX.ab.s.cell 2).trans rfl, (hX.out.cell 0).trans rfl, (hX.out.cell 1).trans rfl, (hX.ab.m.cell 0).trans rfl, (hX.ab.m.cell 1).trans rfl⟩
  obtain ⟨f0, f1, f2, f3, f4, f5, f6⟩ := HSof.out _ HX8.out
  have q0 := cell_regrown f0
  have q1 := cell_regrown f1
  have q2 := cell_regrown f2
  have q3 := cell_regrown f3
  have q4 := cell_regrown f4
  have q5 := cell_regrown f5
  have q6 := cell_regrown f6
  have HLq := Lib.hid fun (d : Nat) (os : Array Obj) => HLv.out _ (HX8.out.ab.bel.trans ((below_regrown X8 d os).mono HX8.out.ab.bel.size))
  have HAq := Lib.hid fun (d : Nat) (os : Array Obj) => HAd.out _ g l' (HX8.out.own.after (below_regrown X8 d os)) HLT.out HMT.out
  clear f0 f1 f2 f3 f4 f5 f6
  refine wp_region_quiet_below (by kernel_rfl) (by kernel_rfl) ?_
  repeat (go_big_quiet_step ((first | (go_at_call 22; exact regrown_ret (HLq.out _ _)) | (go_at_call 21; exact regrown_ret (HAq.out _ _)))))
  refine wpQuiet_nil ?_
  intro _ hw'
  obtain ⟨⟨dq, osq⟩, hw''⟩ := hw'
  subst hw''
  have HX := Lib.hid (HX8.out.after (below_regrown _ dq osq))
  generalize grow (redrawn _ dq) osq = wz at HX ⊢
  clear q0 q1 q2 q3 q4 q5 q6
  have c0 := HX.out.ab.s.cell 0
  have c1 := HX.out.ab.s.cell 1
  have c2 := HX.out.ab.s.cell 2
  have c3 := HX.out.out.cell 0
  have c4 := HX.out.out.cell 1
  simp at c0 c1 c2 c3 c4
  go_upto_region 17 with (go_at_call 23; (with_reducible refine (HPt.out _ _ _ HX.out.own HLT.out HMT.out).mono ?_); go_must (rintro e w9 ⟨rfl, l9, ho9, hg9, hm9⟩; have HX9 := Lib.hid (HX.out.turned ho9 hg9); have HM9 := Lib.hid hm9; clear ho9 hg9 hm9))
  have d0 := HX9.out.ab.r.cell 0
  have d1 := HX9.out.ab.r.cell 1
  have d2 := HX9.out.ab.r.frozen 0
  have d3 := HX9.out.ab.r.frozen 1
  have d4 := HX9.out.out.cell 0
  have d5 := HX9.out.out.cell 1
  simp at d0 d1 d4 d5
  have HL9 : Hid (l9.length = n) := Lib.hid (by have := congrArg List.length HM9.out; rw [List.length_map, putL_len, ← HTT.out, takeL_len, HLN0.out] at this; exact this)
  go_wp2_with fail
  (try rw [Exit.noGoto_ret])
  (try simp only [Exit.inBlock, Exit.then])
  refine bodyPost_ret (v := .tuple #[.agg #[.int .i64 next, .slice (some ⟨g, 0, none⟩) n n], .int .i64 0]) ?hr rfl ?_
  case hr =>
    simp only [results, hres]
    go_simp
  rw [HE.out]
  refine ⟨next, some ⟨g, 0, none⟩, n, n, rfl, (HX9.out.ab.bel.setCell (p := ⟨w.heap.size + 1, 0, none⟩) (by simp) _).setCell (p := ⟨w.heap.size + 1, 1, none⟩) (by simp) _, fun h => absurd rfl h, fun _ => ⟨rfl, l9, (HX9.out.own.other HX9.out.ab.r 0 _).other (HX9.out.ab.r.set_ 0 _) 1 _, HL9.out, by rw [HM9.out, HML.out]⟩⟩
/-- Move of the program -/
theorem move_any (w : World) (hi : Nat) (next id parent at_ : Int) (role : ByteArray) (A : Option Addr) (n c : Nat) (nds : List Nd) (h : NodesIn w 0 hi A n c nds) (hh : hi ≤ w.heap.size) (hs : role.size ≤ maxLen) (hf : ∀ nd ∈ nds, Fits 1 nd) :
    Calls Try.prog 6 #[.agg #[.int .i64 next, .slice A n c], .int .i64 id, .int .i64 parent, .string role, .int .i64 at_] w (SetPost w next (moveE next nds id parent role at_) (moveL next nds id parent role at_)) := by
  cases hr : rightB next nds with
  | false => exact move_e29 w hi next id parent at_ role A n c nds h hh hs hr
  | true =>
    cases hw : (parent == 0 || wordB role) with
    | false => exact move_e2 w hi next id parent at_ role A n c nds h hh hs hr hw
    | true =>
      cases hx : ndOf nds id with
      | none => exact move_e20 w hi next id parent at_ role A n c nds h hh hs hr hw hx
      | some nd =>
        cases hb : (preI nds id).contains parent with
        | true => exact move_e21 w hi next id parent at_ role A n c nds h hh hs hr hw nd hx hb
        | false =>
          by_cases hz : (admV next (takeL nds id) parent role at_ (hiV nds id) 0).2 = 0
          · exact move_yes w hi next id parent at_ role A n c nds h hh hs hf hr hw nd hx hb hz
          · exact move_adm w hi next id parent at_ role A n c nds h hh hs hf hr hw nd hx hb hz
end Go.Proofs.Ytfljndlmafcjeaa

/-
  WALKS: a node is moved: the document's, behind a node that was taken.
  WALKS: a node is moved: the document's, in one.
-/
import Derived.Test.YtfljndlmafcjeaaZ18
namespace Go.Proofs.Ytfljndlmafcjeaa
open Go Go.RowKit Go.Sort
set_option linter.unusedVariables false
attribute [local go_sem ↓] Go.wp_at_zero Go.wp_at_succ
/-- the boxes, and the model that is made -/
structure AR (w : World) (next : Int) (A : Option Addr) (n c go : Nat) (v : Value) (l : List (Nd × Leaf)) (X : World) : Prop where
  a : A0 w next A n c X
  out : Blk X go 24 #[.int .i64 next, v]
  own : OwnM X w.heap.size v l
  n1 : w.heap.size ≠ go
  n2 : w.heap.size + 1 ≠ go
section
variable {w X X' : World} {next : Int} {A : Option Addr} {n c go g m co : Nat} {v : Value} {l l' : List (Nd × Leaf)}
theorem AR.after (h : AR w next A n c go v l X) (hb : Below X.heap.size X X') : AR w next A n c go v l X' := ⟨h.a.after hb, h.out.after hb, h.own.after hb, h.n1, h.n2⟩
theorem AR.turned (h : AR w next A n c go (.slice (some ⟨g, 0, none⟩) m co) l X) (ho : OwnM X' w.heap.size (.slice (some ⟨g, 0, none⟩) m co) l') (hg : X.grownBy X' (some g)) : AR w next A n c go (.slice (some ⟨g, 0, none⟩) m co) l' X' :=
  ⟨⟨h.a.m.grown hg (Ne.symm (own_blk_ne h.own.own h.a.m (by decide))), h.a.r.grown hg (Ne.symm (own_blk_ne h.own.own h.a.r (by decide))), below_grows (v := .slice (some ⟨g, 0, none⟩) m co) h.a.bel hg h.own.own (Nat.le_refl _)⟩, h.out.grown hg (Ne.symm (own_blk_ne h.own.own h.out (by decide))), ho, h.n1, h.n2⟩
end
theorem own_some' {X : World} {B n c : Nat} {A : Option Addr} {l : List (Nd × Leaf)} (h : OwnM X B (.slice A n c) l) (hn : l.length = n) (h0 : 0 < n) : ∃ g, A = some ⟨g, 0, none⟩ := by
  have h1 := h.own
  unfold OwnN at h1
  rcases h1.2 with ⟨_, h2⟩ | ⟨g, cap, cur, hv, _⟩
  · omega
  · injection hv with h3
    exact ⟨g, h3⟩
set_option maxRecDepth 20000 in
set_option maxHeartbeats 3200000 in
theorem refMove_admr (w : World) (hi : Nat) (next id parent at_ : Int) (role : ByteArray) (A : Option Addr) (n c : Nat) (nds : List Nd) (h : NodesIn w 0 hi A n c nds) (hh : hi ≤ w.heap.size) (hs : role.size ≤ maxLen) (hf : ∀ nd ∈ nds, Fits 1 nd) (hr : rightB next nds = true) (h0 : parent = 0) (i : Nat) (hav : atV nds id = (i : Int)) (heq : parent ≠ id) (nd : Nd) (hx : ndOf nds id = some nd) (hb : (belowV nds id).contains parent = false) (hpx : parent ≠ 0 → ∃ x, ndOf nds parent = some x) (re : Int) (hre : re ≠ 0) (hmay : mayV (takeL nds id) parent role at_ (hiV nds id) = re) (hE : moveE next nds id parent role at_ = re) :
    Calls Try.prog 7 #[.agg #[.int .i64 next, .slice A n c], .int .i64 id, .int .i64 parent, .string role, .int .i64 at_] w (SetPost w next (moveE next nds id parent role at_) (moveL next nds id parent role at_)) := by
  have hres : Try.f7.results = #[.cell 10 24, .tmp 11] := by kernel_rfl
  have HA0 := Lib.hid (A0.start w next A n c)
  have HRg : Hid (∀ X, Below w.heap.size w X → Calls Try.prog 24 #[.agg #[.int .i64 next, .slice A n c]] X (Ret X (.bool true))) := Lib.hid fun X hX => by
    have := refRight_any X hi next A n c nds (h.below (hX.mono hh)) (Nat.le_trans hh hX.size)
    rw [hr] at this
    exact this
  have HE := Lib.hid hE
  clear hE
  have hp0 : (parent != 0) = false := by rw [h0]; rfl
  have hrm := rightM hr
  have hn4 : n ≤ 4096 := by rw [← h.1]; exact hrm.len
  have HAi : Hid (∀ X, Below w.heap.size w X → Calls Try.prog 26 #[.agg #[.int .i64 next, .slice A n c], .int .i64 id] X (Ret X (.int .i64 i))) := Lib.hid fun X hX => by
    have := refAt_any X hi next id A n c nds (h.below (hX.mono hh)) (Nat.le_trans hh hX.size) hrm.rise hn4
    rw [hav] at this
    exact this
  have hi0 : ¬ (i : Int) < 0 := by omega
  have hq : (parent == id) = false := by rw [beq_eq_false_iff_ne]; exact heq
  have HDn : Hid (∀ X, Below w.heap.size w X → Calls Try.prog 28 #[.agg #[.int .i64 next, .slice A n c], .int .i64 id] X (ListR X (belowV nds id))) := Lib.hid fun X hX => refDown_any X hi next id A n c nds (h.below (hX.mono hh)) (Nat.le_trans hh hX.size) hrm nd hx
  have HHs : Hid (∀ X lo hi' Aq cq, Row X lo hi' 1 Aq (belowV nds id).length cq (intCells (belowV nds id)) → Calls Try.prog 27 #[.slice Aq (belowV nds id).length cq, .int .i64 parent] X (Says X false)) := Lib.hid fun X lo hi' Aq cq h1 => by rw [← hb]; exact refHas_any X lo hi' Aq _ cq _ parent h1
  obtain ⟨t, ht⟩ : ∃ t, takeL nds id = t := ⟨_, rfl⟩
  have hT : LaxM next t := ht ▸ hrm.lax.take id
  have hh64 := hi_le hrm hx
  obtain ⟨hv, hhv⟩ : ∃ k, hiV nds id = k := ⟨_, rfl⟩
  rw [hhv] at hh64
  rw [ht, hhv] at hmay
  have HHg : Hid (∀ X, Below w.heap.size w X → Calls Try.prog 29 #[.agg #[.int .i64 next, .slice A n c], .int .i64 id] X (Ret X (.int .i64 hv))) := Lib.hid fun X hX => by
    rw [← hhv]; exact refHigh_any X hi next id A n c nds (h.below (hX.mono hh)) (Nat.le_trans hh hX.size) hrm nd hx
  have HTw := Lib.hid fun (X : World) (hX : Below w.heap.size w X) => twin_any X hi next A n c nds (h.below (hX.mono hh)) (Nat.le_trans hh hX.size) hn4 hf
  have HTk : Hid (∀ X g co l, OwnM X w.heap.size (.slice (some ⟨g, 0, none⟩) n co) l → l.length = n → l.map (·.1) = nds → Calls Try.prog 31 #[.agg #[.int .i64 next, .slice (some ⟨g, 0, none⟩) n co], .int .i64 id] X (PutPost X w.heap.size g n co t)) := Lib.hid fun X g co l h1 h2 h3 => by
    subst h3
    rw [← ht]
    exact refTake_any X w.heap.size next id g n co l h1 h2 hrm nd hx (fun h0 => in_kids hrm hx h0)
  have HMy : Hid (∀ X g co l, OwnM X w.heap.size (.slice (some ⟨g, 0, none⟩) n co) l → l.length = n → l.map (·.1) = t → Calls Try.prog 32 #[.agg #[.int .i64 next, .slice (some ⟨g, 0, none⟩) n co], .int .i64 parent, .string role, .int .i64 at_, .int .i64 hv] X (Ret X (.int .i64 re))) := Lib.hid fun X g co l h1 h2 h3 => by
    have := may_lax X X.heap.size next parent at_ role hv (some ⟨g, 0, none⟩) n co t (by rw [← h3]; exact (h1.nodesIn h2).mono (Nat.zero_le _) (Nat.le_refl _)) (Nat.le_refl _) hT hh64 (fun h0 => by
      obtain ⟨x, hx'⟩ := hpx h0
      exact ⟨_, by rw [← ht]; unfold takeL; rw [ndOf_map (takeF_id _ _), hx']; rfl⟩)
    rw [hmay] at this
    exact this
  have HNZ := Lib.hid hre
  have hnz : (re != 0) = true := by rw [bne_iff_ne]; exact hre
  have HLN0 : Hid (nds.length = n) := Lib.hid h.1
  have HTT := Lib.hid ht
  have hpos : 0 < n := by rw [← h.1]; obtain ⟨k, _, h3, _⟩ := ndOf_some hx; have := (List.getElem?_eq_some_iff.1 h3).1; omega
  clear h hf hr hrm hav heq hx hb hpx hT ht hhv hmay h0 hre
  go_enter Try.func7, Try.ntmps7
  go_upto_region 11 with (first | (go_at_call 24; (with_reducible refine (HRg.out _ HA0.out.bel).mono ?_); go_must (rintro e w1 ⟨rfl, hb1⟩; have ha1 := HA0.out.after hb1; have r10 := ha1.r.cell 0; have r11 := ha1.r.cell 1; have r12 := ha1.r.frozen 0; have r13 := ha1.r.frozen 1; have m10 := ha1.m.cell 0; have m11 := ha1.m.cell 1; simp at r10 r11 m10 m11; have HA1 := Lib.hid ha1; clear ha1 hb1)) | (go_at_call 26; (with_reducible refine (HAi.out _ HA1.out.bel).mono ?_); go_must (rintro e w3 ⟨rfl, hb3⟩; have ha3 := HA1.out.after hb3; have r30 := ha3.r.cell 0; have r31 := ha3.r.cell 1; have r32 := ha3.r.frozen 0; have r33 := ha3.r.frozen 1; have m30 := ha3.m.cell 0; have m31 := ha3.m.cell 1; simp at r30 r31 m30 m31; have HA3 := Lib.hid ha3; clear ha3 hb3)) | (go_at_call 28; (with_reducible refine (HDn.out _ HA3.out.bel).mono ?_); go_must (rintro e w5 ⟨vb, rfl, hvb, hb5⟩; obtain ⟨Ab, cb, rfl⟩ := own_form hvb; have HVB := Lib.hid (own_row hvb); have ha5 := HA3.out.after hb5; have r50 := ha5.r.cell 0; have r51 := ha5.r.cell 1; have r52 := ha5.r.frozen 0; have r53 := ha5.r.frozen 1; have m50 := ha5.m.cell 0; have m51 := ha5.m.cell 1; simp at r50 r51 m50 m51; have HA5 := Lib.hid ha5; clear ha5 hb5 hvb)) | (go_at_call 27; go_must (refine (HHs.out _ _ _ _ _ HVB.out).mono ?_; rintro e w9 ⟨rfl, rfl⟩)) | (go_at_call 29; (with_reducible refine (HHg.out _ HA5.out.bel).mono ?_); go_must (rintro e w6 ⟨rfl, hb6⟩; have ha6 := HA5.out.after hb6; have r60 := ha6.r.cell 0; have r61 := ha6.r.cell 1; have r62 := ha6.r.frozen 0; have r63 := ha6.r.frozen 1; have m60 := ha6.m.cell 0; have m61 := ha6.m.cell 1; simp at r60 r61 m60 m61; have HA6 := Lib.hid ha6; clear ha6 hb6)) | (go_at_call 30; (with_reducible refine (HTw.out _ HA6.out.bel).mono ?_); go_must (rintro e w7 ⟨ov, l, rfl, hown7, hmap7, hb7⟩; obtain ⟨Ao, co, hov⟩ := own_form hown7.own; have hln7 : l.length = n := (by have := congrArg List.length hmap7; rw [List.length_map, HLN0.out] at this; exact this); rw [hln7] at hov; subst hov; have HLN := Lib.hid hln7; have HA7 := Lib.hid (HA6.out.after hb7); have HO7 := Lib.hid (hown7.mono HA6.out.bel.size); have HL7 := Lib.hid hmap7; clear hown7 hmap7 hb7 hln7)))
  obtain ⟨g, hgA⟩ := own_some' HO7.out HLN.out hpos
  subst hgA
  have hsz7 := HA7.out.bel.size
  have hsr := HA7.out.r.lt
  have HR8 : Hid (AR w next A n c w7.heap.size (.slice (some ⟨g, 0, none⟩) n co) l (w7.alloc (.cells #[.int .i64 next, .slice (some ⟨g, 0, none⟩) n co] 24))) := Lib.hid ⟨HA7.out.after (below_more (Below.refl _ _) _), Blk.new _ _ _, HO7.out.after (below_more (Below.refl _ _) _), by omega, by omega⟩
  generalize w7.alloc (.cells #[.int .i64 next, .slice (some ⟨g, 0, none⟩) n co] 24) = X8 at HR8 ⊢
  generalize w7.heap.size = go at HR8 ⊢
  clear hsz7 hsr
  have g0 := HR8.out.out.cell 0
  have g1 := HR8.out.out.cell 1
  simp at g0 g1
  go_upto_region 12 with (go_at_call 31; (with_reducible refine (HTk.out _ _ _ _ HR8.out.own HLN.out HL7.out).mono ?_); go_must (rintro e w9 ⟨rfl, l', ho9, hg9, hm9⟩; have HR9 := Lib.hid (HR8.out.turned ho9 hg9); have HMT := Lib.hid hm9; clear ho9 hg9 hm9))
  have HLT : Hid (l'.length = n) := Lib.hid (by have := congrArg List.length HMT.out; rw [List.length_map, ← HTT.out, takeL_len, HLN0.out] at this; exact this)
  clear g0 g1
  have g2 := HR9.out.out.cell 0
  have g3 := HR9.out.out.cell 1
  simp at g2 g3
  go_upto_region 13 with (go_at_call 32; (with_reducible refine (HMy.out _ _ _ _ HR9.out.own HLT.out HMT.out).mono ?_); go_must (rintro e w10 ⟨rfl, hb10⟩; have HR10 := Lib.hid (HR9.out.after hb10); clear hb10))
  clear g2 g3
  have c0 := HR10.out.a.r.cell 0
  have c1 := HR10.out.a.r.cell 1
  have c2 := HR10.out.a.r.frozen 0
  have c3 := HR10.out.a.r.frozen 1
  simp at c0 c1
  go_wp2_with fail
  (try rw [Exit.noGoto_ret])
  (try simp only [Exit.inBlock, Exit.then])
  refine bodyPost_ret (v := .tuple #[.agg #[.int .i64 0, .slice none 0 0], .int .i64 re]) ?hr rfl ?_
  case hr =>
    simp only [results, hres]
    go_simp
  rw [HE.out]
  exact mv_err HNZ.out ((HR10.out.a.bel.setCell (p := ⟨w.heap.size + 1, 0, none⟩) (by simp) _).setCell (p := ⟨w.heap.size + 1, 1, none⟩) (by simp) _)
set_option maxRecDepth 20000 in
set_option maxHeartbeats 3200000 in
theorem refMove_yesr (w : World) (hi : Nat) (next id parent at_ : Int) (role : ByteArray) (A : Option Addr) (n c : Nat) (nds : List Nd) (h : NodesIn w 0 hi A n c nds) (hh : hi ≤ w.heap.size) (hs : role.size ≤ maxLen) (hf : ∀ nd ∈ nds, Fits 1 nd) (hr : rightB next nds = true) (h0 : parent = 0) (i : Nat) (hav : atV nds id = (i : Int)) (heq : parent ≠ id) (nd : Nd) (hx : ndOf nds id = some nd) (hb : (belowV nds id).contains parent = false) (hpx : parent ≠ 0 → ∃ x, ndOf nds parent = some x) (ri : Int) (hmay : mayV (takeL nds id) parent role at_ (hiV nds id) = 0) (hadm : admV next (takeL nds id) parent role at_ (hiV nds id) 0 = (ri, 0)) (hML : moveL next nds id parent role at_ = putL (takeL nds id) id parent role ri.toNat) (hE : moveE next nds id parent role at_ = 0) :
    Calls Try.prog 7 #[.agg #[.int .i64 next, .slice A n c], .int .i64 id, .int .i64 parent, .string role, .int .i64 at_] w (SetPost w next (moveE next nds id parent role at_) (moveL next nds id parent role at_)) := by
  have hres : Try.f7.results = #[.cell 10 24, .tmp 11] := by kernel_rfl
  have HA0 := Lib.hid (A0.start w next A n c)
  have HRg : Hid (∀ X, Below w.heap.size w X → Calls Try.prog 24 #[.agg #[.int .i64 next, .slice A n c]] X (Ret X (.bool true))) := Lib.hid fun X hX => by
    have := refRight_any X hi next A n c nds (h.below (hX.mono hh)) (Nat.le_trans hh hX.size)
    rw [hr] at this
    exact this
  have HE := Lib.hid hE
  clear hE
  have hp0 : (parent != 0) = false := by rw [h0]; rfl
  have hrm := rightM hr
  have hn4 : n ≤ 4096 := by rw [← h.1]; exact hrm.len
  have HAi : Hid (∀ X, Below w.heap.size w X → Calls Try.prog 26 #[.agg #[.int .i64 next, .slice A n c], .int .i64 id] X (Ret X (.int .i64 i))) := Lib.hid fun X hX => by
    have := refAt_any X hi next id A n c nds (h.below (hX.mono hh)) (Nat.le_trans hh hX.size) hrm.rise hn4
    rw [hav] at this
    exact this
  have hi0 : ¬ (i : Int) < 0 := by omega
  have hq : (parent == id) = false := by rw [beq_eq_false_iff_ne]; exact heq
  have HDn : Hid (∀ X, Below w.heap.size w X → Calls Try.prog 28 #[.agg #[.int .i64 next, .slice A n c], .int .i64 id] X (ListR X (belowV nds id))) := Lib.hid fun X hX => refDown_any X hi next id A n c nds (h.below (hX.mono hh)) (Nat.le_trans hh hX.size) hrm nd hx
  have HHs : Hid (∀ X lo hi' Aq cq, Row X lo hi' 1 Aq (belowV nds id).length cq (intCells (belowV nds id)) → Calls Try.prog 27 #[.slice Aq (belowV nds id).length cq, .int .i64 parent] X (Says X false)) := Lib.hid fun X lo hi' Aq cq h1 => by rw [← hb]; exact refHas_any X lo hi' Aq _ cq _ parent h1
  obtain ⟨t, ht⟩ : ∃ t, takeL nds id = t := ⟨_, rfl⟩
  have hT : LaxM next t := ht ▸ hrm.lax.take id
  have hh64 := hi_le hrm hx
  obtain ⟨hv, hhv⟩ : ∃ k, hiV nds id = k := ⟨_, rfl⟩
  rw [hhv] at hh64
  rw [ht, hhv] at hmay
  have HHg : Hid (∀ X, Below w.heap.size w X → Calls Try.prog 29 #[.agg #[.int .i64 next, .slice A n c], .int .i64 id] X (Ret X (.int .i64 hv))) := Lib.hid fun X hX => by
    rw [← hhv]; exact refHigh_any X hi next id A n c nds (h.below (hX.mono hh)) (Nat.le_trans hh hX.size) hrm nd hx
  have HTw := Lib.hid fun (X : World) (hX : Below w.heap.size w X) => twin_any X hi next A n c nds (h.below (hX.mono hh)) (Nat.le_trans hh hX.size) hn4 hf
  have HTk : Hid (∀ X g co l, OwnM X w.heap.size (.slice (some ⟨g, 0, none⟩) n co) l → l.length = n → l.map (·.1) = nds → Calls Try.prog 31 #[.agg #[.int .i64 next, .slice (some ⟨g, 0, none⟩) n co], .int .i64 id] X (PutPost X w.heap.size g n co t)) := Lib.hid fun X g co l h1 h2 h3 => by
    subst h3
    rw [← ht]
    exact refTake_any X w.heap.size next id g n co l h1 h2 hrm nd hx (fun h0 => in_kids hrm hx h0)
  have HMy : Hid (∀ X g co l, OwnM X w.heap.size (.slice (some ⟨g, 0, none⟩) n co) l → l.length = n → l.map (·.1) = t → Calls Try.prog 32 #[.agg #[.int .i64 next, .slice (some ⟨g, 0, none⟩) n co], .int .i64 parent, .string role, .int .i64 at_, .int .i64 hv] X (Ret X (.int .i64 0))) := Lib.hid fun X g co l h1 h2 h3 => by
    have := may_lax X X.heap.size next parent at_ role hv (some ⟨g, 0, none⟩) n co t (by rw [← h3]; exact (h1.nodesIn h2).mono (Nat.zero_le _) (Nat.le_refl _)) (Nat.le_refl _) hT hh64 (fun h0 => by
      obtain ⟨x, hx'⟩ := hpx h0
      exact ⟨_, by rw [← ht]; unfold takeL; rw [ndOf_map (takeF_id _ _), hx']; rfl⟩)
    rw [hmay] at this
    exact this
  rw [ht, hhv] at hadm
  have HML := Lib.hid hML
  rw [ht] at HML
  have HPt : Hid (∀ X g co l, OwnM X w.heap.size (.slice (some ⟨g, 0, none⟩) n co) l → l.length = n → l.map (·.1) = t → Calls Try.prog 33 #[.agg #[.int .i64 next, .slice (some ⟨g, 0, none⟩) n co], .int .i64 id, .int .i64 parent, .string role, .int .i64 at_] X (PutPost X w.heap.size g n co (putL t id parent role ri.toNat))) := Lib.hid fun X g co l h1 h2 h3 => by
    have hp : ndOf t id = some (takeF (parV nds id) id nd) := by rw [← ht]; unfold takeL; rw [ndOf_map (takeF_id _ _), hx]; rfl
    exact refPut_ok X w.heap.size next id parent at_ ri role hv 0 g n co l t h1 h2 h3 hT hs _ hp heq hadm next
  have HLN0 : Hid (nds.length = n) := Lib.hid h.1
  have HTT := Lib.hid ht
  have hpos : 0 < n := by rw [← h.1]; obtain ⟨k, _, h3, _⟩ := ndOf_some hx; have := (List.getElem?_eq_some_iff.1 h3).1; omega
  clear h hf hr hrm hav heq hx hb hpx hT ht hhv hmay h0 hadm hML
  go_enter Try.func7, Try.ntmps7
  go_upto_region 11 with (first | (go_at_call 24; (with_reducible refine (HRg.out _ HA0.out.bel).mono ?_); go_must (rintro e w1 ⟨rfl, hb1⟩; have ha1 := HA0.out.after hb1; have r10 := ha1.r.cell 0; have r11 := ha1.r.cell 1; have r12 := ha1.r.frozen 0; have r13 := ha1.r.frozen 1; have m10 := ha1.m.cell 0; have m11 := ha1.m.cell 1; simp at r10 r11 m10 m11; have HA1 := Lib.hid ha1; clear ha1 hb1)) | (go_at_call 26; (with_reducible refine (HAi.out _ HA1.out.bel).mono ?_); go_must (rintro e w3 ⟨rfl, hb3⟩; have ha3 := HA1.out.after hb3; have r30 := ha3.r.cell 0; have r31 := ha3.r.cell 1; have r32 := ha3.r.frozen 0; have r33 := ha3.r.frozen 1; have m30 := ha3.m.cell 0; have m31 := ha3.m.cell 1; simp at r30 r31 m30 m31; have HA3 := Lib.hid ha3; clear ha3 hb3)) | (go_at_call 28; (with_reducible refine (HDn.out _ HA3.out.bel).mono ?_); go_must (rintro e w5 ⟨vb, rfl, hvb, hb5⟩; obtain ⟨Ab, cb, rfl⟩ := own_form hvb; have HVB := Lib.hid (own_row hvb); have ha5 := HA3.out.after hb5; have r50 := ha5.r.cell 0; have r51 := ha5.r.cell 1; have r52 := ha5.r.frozen 0; have r53 := ha5.r.frozen 1; have m50 := ha5.m.cell 0; have m51 := ha5.m.cell 1; simp at r50 r51 m50 m51; have HA5 := Lib.hid ha5; clear ha5 hb5 hvb)) | (go_at_call 27; go_must (refine (HHs.out _ _ _ _ _ HVB.out).mono ?_; rintro e w9 ⟨rfl, rfl⟩)) | (go_at_call 29; (with_reducible refine (HHg.out _ HA5.out.bel).mono ?_); go_must (rintro e w6 ⟨rfl, hb6⟩; have ha6 := HA5.out.after hb6; have r60 := ha6.r.cell 0; have r61 := ha6.r.cell 1; have r62 := ha6.r.frozen 0; have r63 := ha6.r.frozen 1; have m60 := ha6.m.cell 0; have m61 := ha6.m.cell 1; simp at r60 r61 m60 m61; have HA6 := Lib.hid ha6; clear ha6 hb6)) | (go_at_call 30; (with_reducible refine (HTw.out _ HA6.out.bel).mono ?_); go_must (rintro e w7 ⟨ov, l, rfl, hown7, hmap7, hb7⟩; obtain ⟨Ao, co, hov⟩ := own_form hown7.own; have hln7 : l.length = n := (by have := congrArg List.length hmap7; rw [List.length_map, HLN0.out] at this; exact this); rw [hln7] at hov; subst hov; have HLN := Lib.hid hln7; have HA7 := Lib.hid (HA6.out.after hb7); have HO7 := Lib.hid (hown7.mono HA6.out.bel.size); have HL7 := Lib.hid hmap7; clear hown7 hmap7 hb7 hln7)))
  obtain ⟨g, hgA⟩ := own_some' HO7.out HLN.out hpos
  subst hgA
  have hsz7 := HA7.out.bel.size
  have hsr := HA7.out.r.lt
  have HR8 : Hid (AR w next A n c w7.heap.size (.slice (some ⟨g, 0, none⟩) n co) l (w7.alloc (.cells #[.int .i64 next, .slice (some ⟨g, 0, none⟩) n co] 24))) := Lib.hid ⟨HA7.out.after (below_more (Below.refl _ _) _), Blk.new _ _ _, HO7.out.after (below_more (Below.refl _ _) _), by omega, by omega⟩
  generalize w7.alloc (.cells #[.int .i64 next, .slice (some ⟨g, 0, none⟩) n co] 24) = X8 at HR8 ⊢
  generalize w7.heap.size = go at HR8 ⊢
  clear hsz7 hsr
  have g0 := HR8.out.out.cell 0
  have g1 := HR8.out.out.cell 1
  simp at g0 g1
  go_upto_region 12 with (go_at_call 31; (with_reducible refine (HTk.out _ _ _ _ HR8.out.own HLN.out HL7.out).mono ?_); go_must (rintro e w9 ⟨rfl, l', ho9, hg9, hm9⟩; have HR9 := Lib.hid (HR8.out.turned ho9 hg9); have HMT := Lib.hid hm9; clear ho9 hg9 hm9))
  have HLT : Hid (l'.length = n) := Lib.hid (by have := congrArg List.length HMT.out; rw [List.length_map, ← HTT.out, takeL_len, HLN0.out] at this; exact this)
  clear g0 g1
  have g2 := HR9.out.out.cell 0
  have g3 := HR9.out.out.cell 1
  simp at g2 g3
  go_upto_region 13 with (go_at_call 32; (with_reducible refine (HMy.out _ _ _ _ HR9.out.own HLT.out HMT.out).mono ?_); go_must (rintro e w10 ⟨rfl, hb10⟩; have HR10 := Lib.hid (HR9.out.after hb10); clear hb10))
  clear g2 g3
  have c0 := HR10.out.out.cell 0
  have c1 := HR10.out.out.cell 1
  simp at c0 c1
  go_upto_region 16 with (go_at_call 33; (with_reducible refine (HPt.out _ _ _ _ HR10.out.own HLT.out HMT.out).mono ?_); go_must (rintro e w11 ⟨rfl, l9, ho9, hg9, hm9⟩; have HR11 := Lib.hid (HR10.out.turned ho9 hg9); have HM9 := Lib.hid hm9; clear ho9 hg9 hm9))
  have HL9 : Hid (l9.length = n) := Lib.hid (by have := congrArg List.length HM9.out; rw [List.length_map, putL_len, ← HTT.out, takeL_len, HLN0.out] at this; exact this)
  have d0 := HR11.out.a.r.cell 0
  have d1 := HR11.out.a.r.cell 1
  have d2 := HR11.out.a.r.frozen 0
  have d3 := HR11.out.a.r.frozen 1
  have d4 := HR11.out.out.cell 0
  have d5 := HR11.out.out.cell 1
  simp at d0 d1 d4 d5
  go_wp2_with fail
  (try rw [Exit.noGoto_ret])
  (try simp only [Exit.inBlock, Exit.then])
  refine bodyPost_ret (v := .tuple #[.agg #[.int .i64 next, .slice (some ⟨g, 0, none⟩) n co], .int .i64 0]) ?hr rfl ?_
  case hr =>
    simp only [results, hres]
    go_simp
  rw [HE.out]
  refine ⟨next, some ⟨g, 0, none⟩, n, co, rfl, (HR11.out.a.bel.setCell (p := ⟨w.heap.size + 1, 0, none⟩) (by simp) _).setCell (p := ⟨w.heap.size + 1, 1, none⟩) (by simp) _, fun h => absurd rfl h, fun _ => ⟨rfl, l9, (HR11.out.own.other HR11.out.a.r 0 _).other (HR11.out.a.r.set_ 0 _) 1 _, HL9.out, by rw [HM9.out, HML.out]⟩⟩
set_option maxRecDepth 20000 in
set_option maxHeartbeats 3200000 in
theorem refMove_admp (w : World) (hi : Nat) (next id parent at_ : Int) (role : ByteArray) (A : Option Addr) (n c : Nat) (nds : List Nd) (h : NodesIn w 0 hi A n c nds) (hh : hi ≤ w.heap.size) (hs : role.size ≤ maxLen) (hf : ∀ nd ∈ nds, Fits 1 nd) (hr : rightB next nds = true) (h0 : parent ≠ 0) (hw : wordB role = true) (i : Nat) (hav : atV nds id = (i : Int)) (j : Nat) (hap : atV nds parent = (j : Int)) (heq : parent ≠ id) (nd : Nd) (hx : ndOf nds id = some nd) (hb : (belowV nds id).contains parent = false) (hpx : parent ≠ 0 → ∃ x, ndOf nds parent = some x) (re : Int) (hre : re ≠ 0) (hmay : mayV (takeL nds id) parent role at_ (hiV nds id) = re) (hE : moveE next nds id parent role at_ = re) :
    Calls Try.prog 7 #[.agg #[.int .i64 next, .slice A n c], .int .i64 id, .int .i64 parent, .string role, .int .i64 at_] w (SetPost w next (moveE next nds id parent role at_) (moveL next nds id parent role at_)) := by
  have hres : Try.f7.results = #[.cell 10 24, .tmp 11] := by kernel_rfl
  have HA0 := Lib.hid (A0.start w next A n c)
  have HRg : Hid (∀ X, Below w.heap.size w X → Calls Try.prog 24 #[.agg #[.int .i64 next, .slice A n c]] X (Ret X (.bool true))) := Lib.hid fun X hX => by
    have := refRight_any X hi next A n c nds (h.below (hX.mono hh)) (Nat.le_trans hh hX.size)
    rw [hr] at this
    exact this
  have HE := Lib.hid hE
  clear hE
  have HWd : Hid (∀ X, Calls Try.prog 25 #[.string role] X (Says X true)) := Lib.hid fun X => by have := refWord_any role X hs; rw [hw] at this; exact this
  have hp0 : (parent != 0) = true := by rw [bne_iff_ne]; exact h0
  have hrm := rightM hr
  have hn4 : n ≤ 4096 := by rw [← h.1]; exact hrm.len
  have HAi : Hid (∀ X, Below w.heap.size w X → Calls Try.prog 26 #[.agg #[.int .i64 next, .slice A n c], .int .i64 id] X (Ret X (.int .i64 i))) := Lib.hid fun X hX => by
    have := refAt_any X hi next id A n c nds (h.below (hX.mono hh)) (Nat.le_trans hh hX.size) hrm.rise hn4
    rw [hav] at this
    exact this
  have HAp : Hid (∀ X, Below w.heap.size w X → Calls Try.prog 26 #[.agg #[.int .i64 next, .slice A n c], .int .i64 parent] X (Ret X (.int .i64 j))) := Lib.hid fun X hX => by
    have := refAt_any X hi next parent A n c nds (h.below (hX.mono hh)) (Nat.le_trans hh hX.size) hrm.rise hn4
    rw [hap] at this
    exact this
  have hj0 : ¬ (j : Int) < 0 := by omega
  have hi0 : ¬ (i : Int) < 0 := by omega
  have hq : (parent == id) = false := by rw [beq_eq_false_iff_ne]; exact heq
  have HDn : Hid (∀ X, Below w.heap.size w X → Calls Try.prog 28 #[.agg #[.int .i64 next, .slice A n c], .int .i64 id] X (ListR X (belowV nds id))) := Lib.hid fun X hX => refDown_any X hi next id A n c nds (h.below (hX.mono hh)) (Nat.le_trans hh hX.size) hrm nd hx
  have HHs : Hid (∀ X lo hi' Aq cq, Row X lo hi' 1 Aq (belowV nds id).length cq (intCells (belowV nds id)) → Calls Try.prog 27 #[.slice Aq (belowV nds id).length cq, .int .i64 parent] X (Says X false)) := Lib.hid fun X lo hi' Aq cq h1 => by rw [← hb]; exact refHas_any X lo hi' Aq _ cq _ parent h1
  obtain ⟨t, ht⟩ : ∃ t, takeL nds id = t := ⟨_, rfl⟩
  have hT : LaxM next t := ht ▸ hrm.lax.take id
  have hh64 := hi_le hrm hx
  obtain ⟨hv, hhv⟩ : ∃ k, hiV nds id = k := ⟨_, rfl⟩
  rw [hhv] at hh64
  rw [ht, hhv] at hmay
  have HHg : Hid (∀ X, Below w.heap.size w X → Calls Try.prog 29 #[.agg #[.int .i64 next, .slice A n c], .int .i64 id] X (Ret X (.int .i64 hv))) := Lib.hid fun X hX => by
    rw [← hhv]; exact refHigh_any X hi next id A n c nds (h.below (hX.mono hh)) (Nat.le_trans hh hX.size) hrm nd hx
  have HTw := Lib.hid fun (X : World) (hX : Below w.heap.size w X) => twin_any X hi next A n c nds (h.below (hX.mono hh)) (Nat.le_trans hh hX.size) hn4 hf
  have HTk : Hid (∀ X g co l, OwnM X w.heap.size (.slice (some ⟨g, 0, none⟩) n co) l → l.length = n → l.map (·.1) = nds → Calls Try.prog 31 #[.agg #[.int .i64 next, .slice (some ⟨g, 0, none⟩) n co], .int .i64 id] X (PutPost X w.heap.size g n co t)) := Lib.hid fun X g co l h1 h2 h3 => by
    subst h3
    rw [← ht]
    exact refTake_any X w.heap.size next id g n co l h1 h2 hrm nd hx (fun h0 => in_kids hrm hx h0)
  have HMy : Hid (∀ X g co l, OwnM X w.heap.size (.slice (some ⟨g, 0, none⟩) n co) l → l.length = n → l.map (·.1) = t → Calls Try.prog 32 #[.agg #[.int .i64 next, .slice (some ⟨g, 0, none⟩) n co], .int .i64 parent, .string role, .int .i64 at_, .int .i64 hv] X (Ret X (.int .i64 re))) := Lib.hid fun X g co l h1 h2 h3 => by
    have := may_lax X X.heap.size next parent at_ role hv (some ⟨g, 0, none⟩) n co t (by rw [← h3]; exact (h1.nodesIn h2).mono (Nat.zero_le _) (Nat.le_refl _)) (Nat.le_refl _) hT hh64 (fun h0 => by
      obtain ⟨x, hx'⟩ := hpx h0
      exact ⟨_, by rw [← ht]; unfold takeL; rw [ndOf_map (takeF_id _ _), hx']; rfl⟩)
    rw [hmay] at this
    exact this
  have HNZ := Lib.hid hre
  have hnz : (re != 0) = true := by rw [bne_iff_ne]; exact hre
  have HLN0 : Hid (nds.length = n) := Lib.hid h.1
  have HTT := Lib.hid ht
  have hpos : 0 < n := by rw [← h.1]; obtain ⟨k, _, h3, _⟩ := ndOf_some hx; have := (List.getElem?_eq_some_iff.1 h3).1; omega
  clear h hf hr hrm hav heq hx hb hpx hT ht hhv hmay h0 hw hap hre
  go_enter Try.func7, Try.ntmps7
  go_upto_region 11 with (first | (go_at_call 24; (with_reducible refine (HRg.out _ HA0.out.bel).mono ?_); go_must (rintro e w1 ⟨rfl, hb1⟩; have ha1 := HA0.out.after hb1; have r10 := ha1.r.cell 0; have r11 := ha1.r.cell 1; have r12 := ha1.r.frozen 0; have r13 := ha1.r.frozen 1; have m10 := ha1.m.cell 0; have m11 := ha1.m.cell 1; simp at r10 r11 m10 m11; have HA1 := Lib.hid ha1; clear ha1 hb1)) | (go_at_call 25; go_must (refine (HWd.out _).mono ?_; rintro e w2 ⟨rfl, rfl⟩)) | (go_at_call 26; (with_reducible refine (HAi.out _ HA1.out.bel).mono ?_); go_must (rintro e w3 ⟨rfl, hb3⟩; have ha3 := HA1.out.after hb3; have r30 := ha3.r.cell 0; have r31 := ha3.r.cell 1; have r32 := ha3.r.frozen 0; have r33 := ha3.r.frozen 1; have m30 := ha3.m.cell 0; have m31 := ha3.m.cell 1; simp at r30 r31 m30 m31; have HA3 := Lib.hid ha3; clear ha3 hb3)) | (go_at_call 26; (with_reducible refine (HAp.out _ HA3.out.bel).mono ?_); go_must (rintro e w4 ⟨rfl, hb4⟩; have ha4 := HA3.out.after hb4; have r40 := ha4.r.cell 0; have r41 := ha4.r.cell 1; have r42 := ha4.r.frozen 0; have r43 := ha4.r.frozen 1; have m40 := ha4.m.cell 0; have m41 := ha4.m.cell 1; simp at r40 r41 m40 m41; have HA4 := Lib.hid ha4; clear ha4 hb4)) | (go_at_call 28; (with_reducible refine (HDn.out _ HA4.out.bel).mono ?_); go_must (rintro e w5 ⟨vb, rfl, hvb, hb5⟩; obtain ⟨Ab, cb, rfl⟩ := own_form hvb; have HVB := Lib.hid (own_row hvb); have ha5 := HA4.out.after hb5; have r50 := ha5.r.cell 0; have r51 := ha5.r.cell 1; have r52 := ha5.r.frozen 0; have r53 := ha5.r.frozen 1; have m50 := ha5.m.cell 0; have m51 := ha5.m.cell 1; simp at r50 r51 m50 m51; have HA5 := Lib.hid ha5; clear ha5 hb5 hvb)) | (go_at_call 27; go_must (refine (HHs.out _ _ _ _ _ HVB.out).mono ?_; rintro e w9 ⟨rfl, rfl⟩)) | (go_at_call 29; (with_reducible refine (HHg.out _ HA5.out.bel).mono ?_); go_must (rintro e w6 ⟨rfl, hb6⟩; have ha6 := HA5.out.after hb6; have r60 := ha6.r.cell 0; have r61 := ha6.r.cell 1; have r62 := ha6.r.frozen 0; have r63 := ha6.r.frozen 1; have m60 := ha6.m.cell 0; have m61 := ha6.m.cell 1; simp at r60 r61 m60 m61; have HA6 := Lib.hid ha6; clear ha6 hb6)) | (go_at_call 30; (with_reducible refine (HTw.out _ HA6.out.bel).mono ?_); go_must (rintro e w7 ⟨ov, l, rfl, hown7, hmap7, hb7⟩; obtain ⟨Ao, co, hov⟩ := own_form hown7.own; have hln7 : l.length = n := (by have := congrArg List.length hmap7; rw [List.length_map, HLN0.out] at this; exact this); rw [hln7] at hov; subst hov; have HLN := Lib.hid hln7; have HA7 := Lib.hid (HA6.out.after hb7); have HO7 := Lib.hid (hown7.mono HA6.out.bel.size); have HL7 := Lib.hid hmap7; clear hown7 hmap7 hb7 hln7)))
  obtain ⟨g, hgA⟩ := own_some' HO7.out HLN.out hpos
  subst hgA
  have hsz7 := HA7.out.bel.size
  have hsr := HA7.out.r.lt
  have HR8 : Hid (AR w next A n c w7.heap.size (.slice (some ⟨g, 0, none⟩) n co) l (w7.alloc (.cells #[.int .i64 next, .slice (some ⟨g, 0, none⟩) n co] 24))) := Lib.hid ⟨HA7.out.after (below_more (Below.refl _ _) _), Blk.new _ _ _, HO7.out.after (below_more (Below.refl _ _) _), by omega, by omega⟩
  generalize w7.alloc (.cells #[.int .i64 next, .slice (some ⟨g, 0, none⟩) n co] 24) = X8 at HR8 ⊢
  generalize w7.heap.size = go at HR8 ⊢
  clear hsz7 hsr
  have g0 := HR8.out.out.cell 0
  have g1 := HR8.out.out.cell 1
  simp at g0 g1
  go_upto_region 12 with (go_at_call 31; (with_reducible refine (HTk.out _ _ _ _ HR8.out.own HLN.out HL7.out).mono ?_); go_must (rintro e w9 ⟨rfl, l', ho9, hg9, hm9⟩; have HR9 := Lib.hid (HR8.out.turned ho9 hg9); have HMT := Lib.hid hm9; clear ho9 hg9 hm9))
  have HLT : Hid (l'.length = n) := Lib.hid (by have := congrArg List.length HMT.out; rw [List.length_map, ← HTT.out, takeL_len, HLN0.out] at this; exact this)
  clear g0 g1
  have g2 := HR9.out.out.cell 0
  have g3 := HR9.out.out.cell 1
  simp at g2 g3
  go_upto_region 13 with (go_at_call 32; (with_reducible refine (HMy.out _ _ _ _ HR9.out.own HLT.out HMT.out).mono ?_); go_must (rintro e w10 ⟨rfl, hb10⟩; have HR10 := Lib.hid (HR9.out.after hb10); clear hb10))
  clear g2 g3
  have c0 := HR10.out.a.r.cell 0
  have c1 := HR10.out.a.r.cell 1
  have c2 := HR10.out.a.r.frozen 0
  have c3 := HR10.out.a.r.frozen 1
  simp at c0 c1
  go_wp2_with fail
  (try rw [Exit.noGoto_ret])
  (try simp only [Exit.inBlock, Exit.then])
  refine bodyPost_ret (v := .tuple #[.agg #[.int .i64 0, .slice none 0 0], .int .i64 re]) ?hr rfl ?_
  case hr =>
    simp only [results, hres]
    go_simp
  rw [HE.out]
  exact mv_err HNZ.out ((HR10.out.a.bel.setCell (p := ⟨w.heap.size + 1, 0, none⟩) (by simp) _).setCell (p := ⟨w.heap.size + 1, 1, none⟩) (by simp) _)
set_option maxRecDepth 20000 in
set_option maxHeartbeats 3200000 in
theorem refMove_yesp (w : World) (hi : Nat) (next id parent at_ : Int) (role : ByteArray) (A : Option Addr) (n c : Nat) (nds : List Nd) (h : NodesIn w 0 hi A n c nds) (hh : hi ≤ w.heap.size) (hs : role.size ≤ maxLen) (hf : ∀ nd ∈ nds, Fits 1 nd) (hr : rightB next nds = true) (h0 : parent ≠ 0) (hw : wordB role = true) (i : Nat) (hav : atV nds id = (i : Int)) (j : Nat) (hap : atV nds parent = (j : Int)) (heq : parent ≠ id) (nd : Nd) (hx : ndOf nds id = some nd) (hb : (belowV nds id).contains parent = false) (hpx : parent ≠ 0 → ∃ x, ndOf nds parent = some x) (ri : Int) (hmay : mayV (takeL nds id) parent role at_ (hiV nds id) = 0) (hadm : admV next (takeL nds id) parent role at_ (hiV nds id) 0 = (ri, 0)) (hML : moveL next nds id parent role at_ = putL (takeL nds id) id parent role ri.toNat) (hE : moveE next nds id parent role at_ = 0) :
    Calls Try.prog 7 #[.agg #[.int .i64 next, .slice A n c], .int .i64 id, .int .i64 parent, .string role, .int .i64 at_] w (SetPost w next (moveE next nds id parent role at_) (moveL next nds id parent role at_)) := by
  have hres : Try.f7.results = #[.cell 10 24, .tmp 11] := by kernel_rfl
  have HA0 := Lib.hid (A0.start w next A n c)
  have HRg : Hid (∀ X, Below w.heap.size w X → Calls Try.prog 24 #[.agg #[.int .i64 next, .slice A n c]] X (Ret X (.bool true))) := Lib.hid fun X hX => by
    have := refRight_any X hi next A n c nds (h.below (hX.mono hh)) (Nat.le_trans hh hX.size)
    rw [hr] at this
    exact this
  have HE := Lib.hid hE
  clear hE
  have HWd : Hid (∀ X, Calls Try.prog 25 #[.string role] X (Says X true)) := Lib.hid fun X => by have := refWord_any role X hs; rw [hw] at this; exact this
  have hp0 : (parent != 0) = true := by rw [bne_iff_ne]; exact h0
  have hrm := rightM hr
  have hn4 : n ≤ 4096 := by rw [← h.1]; exact hrm.len
  have HAi : Hid (∀ X, Below w.heap.size w X → Calls Try.prog 26 #[.agg #[.int .i64 next, .slice A n c], .int .i64 id] X (Ret X (.int .i64 i))) := Lib.hid fun X hX => by
    have := refAt_any X hi next id A n c nds (h.below (hX.mono hh)) (Nat.le_trans hh hX.size) hrm.rise hn4
    rw [hav] at this
    exact this
  have HAp : Hid (∀ X, Below w.heap.size w X → Calls Try.prog 26 #[.agg #[.int .i64 next, .slice A n c], .int .i64 parent] X (Ret X (.int .i64 j))) := Lib.hid fun X hX => by
    have := refAt_any X hi next parent A n c nds (h.below (hX.mono hh)) (Nat.le_trans hh hX.size) hrm.rise hn4
    rw [hap] at this
    exact this
  have hj0 : ¬ (j : Int) < 0 := by omega
  have hi0 : ¬ (i : Int) < 0 := by omega
  have hq : (parent == id) = false := by rw [beq_eq_false_iff_ne]; exact heq
  have HDn : Hid (∀ X, Below w.heap.size w X → Calls Try.prog 28 #[.agg #[.int .i64 next, .slice A n c], .int .i64 id] X (ListR X (belowV nds id))) := Lib.hid fun X hX => refDown_any X hi next id A n c nds (h.below (hX.mono hh)) (Nat.le_trans hh hX.size) hrm nd hx
  have HHs : Hid (∀ X lo hi' Aq cq, Row X lo hi' 1 Aq (belowV nds id).length cq (intCells (belowV nds id)) → Calls Try.prog 27 #[.slice Aq (belowV nds id).length cq, .int .i64 parent] X (Says X false)) := Lib.hid fun X lo hi' Aq cq h1 => by rw [← hb]; exact refHas_any X lo hi' Aq _ cq _ parent h1
  obtain ⟨t, ht⟩ : ∃ t, takeL nds id = t := ⟨_, rfl⟩
  have hT : LaxM next t := ht ▸ hrm.lax.take id
  have hh64 := hi_le hrm hx
  obtain ⟨hv, hhv⟩ : ∃ k, hiV nds id = k := ⟨_, rfl⟩
  rw [hhv] at hh64
  rw [ht, hhv] at hmay
  have HHg : Hid (∀ X, Below w.heap.size w X → Calls Try.prog 29 #[.agg #[.int .i64 next, .slice A n c], .int .i64 id] X (Ret X (.int .i64 hv))) := Lib.hid fun X hX => by
    rw [← hhv]; exact refHigh_any X hi next id A n c nds (h.below (hX.mono hh)) (Nat.le_trans hh hX.size) hrm nd hx
  have HTw := Lib.hid fun (X : World) (hX : Below w.heap.size w X) => twin_any X hi next A n c nds (h.below (hX.mono hh)) (Nat.le_trans hh hX.size) hn4 hf
  have HTk : Hid (∀ X g co l, OwnM X w.heap.size (.slice (some ⟨g, 0, none⟩) n co) l → l.length = n → l.map (·.1) = nds → Calls Try.prog 31 #[.agg #[.int .i64 next, .slice (some ⟨g, 0, none⟩) n co], .int .i64 id] X (PutPost X w.heap.size g n co t)) := Lib.hid fun X g co l h1 h2 h3 => by
    subst h3
    rw [← ht]
    exact refTake_any X w.heap.size next id g n co l h1 h2 hrm nd hx (fun h0 => in_kids hrm hx h0)
  have HMy : Hid (∀ X g co l, OwnM X w.heap.size (.slice (some ⟨g, 0, none⟩) n co) l → l.length = n → l.map (·.1) = t → Calls Try.prog 32 #[.agg #[.int .i64 next, .slice (some ⟨g, 0, none⟩) n co], .int .i64 parent, .string role, .int .i64 at_, .int .i64 hv] X (Ret X (.int .i64 0))) := Lib.hid fun X g co l h1 h2 h3 => by
    have := may_lax X X.heap.size next parent at_ role hv (some ⟨g, 0, none⟩) n co t (by rw [← h3]; exact (h1.nodesIn h2).mono (Nat.zero_le _) (Nat.le_refl _)) (Nat.le_refl _) hT hh64 (fun h0 => by
      obtain ⟨x, hx'⟩ := hpx h0
      exact ⟨_, by rw [← ht]; unfold takeL; rw [ndOf_map (takeF_id _ _), hx']; rfl⟩)
    rw [hmay] at this
    exact this
  rw [ht, hhv] at hadm
  have HML := Lib.hid hML
  rw [ht] at HML
  have HPt : Hid (∀ X g co l, OwnM X w.heap.size (.slice (some ⟨g, 0, none⟩) n co) l → l.length = n → l.map (·.1) = t → Calls Try.prog 33 #[.agg #[.int .i64 next, .slice (some ⟨g, 0, none⟩) n co], .int .i64 id, .int .i64 parent, .string role, .int .i64 at_] X (PutPost X w.heap.size g n co (putL t id parent role ri.toNat))) := Lib.hid fun X g co l h1 h2 h3 => by
    have hp : ndOf t id = some (takeF (parV nds id) id nd) := by rw [← ht]; unfold takeL; rw [ndOf_map (takeF_id _ _), hx]; rfl
    exact refPut_ok X w.heap.size next id parent at_ ri role hv 0 g n co l t h1 h2 h3 hT hs _ hp heq hadm next
  have HLN0 : Hid (nds.length = n) := Lib.hid h.1
  have HTT := Lib.hid ht
  have hpos : 0 < n := by rw [← h.1]; obtain ⟨k, _, h3, _⟩ := ndOf_some hx; have := (List.getElem?_eq_some_iff.1 h3).1; omega
  clear h hf hr hrm hav heq hx hb hpx hT ht hhv hmay h0 hw hap hadm hML
  go_enter Try.func7, Try.ntmps7
  go_upto_region 11 with (first | (go_at_call 24; (with_reducible refine (HRg.out _ HA0.out.bel).mono ?_); go_must (rintro e w1 ⟨rfl, hb1⟩; have ha1 := HA0.out.after hb1; have r10 := ha1.r.cell 0; have r11 := ha1.r.cell 1; have r12 := ha1.r.frozen 0; have r13 := ha1.r.frozen 1; have m10 := ha1.m.cell 0; have m11 := ha1.m.cell 1; simp at r10 r11 m10 m11; have HA1 := Lib.hid ha1; clear ha1 hb1)) | (go_at_call 25; go_must (refine (HWd.out _).mono ?_; rintro e w2 ⟨rfl, rfl⟩)) | (go_at_call 26; (with_reducible refine (HAi.out _ HA1.out.bel).mono ?_); go_must (rintro e w3 ⟨rfl, hb3⟩; have ha3 := HA1.out.after hb3; have r30 := ha3.r.cell 0; have r31 := ha3.r.cell 1; have r32 := ha3.r.frozen 0; have r33 := ha3.r.frozen 1; have m30 := ha3.m.cell 0; have m31 := ha3.m.cell 1; simp at r30 r31 m30 m31; have HA3 := Lib.hid ha3; clear ha3 hb3)) | (go_at_call 26; (with_reducible refine (HAp.out _ HA3.out.bel).mono ?_); go_must (rintro e w4 ⟨rfl, hb4⟩; have ha4 := HA3.out.after hb4; have r40 := ha4.r.cell 0; have r41 := ha4.r.cell 1; have r42 := ha4.r.frozen 0; have r43 := ha4.r.frozen 1; have m40 := ha4.m.cell 0; have m41 := ha4.m.cell 1; simp at r40 r41 m40 m41; have HA4 := Lib.hid ha4; clear ha4 hb4)) | (go_at_call 28; (with_reducible refine (HDn.out _ HA4.out.bel).mono ?_); go_must (rintro e w5 ⟨vb, rfl, hvb, hb5⟩; obtain ⟨Ab, cb, rfl⟩ := own_form hvb; have HVB := Lib.hid (own_row hvb); have ha5 := HA4.out.after hb5; have r50 := ha5.r.cell 0; have r51 := ha5.r.cell 1; have r52 := ha5.r.frozen 0; have r53 := ha5.r.frozen 1; have m50 := ha5.m.cell 0; have m51 := ha5.m.cell 1; simp at r50 r51 m50 m51; have HA5 := Lib.hid ha5; clear ha5 hb5 hvb)) | (go_at_call 27; go_must (refine (HHs.out _ _ _ _ _ HVB.out).mono ?_; rintro e w9 ⟨rfl, rfl⟩)) | (go_at_call 29; (with_reducible refine (HHg.out _ HA5.out.bel).mono ?_); go_must (rintro e w6 ⟨rfl, hb6⟩; have ha6 := HA5.out.after hb6; have r60 := ha6.r.cell 0; have r61 := ha6.r.cell 1; have r62 := ha6.r.frozen 0; have r63 := ha6.r.frozen 1; have m60 := ha6.m.cell 0; have m61 := ha6.m.cell 1; simp at r60 r61 m60 m61; have HA6 := Lib.hid ha6; clear ha6 hb6)) | (go_at_call 30; (with_reducible refine (HTw.out _ HA6.out.bel).mono ?_); go_must (rintro e w7 ⟨ov, l, rfl, hown7, hmap7, hb7⟩; obtain ⟨Ao, co, hov⟩ := own_form hown7.own; have hln7 : l.length = n := (by have := congrArg List.length hmap7; rw [List.length_map, HLN0.out] at this; exact this); rw [hln7] at hov; subst hov; have HLN := Lib.hid hln7; have HA7 := Lib.hid (HA6.out.after hb7); have HO7 := Lib.hid (hown7.mono HA6.out.bel.size); have HL7 := Lib.hid hmap7; clear hown7 hmap7 hb7 hln7)))
  obtain ⟨g, hgA⟩ := own_some' HO7.out HLN.out hpos
  subst hgA
  have hsz7 := HA7.out.bel.size
  have hsr := HA7.out.r.lt
  have HR8 : Hid (AR w next A n c w7.heap.size (.slice (some ⟨g, 0, none⟩) n co) l (w7.alloc (.cells #[.int .i64 next, .slice (some ⟨g, 0, none⟩) n co] 24))) := Lib.hid ⟨HA7.out.after (below_more (Below.refl _ _) _), Blk.new _ _ _, HO7.out.after (below_more (Below.refl _ _) _), by omega, by omega⟩
  generalize w7.alloc (.cells #[.int .i64 next, .slice (some ⟨g, 0, none⟩) n co] 24) = X8 at HR8 ⊢
  generalize w7.heap.size = go at HR8 ⊢
  clear hsz7 hsr
  have g0 := HR8.out.out.cell 0
  have g1 := HR8.out.out.cell 1
  simp at g0 g1
  go_upto_region 12 with (go_at_call 31; (with_reducible refine (HTk.out _ _ _ _ HR8.out.own HLN.out HL7.out).mono ?_); go_must (rintro e w9 ⟨rfl, l', ho9, hg9, hm9⟩; have HR9 := Lib.hid (HR8.out.turned ho9 hg9); have HMT := Lib.hid hm9; clear ho9 hg9 hm9))
  have HLT : Hid (l'.length = n) := Lib.hid (by have := congrArg List.length HMT.out; rw [List.length_map, ← HTT.out, takeL_len, HLN0.out] at this; exact this)
  clear g0 g1
  have g2 := HR9.out.out.cell 0
  have g3 := HR9.out.out.cell 1
  simp at g2 g3
  go_upto_region 13 with (go_at_call 32; (with_reducible refine (HMy.out _ _ _ _ HR9.out.own HLT.out HMT.out).mono ?_); go_must (rintro e w10 ⟨rfl, hb10⟩; have HR10 := Lib.hid (HR9.out.after hb10); clear hb10))
  clear g2 g3
  have c0 := HR10.out.out.cell 0
  have c1 := HR10.out.out.cell 1
  simp at c0 c1
  go_upto_region 16 with (go_at_call 33; (with_reducible refine (HPt.out _ _ _ _ HR10.out.own HLT.out HMT.out).mono ?_); go_must (rintro e w11 ⟨rfl, l9, ho9, hg9, hm9⟩; have HR11 := Lib.hid (HR10.out.turned ho9 hg9); have HM9 := Lib.hid hm9; clear ho9 hg9 hm9))
  have HL9 : Hid (l9.length = n) := Lib.hid (by have := congrArg List.length HM9.out; rw [List.length_map, putL_len, ← HTT.out, takeL_len, HLN0.out] at this; exact this)
  have d0 := HR11.out.a.r.cell 0
  have d1 := HR11.out.a.r.cell 1
  have d2 := HR11.out.a.r.frozen 0
  have d3 := HR11.out.a.r.frozen 1
  have d4 := HR11.out.out.cell 0
  have d5 := HR11.out.out.cell 1
  simp at d0 d1 d4 d5
  go_wp2_with fail
  (try rw [Exit.noGoto_ret])
  (try simp only [Exit.inBlock, Exit.then])
  refine bodyPost_ret (v := .tuple #[.agg #[.int .i64 next, .slice (some ⟨g, 0, none⟩) n co], .int .i64 0]) ?hr rfl ?_
  case hr =>
    simp only [results, hres]
    go_simp
  rw [HE.out]
  refine ⟨next, some ⟨g, 0, none⟩, n, co, rfl, (HR11.out.a.bel.setCell (p := ⟨w.heap.size + 1, 0, none⟩) (by simp) _).setCell (p := ⟨w.heap.size + 1, 1, none⟩) (by simp) _, fun h => absurd rfl h, fun _ => ⟨rfl, l9, (HR11.out.own.other HR11.out.a.r 0 _).other (HR11.out.a.r.set_ 0 _) 1 _, HL9.out, by rw [HM9.out, HML.out]⟩⟩
end Go.Proofs.Ytfljndlmafcjeaa
namespace Go.Proofs.Ytfljndlmafcjeaa
open Go Go.RowKit Go.Sort
set_option linter.unusedVariables false
theorem adm_may {next : Int} {t : List Nd} {parent : Int} {role : ByteArray} {at_ : Int} {L : Nat} (hT : LaxM next t) (hp : parent ≠ 0 → ∃ x, ndOf t parent = some x) : (admV next t parent role at_ L 0).2 = mayV t parent role at_ L := by
  have h1 : ¬ (parent ≠ 0 ∧ (ndOf t parent).isNone = true) := by
    rintro ⟨h0, h2⟩
    obtain ⟨x, hx⟩ := hp h0
    rw [hx] at h2; cases h2
  have h4 := hT.len
  have h5 := hT.hi
  unfold admV mayV
  rw [if_neg h1]
  split
  · rfl
  · split
    · rfl
    · rw [if_neg (by omega), if_neg (by omega)]
theorem pre_has {next : Int} {nds : List Nd} (hR : RightM next nds) {id parent : Int} {nd : Nd} (hx : ndOf nds id = some nd) : (preI nds id).contains parent = (parent == id || (belowV nds id).contains parent) := by
  unfold belowV
  rw [preI_eq hR hx, kidsV_of hx, List.contains_cons]
theorem atV_nil {nds : List Nd} {id : Int} (h : ndOf nds id = none) : atV nds id = -1 := by
  unfold atV
  cases hx : ixOf nds id with
  | none => rfl
  | some i =>
    obtain ⟨nd, h1, _⟩ := ixOf_some hx
    unfold ndOf at h
    rw [hx] at h
    have h2 : nds[i]? = none := h
    rw [h1] at h2; cases h2
theorem atV_ix {nds : List Nd} {id : Int} {nd : Nd} (h : ndOf nds id = some nd) : ∃ i : Nat, atV nds id = (i : Int) := by
  obtain ⟨i, h1, _⟩ := ndOf_some h
  exact ⟨i, by unfold atV; rw [h1]⟩
theorem refMove_any (w : World) (hi : Nat) (next id parent at_ : Int) (role : ByteArray) (A : Option Addr) (n c : Nat) (nds : List Nd) (h : NodesIn w 0 hi A n c nds) (hh : hi ≤ w.heap.size) (hs : role.size ≤ maxLen) (hf : ∀ nd ∈ nds, Fits 1 nd) :
    Calls Try.prog 7 #[.agg #[.int .i64 next, .slice A n c], .int .i64 id, .int .i64 parent, .string role, .int .i64 at_] w (SetPost w next (moveE next nds id parent role at_) (moveL next nds id parent role at_)) := by
  cases hr : rightB next nds with
  | false => exact refMove_e29 w hi next id parent at_ role A n c nds h hh hs hr (by unfold moveE; rw [if_pos hr])
  | true =>
    have hrm := rightM hr
    have hr' : ¬ rightB next nds = false := by rw [hr]; simp
    by_cases hw0 : parent ≠ 0 ∧ wordB role = false
    · exact refMove_e2 w hi next id parent at_ role A n c nds h hh hs hr hw0.1 hw0.2 (by
        unfold moveE
        rw [if_neg hr', if_pos (by rw [hw0.2, Bool.or_false, beq_eq_false_iff_ne]; exact hw0.1)])
    · have hw1 : (parent == 0 || wordB role) = true := by
        by_cases h0 : parent = 0
        · rw [h0]; rfl
        · cases hw : wordB role with
          | true => simp
          | false => exact absurd ⟨h0, hw⟩ hw0
      have hww : parent ≠ 0 → wordB role = true := fun h0 => by
        cases hw : wordB role with
        | true => rfl
        | false => exact absurd ⟨h0, hw⟩ hw0
      have hw' : ¬ (parent == 0 || wordB role) = false := by rw [hw1]; simp
      cases hx : ndOf nds id with
      | none =>
        have hE : moveE next nds id parent role at_ = 20 := by unfold moveE; rw [if_neg hr', if_neg hw', if_pos (by rw [hx]; rfl)]
        by_cases h0 : parent = 0
        · exact refMove_e20r w hi next id parent at_ role A n c nds h hh hs hr h0 (atV_nil hx) hE
        · exact refMove_e20p w hi next id parent at_ role A n c nds h hh hs hr h0 (hww h0) (atV_nil hx) hE
      | some nd =>
        obtain ⟨i, hav⟩ := atV_ix hx
        have hx' : ¬ (ndOf nds id).isNone = true := by rw [hx]; simp
        have hpr := pre_has hrm hx (parent := parent)
        by_cases hpn : parent ≠ 0 ∧ ndOf nds parent = none
        · have hc : (preI nds id).contains parent = false := by
            cases hc : (preI nds id).contains parent with
            | false => rfl
            | true =>
              obtain ⟨y, hy⟩ := preI_mem hrm hx (List.contains_iff_mem.1 hc)
              rw [hpn.2] at hy; cases hy
          have ht : ndOf (takeL nds id) parent = none := by unfold takeL; rw [ndOf_map (takeF_id _ _), hpn.2]; rfl
          exact refMove_e20pp w hi next id parent at_ role A n c nds h hh hs hr hpn.1 (hww hpn.1) i hav (atV_nil hpn.2) (by
            unfold moveE
            rw [if_neg hr', if_neg hw', if_neg hx', if_neg (by rw [hc]; simp)]
            unfold admV
            rw [if_pos ⟨hpn.1, by rw [ht]; rfl⟩])
        · have hpx : parent ≠ 0 → ∃ x, ndOf nds parent = some x := fun h0 => by
            cases hy : ndOf nds parent with
            | none => exact absurd ⟨h0, hy⟩ hpn
            | some x => exact ⟨x, rfl⟩
          have hap : parent ≠ 0 → ∃ j : Nat, atV nds parent = (j : Int) := fun h0 => by
            obtain ⟨x, hy⟩ := hpx h0
            exact atV_ix hy
          by_cases hq : parent = id
          · have hE : moveE next nds id parent role at_ = 21 := by
              unfold moveE
              rw [if_neg hr', if_neg hw', if_neg hx', if_pos (by rw [hpr, hq]; simp)]
            by_cases h0 : parent = 0
            · exact refMove_e21r w hi next id parent at_ role A n c nds h hh hs hr h0 i hav hq hE
            · obtain ⟨j, hj⟩ := hap h0
              exact refMove_e21p w hi next id parent at_ role A n c nds h hh hs hr h0 (hww h0) i hav j hj hq hE
          · cases hb : (belowV nds id).contains parent with
            | true =>
              have hE : moveE next nds id parent role at_ = 21 := by
                unfold moveE
                rw [if_neg hr', if_neg hw', if_neg hx', if_pos (by rw [hpr, hb, Bool.or_true])]
              by_cases h0 : parent = 0
              · exact refMove_e21br w hi next id parent at_ role A n c nds h hh hs hr h0 i hav hq nd hx hb hE
              · obtain ⟨j, hj⟩ := hap h0
                exact refMove_e21bp w hi next id parent at_ role A n c nds h hh hs hr h0 (hww h0) i hav j hj hq nd hx hb hE
            | false =>
              have hT : LaxM next (takeL nds id) := hrm.lax.take id
              have hp2 : parent ≠ 0 → ∃ x, ndOf (takeL nds id) parent = some x := fun h0 => by
                obtain ⟨x, hy⟩ := hpx h0
                exact ⟨_, by unfold takeL; rw [ndOf_map (takeF_id _ _), hy]; rfl⟩
              have ham := adm_may (role := role) (at_ := at_) (L := hiV nds id) hT hp2
              have hE : moveE next nds id parent role at_ = mayV (takeL nds id) parent role at_ (hiV nds id) := by
                unfold moveE
                rw [if_neg hr', if_neg hw', if_neg hx', if_neg (by rw [hpr, hb, Bool.or_false, beq_eq_false_iff_ne.2 hq]; simp), ham]
              obtain ⟨re, hre⟩ : ∃ re, mayV (takeL nds id) parent role at_ (hiV nds id) = re := ⟨_, rfl⟩
              by_cases hz : re = 0
              · subst hz
                obtain ⟨rr, hrr⟩ : ∃ rr, admV next (takeL nds id) parent role at_ (hiV nds id) 0 = rr := ⟨_, rfl⟩
                obtain ⟨ri, r2⟩ := rr
                obtain rfl : r2 = 0 := by
                  have := ham
                  rw [hrr, hre] at this
                  exact this
                have hML : moveL next nds id parent role at_ = putL (takeL nds id) id parent role ri.toNat := by unfold moveL; rw [hrr]
                rw [hre] at hE
                by_cases h0 : parent = 0
                · exact refMove_yesr w hi next id parent at_ role A n c nds h hh hs hf hr h0 i hav hq nd hx hb hpx ri hre hrr hML hE
                · obtain ⟨j, hj⟩ := hap h0
                  exact refMove_yesp w hi next id parent at_ role A n c nds h hh hs hf hr h0 (hww h0) i hav j hj hq nd hx hb hpx ri hre hrr hML hE
              · rw [hre] at hE
                by_cases h0 : parent = 0
                · exact refMove_admr w hi next id parent at_ role A n c nds h hh hs hf hr h0 i hav hq nd hx hb hpx re hz hre hE
                · obtain ⟨j, hj⟩ := hap h0
                  exact refMove_admp w hi next id parent at_ role A n c nds h hh hs hf hr h0 (hww h0) i hav j hj hq nd hx hb hpx re hz hre hE
end Go.Proofs.Ytfljndlmafcjeaa

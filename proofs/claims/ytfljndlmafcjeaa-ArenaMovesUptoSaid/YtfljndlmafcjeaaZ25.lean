/-
  WALKS: a node is copied: the document's, below a parent.
-/
import Derived.Test.YtfljndlmafcjeaaZ24
namespace Go.Proofs.Ytfljndlmafcjeaa
open Go Go.RowKit Go.Sort
set_option linter.unusedVariables false
attribute [local go_sem ↓] Go.wp_at_zero Go.wp_at_succ
set_option maxRecDepth 100000 in
set_option maxHeartbeats 12800000 in
theorem refCopy_yesp (w : World) (hi : Nat) (next id parent at_ : Int) (role : ByteArray) (A : Option Addr) (n c : Nat) (nds : List Nd) (h : NodesIn w 0 hi A n c nds) (hh : hi ≤ w.heap.size) (hs : role.size ≤ maxLen) (hf : ∀ nd ∈ nds, Fits 1 nd) (hr : rightB next nds = true) (h0 : parent ≠ 0) (hw : wordB role = true) (i : Nat) (hav : atV nds id = (i : Int)) (j : Nat) (hap : atV nds parent = (j : Int)) (nd0 : Nd) (hx : ndOf nds id = some nd0) (hpx : parent ≠ 0 → ∃ x, ndOf nds parent = some x) (hmay : mayV nds parent role at_ (hiV nds id) = 0) (ri : Int) (hadm : admV next nds parent role at_ (hiV nds id) (preI nds id).length = (ri, 0)) (hE : copyE next nds id parent role at_ = 0) :
    Calls Try.prog 9 #[.agg #[.int .i64 next, .slice A n c], .int .i64 id, .int .i64 parent, .string role, .int .i64 at_] w (CopyPost w next nds id parent role at_) := by
  have hres : Try.f9.results = #[.cell 10 24, .tmp 11, .tmp 12] := by kernel_rfl
  have HA0 := Lib.hid (A0.start w next A n c)
  have HRg : Hid (∀ X, Below w.heap.size w X → Calls Try.prog 24 #[.agg #[.int .i64 next, .slice A n c]] X (Ret X (.bool true))) := Lib.hid fun X hX => by
    have := refRight_any X hi next A n c nds (h.below (hX.mono hh)) (Nat.le_trans hh hX.size)
    rw [hr] at this
    exact this
  have HE := Lib.hid hE
  clear hE
  have HWd : Hid (∀ X, Calls Try.prog 25 #[.string role] X (Says X true)) := Lib.hid fun X => by have := refWord_any role X hs; rw [hw] at this; exact this
  have hp0 : (parent != 0) = true := by rw [bne_iff_ne]; exact h0
  have hrm := rightM hr
  have hn4 : n ≤ 4096 := by rw [← h.1]; exact hrm.len
  have HAi : Hid (∀ X, Below w.heap.size w X → Calls Try.prog 26 #[.agg #[.int .i64 next, .slice A n c], .int .i64 id] X (Ret X (.int .i64 i))) := Lib.hid fun X hX => by
    have := refAt_any X hi next id A n c nds (h.below (hX.mono hh)) (Nat.le_trans hh hX.size) hrm.rise hn4
    rw [hav] at this
    exact this
  have HAp : Hid (∀ X, Below w.heap.size w X → Calls Try.prog 26 #[.agg #[.int .i64 next, .slice A n c], .int .i64 parent] X (Ret X (.int .i64 j))) := Lib.hid fun X hX => by
    have := refAt_any X hi next parent A n c nds (h.below (hX.mono hh)) (Nat.le_trans hh hX.size) hrm.rise hn4
    rw [hap] at this
    exact this
  have hj0 : ¬ (j : Int) < 0 := by omega
  have hi0 : ¬ (i : Int) < 0 := by omega
  obtain ⟨hv, hhv⟩ : ∃ k, hiV nds id = k := ⟨_, rfl⟩
  have hh64 := hi_le hrm hx
  rw [hhv] at hh64 hmay
  have HHg : Hid (∀ X, Below w.heap.size w X → Calls Try.prog 29 #[.agg #[.int .i64 next, .slice A n c], .int .i64 id] X (Ret X (.int .i64 hv))) := Lib.hid fun X hX => by
    rw [← hhv]; exact refHigh_any X hi next id A n c nds (h.below (hX.mono hh)) (Nat.le_trans hh hX.size) hrm nd0 hx
  have HMy : Hid (∀ X, Below w.heap.size w X → Calls Try.prog 32 #[.agg #[.int .i64 next, .slice A n c], .int .i64 parent, .string role, .int .i64 at_, .int .i64 hv] X (Ret X (.int .i64 0))) := Lib.hid fun X hX => by
    have := may_lax X hi next parent at_ role hv A n c nds (h.below (hX.mono hh)) (Nat.le_trans hh hX.size) hrm.lax hh64 hpx
    rw [hmay] at this
    exact this
  have HDn : Hid (∀ X, Below w.heap.size w X → Calls Try.prog 28 #[.agg #[.int .i64 next, .slice A n c], .int .i64 id] X (ListR X (belowV nds id))) := Lib.hid fun X hX => refDown_any X hi next id A n c nds (h.below (hX.mono hh)) (Nat.le_trans hh hX.size) hrm nd0 hx
  have hpb := pre_below hrm hx
  obtain ⟨lb, hlb⟩ : ∃ lb, belowV nds id = lb := ⟨_, rfl⟩
  rw [hlb] at HDn hpb
  obtain ⟨S, hS⟩ : ∃ S, preI nds id = S := ⟨_, rfl⟩
  rw [hS] at hpb
  have HPB := Lib.hid hpb
  have hSl : S.length = lb.length + 1 := by rw [← hpb]; rfl
  have HSL := Lib.hid hSl
  have hS4 : S.length ≤ 4096 := by rw [← hS]; exact Nat.le_trans (preI_len hrm hx) hrm.len
  have hlb4 : lb.length + 1 ≤ 4096 := by omega
  rw [hhv, hS] at hadm
  have hlo := hrm.lo
  have hhn := hrm.hi
  have hfit := adm_lax hrm.lax hadm
  have hfit1 := hfit.2.2.1
  have hfit2 := hfit.2.2.2.1
  have hnl : nds.length = n := h.1
  have hnS : n + S.length ≤ 4096 := by omega
  have hxS : next + S.length ≤ 1048577 := by omega
  have HLN0 := Lib.hid hnl
  obtain ⟨j0, hji, hy0, hy1, hy2⟩ := info_parts intInfo
  obtain ⟨i0, hi0', hz0, hz1, hz2⟩ := info_parts nodeInfo
  have hS0 : 0 < S.length := by omega
  obtain ⟨cs, hcs, _⟩ := cpsV_head (next := next) (p0 := 0) (nds := nds) (S := S) (k := S.length) hS0
  obtain ⟨c0, hc0⟩ : ∃ c0, cpNd next S 0 0 (ndD nds (S.getD 0 0)) = c0 := ⟨_, rfl⟩
  rw [hc0] at hcs
  have HBh : Behind next nds (c0 :: cs) := ⟨hrm.rise, hlo, hrm.lt, fun i x hi' => cpsV_id (p0 := 0) (nds := nds) (S := S) (k := S.length) (by rw [hcs]; exact hi'), by rw [← hcs, cpsV_len]; exact hfit1⟩
  have HCL : Hid (copyL next nds id parent role at_ = inKid nds parent ri.toNat next ++ { c0 with par := parent, role := role } :: cs) := Lib.hid (copyL_of (p0 := 0) (by rw [hS]; exact hcs) (by rw [hS, hhv, hadm]))
  have HCLn : Hid ((copyL next nds id parent role at_).length = n + S.length) := Lib.hid (by
    have h1 := cpsV_len next nds S 0 S.length
    rw [hcs, List.length_cons] at h1
    rw [HCL.out, List.length_append, inKid_len, List.length_cons, hnl, h1])
  have HPu : Hid (∀ X g c l, OwnM X w.heap.size (.slice (some ⟨g, 0, none⟩) (n + S.length) c) l → l.length = n + S.length → l.map (·.1) = nds ++ cpsV next nds S 0 S.length → Calls Try.prog 33 #[.agg #[.int .i64 (next + S.length), .slice (some ⟨g, 0, none⟩) (n + S.length) c], .int .i64 next, .int .i64 parent, .string role, .int .i64 at_] X (PutPost X w.heap.size g (n + S.length) c (copyL next nds id parent role at_))) := Lib.hid fun X g c l h1 h2 h3 => by
    rw [HCL.out]
    exact refPut_new X w.heap.size next parent at_ ri role hv S.length g (n + S.length) c l nds cs c0 h1 h2 (by rw [h3, hcs]) hrm.lax HBh hs hadm (next + S.length)
  have HZL : Hid ((preI nds id).length = S.length) := Lib.hid (by rw [hS])
  have HTw := Lib.hid fun (X : World) (hX : Below w.heap.size w X) => twin_any X hi next A n c nds (h.below (hX.mono hh)) (Nat.le_trans hh hX.size) hn4 hf
  have HSM : Hid (∀ k y, S[k]? = some y → ∃ i nd, PN next nds S nd0 k y i nd) := Lib.hid fun k y hy => part_node hrm hx hS hy
  have HR := Lib.hid hrm
  have HN := Lib.hid h
  have HFI := Lib.hid hf
  have g1 : decide ((4096 : Int) < (n : Int) + (S.length : Int)) = false := by rw [decide_eq_false_iff_not]; omega
  have g2 : ¬ (4096 : Int) < (n : Int) + (S.length : Int) := by omega
  have g3 : decide ((1048577 : Int) < next + (S.length : Int)) = false := by rw [decide_eq_false_iff_not]; omega
  have g4 : ¬ (1048577 : Int) < next + (S.length : Int) := by omega
  clear h hf hr hrm hav hx hpx hmay hhv hh64 hlb hS hpb hSl hadm hfit hfit1 hfit2 hnl hcs hc0 HBh HCL h0 hw hap
  go_enter Try.func9, Try.ntmps9
  go_upto_region 7 with (first | (go_at_call 24; (with_reducible refine (HRg.out _ HA0.out.bel).mono ?_); go_must (rintro e w1 ⟨rfl, hb1⟩; have ha1 := HA0.out.after hb1; have r10 := ha1.r.cell 0; have r11 := ha1.r.cell 1; have r12 := ha1.r.frozen 0; have r13 := ha1.r.frozen 1; have m10 := ha1.m.cell 0; have m11 := ha1.m.cell 1; simp at r10 r11 m10 m11; have HA1 := Lib.hid ha1; clear ha1 hb1)) | (go_at_call 25; go_must (refine (HWd.out _).mono ?_; rintro e w2 ⟨rfl, rfl⟩)) | (go_at_call 26; (with_reducible refine (HAi.out _ HA1.out.bel).mono ?_); go_must (rintro e w3 ⟨rfl, hb3⟩; have ha3 := HA1.out.after hb3; have r30 := ha3.r.cell 0; have r31 := ha3.r.cell 1; have r32 := ha3.r.frozen 0; have r33 := ha3.r.frozen 1; have m30 := ha3.m.cell 0; have m31 := ha3.m.cell 1; simp at r30 r31 m30 m31; have HA3 := Lib.hid ha3; clear ha3 hb3)) | (go_at_call 26; (with_reducible refine (HAp.out _ HA3.out.bel).mono ?_); go_must (rintro e w4 ⟨rfl, hb4⟩; have ha4 := HA3.out.after hb4; have r40 := ha4.r.cell 0; have r41 := ha4.r.cell 1; have r42 := ha4.r.frozen 0; have r43 := ha4.r.frozen 1; have m40 := ha4.m.cell 0; have m41 := ha4.m.cell 1; simp at r40 r41 m40 m41; have HA4 := Lib.hid ha4; clear ha4 hb4)))
  have f3 := (HA4.out.m.cell 0).trans (show _ = some (.int .i64 next) from rfl)
  have f4 := (HA4.out.m.cell 1).trans (show _ = some (.slice A n c) from rfl)
  have q3 := cell_regrown f3
  have q4 := cell_regrown f4
  have HGq := Lib.hid fun (d : Nat) (os : Array Obj) => HHg.out _ (HA4.out.bel.trans ((below_regrown _ d os).mono HA4.out.bel.size))
  have HMq := Lib.hid fun (d : Nat) (os : Array Obj) => HMy.out _ (HA4.out.bel.trans ((below_regrown _ d os).mono HA4.out.bel.size))
  clear f3 f4
  refine wp_region_quiet_below (by kernel_rfl) (by kernel_rfl) ?_
  repeat (go_big_quiet_step ((first | (go_at_call 29; exact regrown_ret (HGq.out _ _)) | (go_at_call 32; exact regrown_ret (HMq.out _ _)))))
  refine wpQuiet_nil ?_
  intro _ hw'
  obtain ⟨⟨dq, osq⟩, hw''⟩ := hw'
  subst hw''
  have HZ := Lib.hid (HA4.out.after (below_regrown _ dq osq))
  generalize grow (redrawn _ dq) osq = wz at HZ ⊢
  clear q3 q4
  have c0 := HZ.out.r.cell 0
  have c1 := HZ.out.r.cell 1
  have c2 := HZ.out.r.frozen 0
  have c3 := HZ.out.r.frozen 1
  have c4 := HZ.out.m.cell 0
  have c5 := HZ.out.m.cell 1
  simp at c0 c1 c4 c5
  go_upto_region 13 with (first | (at_builtin; (with_reducible show wpList _ _ _ (⟨some 63, _, _, _, _, _⟩ :: _) _ _); go_must (refine wpList_app _ rfl (.tmp 60) (.tmp 62) _ rfl w.heap.size 3 j0 _ 1 8 Try.underlying41 hji hy0 hy1 hy2 rfl (by omega) (.slice none 0 0) 0 [] rfl ⟨by simp, .inl ⟨rfl, rfl⟩⟩ wz.heap.size (wz.heap.size + 1) (some ⟨wz.heap.size, 0, none⟩) 1 1 [.int .i64 id] rfl (row_blk (n := 1) (Blk.new' rfl) rfl (Nat.le_refl _) (by unfold maxLen; omega)) (by simp [Value.oneCell']) (by unfold maxLen; omega) (by omega) (Nat.le_trans HZ.out.bel.size (by simp)) ?_); go_must (intro v8 w8 hown8 hg8 _; have HP8 := Lib.hid (PA.first (HZ.out.after (below_more (Below.refl _ _) _)) hg8 hown8); have e80 := HP8.out.a.m.cell 0; have e81 := HP8.out.a.m.cell 1; simp at e80 e81; clear hown8 hg8)) | (go_at_call 28; (with_reducible refine (HDn.out _ HP8.out.a.bel).mono ?_); go_must (rintro e w9 ⟨vb, rfl, hvb, hb9⟩; obtain ⟨Ab, cb, rfl⟩ := own_form hvb; have HVB := Lib.hid (own_row hvb); have HP9 := Lib.hid (HP8.out.after hb9); clear hb9 hvb)) | (at_builtin; (with_reducible show wpList _ _ _ (⟨some 68, _, _, _, _, _⟩ :: _) _ _); go_must (refine wpList_app _ rfl (.tmp 64) (.tmp 67) _ rfl w.heap.size 3 j0 _ 1 8 Try.underlying41 hji hy0 hy1 hy2 rfl (by omega) v8 1 (intCells [id]) rfl HP9.out.p _ _ Ab lb.length cb (intCells lb) rfl HVB.out (intCells_one _) (by unfold maxLen; omega) (by omega) HP9.out.a.bel.size ?_); go_must (intro v10 w10 hown10 hg10 _; have HP10 := Lib.hid (HP9.out.more hg10 hown10 HPB.out HSL.out); have d4 := HP10.out.a.m.cell 0; have d5 := HP10.out.a.m.cell 1; simp at d4 d5; clear hown10 hg10)))
  obtain ⟨Al, cl, rfl⟩ := own_form HP10.out.p
  obtain ⟨gl, rfl⟩ : ∃ gl, Al = some ⟨gl, 0, none⟩ := by
    rcases HP10.out.p.2 with ⟨_, h2⟩ | ⟨g, cap, cur, hv', _⟩
    · omega
    · injection hv' with h3
      exact ⟨g, h3⟩
  have hclm := (own_row HP10.out.p).2
  have hcl1 := hclm.1
  have hcl2 := hclm.2.1
  unfold maxLen at hcl2
  go_upto_region 15 with (fail)
  clear c0 c1 c2 c3 c4 c5 e80 e81 g1 g2 g3 g4 hclm
  go_upto_region 16 with (go_at_call 30; (with_reducible refine (HTw.out _ HP10.out.a.bel).mono ?_); go_must (rintro e w11 ⟨ov, l, rfl, hown11, hmap11, hb11⟩; obtain ⟨Ao, co, hov⟩ := own_form hown11.own; subst hov; have HP11 := Lib.hid (HP10.out.after hb11); have HO11 := Lib.hid (hown11.mono HP10.out.a.bel.size); have HL11 := Lib.hid hmap11; clear hown11 hmap11 hb11))
  have hsz := HP11.out.a.bel.size
  have hsr := HP11.out.a.r.lt
  have HF0 : Hid (RC w next A n c w11.heap.size (.slice (some ⟨gl, 0, none⟩) S.length cl) S next (.slice Ao l.length co) (.slice Ao l.length co) l (w11.alloc (.cells #[.int .i64 next, .slice Ao l.length co] 24))) := Lib.hid ⟨HP11.out.after (below_more (Below.refl _ _) _), Blk.new _ _ _, HO11.out.after (below_more (Below.refl _ _) _), hsz, by omega, by omega⟩
  clear hsz hsr d4 d5 HP11 HO11 HP10 HP9 HP8
  generalize w11.alloc (.cells #[.int .i64 next, .slice Ao l.length co] 24) = X12 at HF0 ⊢
  generalize w11.heap.size = go at HF0 ⊢
  go_wp2_with fail
  go_loopw [16] (fun v16 wr => ∃ (k : Nat) (v : Value) (lo : List (Nd × Leaf)), k ≤ S.length ∧ v16 = .int .i64 k ∧ RC w next A n c go (.slice (some ⟨gl, 0, none⟩) S.length cl) S next v v lo wr ∧ Hid (lo.map (·.1) = nds ++ cpsV next nds S 0 k)) (fun v _ => S.length - (intOf v).toNat)
  case atStart => exact ⟨0, _, l, Nat.zero_le _, rfl, HF0.out, Lib.hid (by rw [HL11.out, cpsV_zero, List.append_nil])⟩
  case round =>
    clear HF0
    obtain ⟨k, v, lo, hk, rfl, F, HT⟩ := hrel
    rename World => wr
    have HF := Lib.hid F
    clear F
    by_cases hlt : k < S.length
    · obtain ⟨y, hy⟩ : ∃ y, S[k]? = some y := ⟨S[k], List.getElem?_eq_getElem _⟩
      have hlol : lo.length = n + k := by have := congrArg List.length HT.out; rw [List.length_map, List.length_append, cpsV_len, HLN0.out] at this; exact this
      have hlo1 : lo.length + 1 ≤ 4096 := by omega
      clear hlol
      obtain ⟨ii, nd, P⟩ := HSM.out k y hy
      have HY := Lib.hid hy
      have HND := Lib.hid P.nd_
      have hin : ii < n := by rw [← HN.out.1]; exact (List.getElem?_eq_some_iff.1 P.at_).1
      obtain ⟨b0, o0, nd2, Lk, hA, _, hb0, hg2, hat, hlf⟩ := HN.out.at_ hin
      obtain rfl : nd = nd2 := by rw [P.at_] at hg2; injection hg2
      subst hA
      have HAt : Hid (∀ X, Below w.heap.size w X → Calls Try.prog 26 #[.agg #[.int .i64 next, .slice (some ⟨b0, o0, none⟩) n c], .int .i64 y] X (Ret X (.int .i64 ii))) := Lib.hid fun X hX => by
        have h3 := refAt_any X hi next y (some ⟨b0, o0, none⟩) n c nds (HN.out.below (hX.mono hh)) (Nat.le_trans hh hX.size) HR.out.rise hn4
        rw [show atV nds y = ii from by unfold atV; rw [P.ix]] at h3
        exact h3
      have HON := Lib.hid fun (X : World) (hX : Below w.heap.size w X) => refNode_any X hi nd Lk (hlf.below (hX.mono hh)) (Nat.le_trans hh hX.size) (HFI.out nd (List.mem_of_getElem? P.at_))
      have HSof : Hid (∀ X, Below wr.heap.size wr X → X.cell? ⟨w.heap.size, 0, none⟩ = some (.int .i64 next) ∧ X.cell? ⟨w.heap.size, 1, none⟩ = some (.slice (some ⟨b0, o0, none⟩) n c) ∧ X.cell? ⟨gl, k, none⟩ = some (.int .i64 y) ∧ X.cell? ⟨b0, o0 + ii * 7, none⟩ = some (.int .i64 nd.id) ∧ X.cell? ⟨b0, o0 + ii * 7 + 1, none⟩ = some (.string nd.con) ∧ X.cell? ⟨b0, o0 + ii * 7 + 2, none⟩ = some (.int .i64 nd.par) ∧ X.cell? ⟨b0, o0 + ii * 7 + 3, none⟩ = some (.string nd.role) ∧ X.cell? ⟨b0, o0 + ii * 7 + 4, none⟩ = some (.slice Lk.p.A Lk.p.n Lk.p.c) ∧ X.cell? ⟨b0, o0 + ii * 7 + 5, none⟩ = some (.slice Lk.k.A Lk.k.n Lk.k.c) ∧ X.cell? ⟨b0, o0 + ii * 7 + 6, none⟩ = some (.slice Lk.r.A Lk.r.n Lk.r.c)) := Lib.hid fun X hX => by
        have h1 := HF.out.after hX
        have h2 := hat.below h1.p.a.bel (by omega)
        refine ⟨(h1.p.a.m.cell 0).trans rfl, (h1.p.a.m.cell 1).trans rfl, ?_, h2.c0, h2.c1, h2.c2, h2.c3, h2.c4, h2.c5, h2.c6⟩
        rw [World.ownsRow.cellAt h1.p.p k (by omega)]
        exact intCells_get hy
      have HX := Lib.hid (below_drew1 wr)
      clear hy P hg2 hat hlf
      obtain ⟨⟨Aa, na, ca⟩, ⟨Ab, nb, cb⟩, ⟨Ac, nc, cc⟩⟩ := Lk
      simp only at HSof HON
      go_upto_region 19 with (fail)
      go_cut [17] (fun s17 wx => ∃ (gn : Nat) (A1 A2 A3 : Option Addr) (n1 n2 n3 k1 k2 k3 : Nat), s17 = .pointer (some ⟨gn, 0, none⟩) ∧ Hid (CN wr gn nd ⟨⟨A1, n1, k1⟩, ⟨A2, n2, k2⟩, ⟨A3, n3, k3⟩⟩ wx))
      case first =>
        refine wp_region_held_tail 12 (fun w' => w'.cell? ⟨w.heap.size, 0, none⟩ = some (.int .i64 next) ∧ w'.cell? ⟨w.heap.size, 1, none⟩ = some (.slice (some ⟨b0, o0, none⟩) n c) ∧ w'.cell? ⟨gl, k, none⟩ = some (.int .i64 y) ∧ w'.cell? ⟨b0, o0 + ii * 7, none⟩ = some (.int .i64 nd.id) ∧ w'.cell? ⟨b0, o0 + ii * 7 + 1, none⟩ = some (.string nd.con) ∧ w'.cell? ⟨b0, o0 + ii * 7 + 2, none⟩ = some (.int .i64 nd.par) ∧ w'.cell? ⟨b0, o0 + ii * 7 + 3, none⟩ = some (.string nd.role) ∧ w'.cell? ⟨b0, o0 + ii * 7 + 4, none⟩ = some (.slice Aa na ca) ∧ w'.cell? ⟨b0, o0 + ii * 7 + 5, none⟩ = some (.slice Ab nb cb) ∧ w'.cell? ⟨b0, o0 + ii * 7 + 6, none⟩ = some (.slice Ac nc cc)) (by kernel_rfl) (by kernel_rfl) ?hSt (fun hHeld => ?qt0)
        case hSt => exact HSof.out _ HX.out
        case qt0 =>
          generalize wr.drew = wd at HX hHeld ⊢
          simp only [List.take_succ_cons, List.take_zero, List.drop_succ_cons, List.drop_zero]
          refine wpAnyH_take (i := 0) (v := (.pointer (some ⟨w.heap.size, 1, none⟩))) rfl (by kernel_rfl) (by kernel_rfl) (by kernel_rfl) (fun _ _ _ h => h) (Or.inl ⟨by rfl, ?yt_1⟩) (by assumption) ?qt_1
          case yt_1 => (intro w hSw; (try dsimp only at hSw); go_simp)
          case qt_1 =>
            (try simp only [Act.put]); (try simp only [List.setIfInBounds_toArray])
            refine wpAnyH_take (i := 1) (v := (.slice (some ⟨b0, o0, none⟩) n c)) rfl (by kernel_rfl) (by kernel_rfl) (by kernel_rfl) (fun _ _ _ h => h) (Or.inl ⟨by rfl, ?yt_2⟩) (by assumption) ?qt_2
            case yt_2 => (intro w hSw; (try dsimp only at hSw); go_simp)
            case qt_2 =>
              (try simp only [Act.put]); (try simp only [List.setIfInBounds_toArray])
              refine wpAnyH_take (i := 2) (v := (.agg #[.int .i64 next, .slice (some ⟨b0, o0, none⟩) n c])) rfl (by kernel_rfl) (by kernel_rfl) (by kernel_rfl) (fun _ _ _ h => h) (Or.inl ⟨by rfl, ?yt_3⟩) (by assumption) ?qt_3
              case yt_3 => (intro w hSw; (try dsimp only at hSw); go_simp)
              case qt_3 =>
                (try simp only [Act.put]); (try simp only [List.setIfInBounds_toArray])
                refine wpAnyH_take (i := 3) (v := (.slice (some ⟨gl, 0, none⟩) S.length cl)) rfl (by kernel_rfl) (by kernel_rfl) (by kernel_rfl) (fun _ _ _ h => h) (Or.inl ⟨by rfl, ?yt_4⟩) (by assumption) ?qt_4
                case yt_4 => (intro w hSw; (try dsimp only at hSw); go_simp)
                case qt_4 =>
                  (try simp only [Act.put]); (try simp only [List.setIfInBounds_toArray])
                  refine wpAnyH_take (i := 4) (v := (.int .i64 k)) rfl (by kernel_rfl) (by kernel_rfl) (by kernel_rfl) (fun _ _ _ h => h) (Or.inl ⟨by rfl, ?yt_5⟩) (by assumption) ?qt_5
                  case yt_5 => (intro w hSw; (try dsimp only at hSw); go_simp)
                  case qt_5 =>
                    (try simp only [Act.put]); (try simp only [List.setIfInBounds_toArray])
                    refine wpAnyH_take (i := 5) (v := (.pointer (some ⟨gl, k, none⟩))) rfl (by kernel_rfl) (by kernel_rfl) (by kernel_rfl) (fun _ _ _ h => h) (Or.inl ⟨by rfl, ?yt_6⟩) (by assumption) ?qt_6
                    case yt_6 => (intro w hSw; (try dsimp only at hSw); go_simp)
                    case qt_6 =>
                      (try simp only [Act.put]); (try simp only [List.setIfInBounds_toArray])
                      refine wpAnyH_take (i := 6) (v := (.int .i64 y)) rfl (by kernel_rfl) (by kernel_rfl) (by kernel_rfl) (fun _ _ _ h => h) (Or.inl ⟨by rfl, ?yt_7⟩) (by assumption) ?qt_7
                      case yt_7 => (intro w hSw; (try dsimp only at hSw); go_simp)
                      case qt_7 =>
                        (try simp only [Act.put]); (try simp only [List.setIfInBounds_toArray])
                        refine wpAnyH_ready (rs := [7, 11]) (by kernel_rfl) (by simp) ?_
                        refine AllReadyH.cons rfl (fun K hK => ?st_8) ?mt_8
                        case st_8 =>
                          (refine step_call _ (by rfl) 26 #[.agg #[.int .i64 next, .slice (some ⟨b0, o0, none⟩) n c], .int .i64 y] (by go_simp) (HAt.out _ (HF.out.after HX.out).p.a.bel) ?_; rintro e Yb ⟨rfl, hbb⟩; refine ⟨_, rfl, ?_⟩; replace HX := Lib.hid (HX.out.trans (hbb.mono HX.out.size)); clear hbb)
                          refine hK.out _ _ ?kt_8 (fun hHeld => ?qt_8)
                          case kt_8 => ((try dsimp only); exact HSof.out _ HX.out)
                          case qt_8 =>
                            clear hK K
                            (try simp only [Act.put]); (try simp only [List.setIfInBounds_toArray])
                            refine wpAnyH_take (i := 8) (v := (.pointer (some ⟨b0, o0 + ii * 7, none⟩))) rfl (by kernel_rfl) (by kernel_rfl) (by kernel_rfl) (fun _ _ _ h => h) (Or.inl ⟨by rfl, ?yt_9⟩) (by assumption) ?qt_9
                            case yt_9 => (intro w hSw; (try dsimp only at hSw); go_simp)
                            case qt_9 =>
                              (try simp only [Act.put]); (try simp only [List.setIfInBounds_toArray])
                              refine wpAnyH_take (i := 9) (v := (.agg #[.int .i64 nd.id, .string nd.con, .int .i64 nd.par, .string nd.role, .slice Aa na ca, .slice Ab nb cb, .slice Ac nc cc])) rfl (by kernel_rfl) (by kernel_rfl) (by kernel_rfl) (fun _ _ _ h => h) (Or.inl ⟨by rfl, ?yt_10⟩) (by assumption) ?qt_10
                              case yt_10 => (intro w hSw; (try dsimp only at hSw); go_simp)
                              case qt_10 =>
                                (try simp only [Act.put]); (try simp only [List.setIfInBounds_toArray])
                                refine wpAnyH_ready (rs := [10, 11]) (by kernel_rfl) (by simp) ?_
                                refine AllReadyH.cons rfl (fun K hK => ?st_11) ?mt_11
                                case st_11 =>
                                  (refine step_call _ (by rfl) 35 #[.agg #[.int .i64 nd.id, .string nd.con, .int .i64 nd.par, .string nd.role, .slice Aa na ca, .slice Ab nb cb, .slice Ac nc cc]] (by go_simp) (HON.out _ (HF.out.after HX.out).p.a.bel) ?_; rintro e Yc ⟨⟨⟨A1, n1, k1⟩, ⟨A2, n2, k2⟩, ⟨A3, n3, k3⟩⟩, rfl, hl3, hb3⟩; refine ⟨_, rfl, ?_⟩; have HL3 := Lib.hid (hl3.mono HX.out.size); replace HX := Lib.hid (HX.out.trans (hb3.mono HX.out.size)); clear hl3 hb3)
                                  refine hK.out _ _ ?kt_11 (fun hHeld => ?qt_11)
                                  case kt_11 => ((try dsimp only); exact HSof.out _ HX.out)
                                  case qt_11 =>
                                    clear hK K
                                    (try simp only [Act.put]); (try simp only [List.setIfInBounds_toArray])
                                    refine wpAnyH_ready (rs := [11]) (by kernel_rfl) (by simp) ?_
                                    refine AllReadyH.cons rfl (fun K hK => ?st_12) ?mt_12
                                    case st_12 =>
                                      (refine step_alloc _ (by rfl) 44 #[.int .i64 0, .string ⟨#[]⟩, .int .i64 0, .string ⟨#[]⟩, .slice none 0 0, .slice none 0 0, .slice none 0 0] (by go_simp) ?_; intro gn Yd hx11 hb11 hs11; have HGN := Lib.hid (Nat.le_trans HX.out.size hs11); have HU := Lib.hid hx11; replace HL3 := Lib.hid (HL3.out.after hb11); replace HX := Lib.hid (HX.out.trans (hb11.mono HX.out.size)); clear hx11 hb11 hs11)
                                      refine hK.out _ _ ?kt_12 (fun hHeld => ?qt_12)
                                      case kt_12 => ((try dsimp only); exact HSof.out _ HX.out)
                                      case qt_12 =>
                                        clear hK K
                                        (try simp only [Act.put]); (try simp only [List.setIfInBounds_toArray])
                                        refine wpAnyH_done (by kernel_rfl) ?_ _
                                        clear hHeld
                                        have x0 := HU.out.cell 0
                                        have x1 := HU.out.cell 1
                                        have x2 := HU.out.cell 2
                                        have x3 := HU.out.cell 3
                                        have x4 := HU.out.cell 4
                                        have x5 := HU.out.cell 5
                                        have x6 := HU.out.cell 6
                                        have y0 := HU.out.frozen 0
                                        have y1 := HU.out.frozen 1
                                        have y2 := HU.out.frozen 2
                                        have y3 := HU.out.frozen 3
                                        have y4 := HU.out.frozen 4
                                        have y5 := HU.out.frozen 5
                                        have y6 := HU.out.frozen 6
                                        simp at x0 x1 x2 x3 x4 x5 x6
                                        show wpList _ _ _ _ _ _
                                        go_wp2_with fail
                                        go_meet
                                        exact ⟨gn, A1, A2, A3, n1, n2, n3, k1, k2, k3, rfl, Lib.hid (CN.lay HX.out HU.out HL3.out HGN.out)⟩
                                    case mt_12 =>
                                      exact AllReadyH.nil
                                case mt_11 =>
                                  refine AllReadyH.cons rfl (fun K hK => ?st_13) ?mt_13
                                  case st_13 =>
                                    (refine step_alloc _ (by rfl) 44 #[.int .i64 0, .string ⟨#[]⟩, .int .i64 0, .string ⟨#[]⟩, .slice none 0 0, .slice none 0 0, .slice none 0 0] (by go_simp) ?_; intro gn Yd hx11 hb11 hs11; have HGN := Lib.hid (Nat.le_trans HX.out.size hs11); have HU := Lib.hid hx11; replace HX := Lib.hid (HX.out.trans (hb11.mono HX.out.size)); clear hx11 hb11 hs11)
                                    refine hK.out _ _ ?kt_13 (fun hHeld => ?qt_13)
                                    case kt_13 => ((try dsimp only); exact HSof.out _ HX.out)
                                    case qt_13 =>
                                      clear hK K
                                      (try simp only [Act.put]); (try simp only [List.setIfInBounds_toArray])
                                      refine wpAnyH_ready (rs := [10]) (by kernel_rfl) (by simp) ?_
                                      refine AllReadyH.cons rfl (fun K hK => ?st_14) ?mt_14
                                      case st_14 =>
                                        (refine step_call _ (by rfl) 35 #[.agg #[.int .i64 nd.id, .string nd.con, .int .i64 nd.par, .string nd.role, .slice Aa na ca, .slice Ab nb cb, .slice Ac nc cc]] (by go_simp) (HON.out _ (HF.out.after HX.out).p.a.bel) ?_; rintro e Yc ⟨⟨⟨A1, n1, k1⟩, ⟨A2, n2, k2⟩, ⟨A3, n3, k3⟩⟩, rfl, hl3, hb3⟩; refine ⟨_, rfl, ?_⟩; have HL3 := Lib.hid (hl3.mono HX.out.size); replace HX := Lib.hid (HX.out.trans (hb3.mono HX.out.size)); replace HU := Lib.hid (HU.out.after hb3); clear hl3 hb3)
                                        refine hK.out _ _ ?kt_14 (fun hHeld => ?qt_14)
                                        case kt_14 => ((try dsimp only); exact HSof.out _ HX.out)
                                        case qt_14 =>
                                          clear hK K
                                          (try simp only [Act.put]); (try simp only [List.setIfInBounds_toArray])
                                          refine wpAnyH_done (by kernel_rfl) ?_ _
                                          clear hHeld
                                          have x0 := HU.out.cell 0
                                          have x1 := HU.out.cell 1
                                          have x2 := HU.out.cell 2
                                          have x3 := HU.out.cell 3
                                          have x4 := HU.out.cell 4
                                          have x5 := HU.out.cell 5
                                          have x6 := HU.out.cell 6
                                          have y0 := HU.out.frozen 0
                                          have y1 := HU.out.frozen 1
                                          have y2 := HU.out.frozen 2
                                          have y3 := HU.out.frozen 3
                                          have y4 := HU.out.frozen 4
                                          have y5 := HU.out.frozen 5
                                          have y6 := HU.out.frozen 6
                                          simp at x0 x1 x2 x3 x4 x5 x6
                                          show wpList _ _ _ _ _ _
                                          go_wp2_with fail
                                          go_meet
                                          exact ⟨gn, A1, A2, A3, n1, n2, n3, k1, k2, k3, rfl, Lib.hid (CN.lay HX.out HU.out HL3.out HGN.out)⟩
                                      case mt_14 =>
                                        exact AllReadyH.nil
                                  case mt_13 =>
                                    exact AllReadyH.nil
                        case mt_8 =>
                          refine AllReadyH.cons rfl (fun K hK => ?st_15) ?mt_15
                          case st_15 =>
                            (refine step_alloc _ (by rfl) 44 #[.int .i64 0, .string ⟨#[]⟩, .int .i64 0, .string ⟨#[]⟩, .slice none 0 0, .slice none 0 0, .slice none 0 0] (by go_simp) ?_; intro gn Yd hx11 hb11 hs11; have HGN := Lib.hid (Nat.le_trans HX.out.size hs11); have HU := Lib.hid hx11; replace HX := Lib.hid (HX.out.trans (hb11.mono HX.out.size)); clear hx11 hb11 hs11)
                            refine hK.out _ _ ?kt_15 (fun hHeld => ?qt_15)
                            case kt_15 => ((try dsimp only); exact HSof.out _ HX.out)
                            case qt_15 =>
                              clear hK K
                              (try simp only [Act.put]); (try simp only [List.setIfInBounds_toArray])
                              refine wpAnyH_ready (rs := [7]) (by kernel_rfl) (by simp) ?_
                              refine AllReadyH.cons rfl (fun K hK => ?st_16) ?mt_16
                              case st_16 =>
                                (refine step_call _ (by rfl) 26 #[.agg #[.int .i64 next, .slice (some ⟨b0, o0, none⟩) n c], .int .i64 y] (by go_simp) (HAt.out _ (HF.out.after HX.out).p.a.bel) ?_; rintro e Yb ⟨rfl, hbb⟩; refine ⟨_, rfl, ?_⟩; replace HX := Lib.hid (HX.out.trans (hbb.mono HX.out.size)); replace HU := Lib.hid (HU.out.after hbb); clear hbb)
                                refine hK.out _ _ ?kt_16 (fun hHeld => ?qt_16)
                                case kt_16 => ((try dsimp only); exact HSof.out _ HX.out)
                                case qt_16 =>
                                  clear hK K
                                  (try simp only [Act.put]); (try simp only [List.setIfInBounds_toArray])
                                  refine wpAnyH_take (i := 8) (v := (.pointer (some ⟨b0, o0 + ii * 7, none⟩))) rfl (by kernel_rfl) (by kernel_rfl) (by kernel_rfl) (fun _ _ _ h => h) (Or.inl ⟨by rfl, ?yt_17⟩) (by assumption) ?qt_17
                                  case yt_17 => (intro w hSw; (try dsimp only at hSw); go_simp)
                                  case qt_17 =>
                                    (try simp only [Act.put]); (try simp only [List.setIfInBounds_toArray])
                                    refine wpAnyH_take (i := 9) (v := (.agg #[.int .i64 nd.id, .string nd.con, .int .i64 nd.par, .string nd.role, .slice Aa na ca, .slice Ab nb cb, .slice Ac nc cc])) rfl (by kernel_rfl) (by kernel_rfl) (by kernel_rfl) (fun _ _ _ h => h) (Or.inl ⟨by rfl, ?yt_18⟩) (by assumption) ?qt_18
                                    case yt_18 => (intro w hSw; (try dsimp only at hSw); go_simp)
                                    case qt_18 =>
                                      (try simp only [Act.put]); (try simp only [List.setIfInBounds_toArray])
                                      refine wpAnyH_ready (rs := [10]) (by kernel_rfl) (by simp) ?_
                                      refine AllReadyH.cons rfl (fun K hK => ?st_19) ?mt_19
                                      case st_19 =>
                                        (refine step_call _ (by rfl) 35 #[.agg #[.int .i64 nd.id, .string nd.con, .int .i64 nd.par, .string nd.role, .slice Aa na ca, .slice Ab nb cb, .slice Ac nc cc]] (by go_simp) (HON.out _ (HF.out.after HX.out).p.a.bel) ?_; rintro e Yc ⟨⟨⟨A1, n1, k1⟩, ⟨A2, n2, k2⟩, ⟨A3, n3, k3⟩⟩, rfl, hl3, hb3⟩; refine ⟨_, rfl, ?_⟩; have HL3 := Lib.hid (hl3.mono HX.out.size); replace HX := Lib.hid (HX.out.trans (hb3.mono HX.out.size)); replace HU := Lib.hid (HU.out.after hb3); clear hl3 hb3)
                                        refine hK.out _ _ ?kt_19 (fun hHeld => ?qt_19)
                                        case kt_19 => ((try dsimp only); exact HSof.out _ HX.out)
                                        case qt_19 =>
                                          clear hK K
                                          (try simp only [Act.put]); (try simp only [List.setIfInBounds_toArray])
                                          refine wpAnyH_done (by kernel_rfl) ?_ _
                                          clear hHeld
                                          have x0 := HU.out.cell 0
                                          have x1 := HU.out.cell 1
                                          have x2 := HU.out.cell 2
                                          have x3 := HU.out.cell 3
                                          have x4 := HU.out.cell 4
                                          have x5 := HU.out.cell 5
                                          have x6 := HU.out.cell 6
                                          have y0 := HU.out.frozen 0
                                          have y1 := HU.out.frozen 1
                                          have y2 := HU.out.frozen 2
                                          have y3 := HU.out.frozen 3
                                          have y4 := HU.out.frozen 4
                                          have y5 := HU.out.frozen 5
                                          have y6 := HU.out.frozen 6
                                          simp at x0 x1 x2 x3 x4 x5 x6
                                          show wpList _ _ _ _ _ _
                                          go_wp2_with fail
                                          go_meet
                                          exact ⟨gn, A1, A2, A3, n1, n2, n3, k1, k2, k3, rfl, Lib.hid (CN.lay HX.out HU.out HL3.out HGN.out)⟩
                                      case mt_19 =>
                                        exact AllReadyH.nil
                              case mt_16 =>
                                exact AllReadyH.nil
                          case mt_15 =>
                            exact AllReadyH.nil

      case rest =>
        obtain ⟨gn, A1, A2, A3, n1, n2, n3, k1, k2, k3, rfl, HC4⟩ := hcut
        rename World => X4
        have bc0 := HC4.out.box.cell 0
        have bf0 := HC4.out.box.frozen 0
        simp at bc0
        have m0 := (HF.out.after HC4.out.bel).p.a.m.cell 0
        simp at m0
        go_upto_region 21 with (fail)
        clear bc0 bf0 m0
        have HC5 := Lib.hid (HC4.out.setId (next + k))
        generalize X4.setCell ⟨gn, 0, none⟩ (.int .i64 (next + k)) = X5 at HC5 ⊢
        by_cases hk0 : k = 0
        · have hkt : ((k : Int) == 0) = true := by rw [beq_iff_eq]; omega
          have HK0 := Lib.hid hk0
          clear hk0
          have bc2 := HC5.out.box.cell 2
          have bf2 := HC5.out.box.frozen 2
          simp at bc2
          go_upto_region 24 with (fail)
          clear bc2 bf2
          have HC6 := Lib.hid (HC5.out.setPar 0)
          generalize X5.setCell ⟨gn, 2, none⟩ (.int .i64 0) = X6 at HC6 ⊢
          obtain ⟨nd6, h6⟩ : ∃ x, x = { { nd with id := next + k } with par := 0 } := ⟨_, rfl⟩
          rw [← h6] at HC6
          have H6 := Lib.hid h6
          have HK6 : Hid (nd6.kids = nd.kids) := Lib.hid (by rw [h6])
          have HR6 : Hid (nd6.refs = nd.refs) := Lib.hid (by rw [h6])
          clear h6
          have HN2 : Hid (n2 = nd6.kids.length) := Lib.hid HC6.out.leaf.kn
          have HN3 : Hid (n3 = nd6.refs.length) := Lib.hid HC6.out.leaf.rn
          go_wp2_with fail
          go_loopw [18] (fun v wx => ∃ q : Nat, q ≤ n2 ∧ v = .int .i64 q ∧ CN wr gn { nd6 with kids := mapTo (freV next S) nd6.kids q } ⟨⟨A1, n1, k1⟩, ⟨A2, n2, k2⟩, ⟨A3, n3, k3⟩⟩ wx) (fun v _ => n2 - (intOf v).toNat)
          case atStart => exact ⟨0, Nat.zero_le _, rfl, by rw [mapTo_zero]; exact HC6.out⟩
          case round =>
            clear HC6
            obtain ⟨q, hq, rfl, hcq⟩ := hrel
            rename World => wx
            have HCq := Lib.hid hcq
            clear hcq
            have b5 := HCq.out.box.cell 5
            simp at b5
            by_cases hql : q < n2
            · obtain ⟨x, hx⟩ : ∃ x, nd6.kids[q]? = some x := ⟨nd6.kids[q]'(by have := HN2.out; omega), List.getElem?_eq_getElem _⟩
              have HXK := Lib.hid hx
              obtain ⟨gk, hA2, hk1, hk2, hgk, hcell, hfz, hset⟩ := HCq.out.kid (q := q) (by have := HN2.out; simp only [mapTo_len]; omega)
              simp only at hA2 hk1 hk2
              subst hA2
              obtain ⟨ix, hix⟩ : ∃ ix, idxV S x = ix := ⟨_, rfl⟩
              have hle := idxV_le S x
              rw [hix] at hle
              have hix0 := hle.1
              have hix1 := hle.2
              have hwr : IntKind.i64.wrap (next + ix) = next + ix := IntWalk.i64_in _ (by omega)
              have HIE := Lib.hid hix
              have HIx : Hid (∀ X, CN wr gn { nd6 with kids := mapTo (freV next S) nd6.kids q } ⟨⟨A1, n1, k1⟩, ⟨some ⟨gk, 0, none⟩, n2, k2⟩, ⟨A3, n3, k3⟩⟩ X → Calls Try.prog 36 #[.slice (some ⟨gl, 0, none⟩) S.length cl, .int .i64 x] X fun e w' => e = .returned (.int .i64 ix) ∧ X = w') := Lib.hid fun X hX => by
                have h1 := refIndex_any X _ _ _ _ _ S x (own_row (HF.out.after hX.bel).p.p)
                rw [hix] at h1
                exact h1
              have HSf : Hid (∀ X, CN wr gn { nd6 with kids := mapTo (freV next S) nd6.kids q } ⟨⟨A1, n1, k1⟩, ⟨some ⟨gk, 0, none⟩, n2, k2⟩, ⟨A3, n3, k3⟩⟩ X → X.cell? ⟨w.heap.size, 0, none⟩ = some (.int .i64 next) ∧ X.cell? ⟨gn, 5, none⟩ = some (.slice (some ⟨gk, 0, none⟩) n2 k2) ∧ X.cell? ⟨gk, q, none⟩ = some (.int .i64 x)) := Lib.hid fun X hX => by
                obtain ⟨gk2, h1, _, _, _, h2, _, _⟩ := hX.kid (q := q) (by have := HN2.out; simp only [mapTo_len]; omega)
                simp only [Option.some.injEq, Addr.mk.injEq, and_true] at h1
                subst h1
                exact ⟨((HF.out.after hX.bel).p.a.m.cell 0).trans rfl, (hX.box.cell 5).trans rfl, h2 x (mapTo_get HXK.out)⟩
              have HKd : Hid (∀ X, CN wr gn { nd6 with kids := mapTo (freV next S) nd6.kids q } ⟨⟨A1, n1, k1⟩, ⟨some ⟨gk, 0, none⟩, n2, k2⟩, ⟨A3, n3, k3⟩⟩ X → X.cell? ⟨gk, q, none⟩ = some (.int .i64 x) ∧ X.frozen? ⟨gk, q, none⟩ = false ∧ CN wr gn { nd6 with kids := mapTo (freV next S) nd6.kids (q + 1) } ⟨⟨A1, n1, k1⟩, ⟨some ⟨gk, 0, none⟩, n2, k2⟩, ⟨A3, n3, k3⟩⟩ (X.setCell ⟨gk, q, none⟩ (.int .i64 (next + ix)))) := Lib.hid fun X hX => by
                obtain ⟨gk2, h1, _, _, _, h2, h3, h4⟩ := hX.kid (q := q) (by have := HN2.out; simp only [mapTo_len]; omega)
                simp only [Option.some.injEq, Addr.mk.injEq, and_true] at h1
                subst h1
                refine ⟨h2 x (mapTo_get HXK.out), h3, ?_⟩
                have h5 := h4 (next + ix)
                have h6 : next + ix = freV next S x := by unfold freV; rw [HIE.out]
                rw [h6, mapTo_set HXK.out, ← h6] at h5
                exact h5
              clear hcell hset hx hfz hix hle
              go_upto_region 27 with (fail)
              clear b5
              have HXc := Lib.hid (HCq.out.after (below_drew1 wx))
              refine wp_region_held_tail 13 (fun w' => w'.cell? ⟨w.heap.size, 0, none⟩ = some (.int .i64 next) ∧ w'.cell? ⟨gn, 5, none⟩ = some (.slice (some ⟨gk, 0, none⟩) n2 k2) ∧ w'.cell? ⟨gk, q, none⟩ = some (.int .i64 x)) (by kernel_rfl) (by kernel_rfl) ?hSr (fun hHeld => ?qr0)
              case hSr => exact HSf.out _ HXc.out
              case qr0 =>
                generalize wx.drew = wz at HXc hHeld ⊢
                simp only [List.take_succ_cons, List.take_zero, List.drop_succ_cons, List.drop_zero]
                refine wpAnyH_take (i := 0) (v := (.pointer (some ⟨gn, 5, none⟩))) rfl (by kernel_rfl) (by kernel_rfl) (by kernel_rfl) (fun _ _ _ h => h) (Or.inl ⟨by rfl, ?yr_1⟩) (by assumption) ?qr_1
                case yr_1 => (intro w hSw; (try dsimp only at hSw); go_simp)
                case qr_1 =>
                  (try simp only [Act.put]); (try simp only [List.setIfInBounds_toArray])
                  refine wpAnyH_take (i := 1) (v := (.slice (some ⟨gk, 0, none⟩) n2 k2)) rfl (by kernel_rfl) (by kernel_rfl) (by kernel_rfl) (fun _ _ _ h => h) (Or.inl ⟨by rfl, ?yr_2⟩) (by assumption) ?qr_2
                  case yr_2 => (intro w hSw; (try dsimp only at hSw); go_simp)
                  case qr_2 =>
                    (try simp only [Act.put]); (try simp only [List.setIfInBounds_toArray])
                    refine wpAnyH_take (i := 2) (v := (.int .i64 q)) rfl (by kernel_rfl) (by kernel_rfl) (by kernel_rfl) (fun _ _ _ h => h) (Or.inl ⟨by rfl, ?yr_3⟩) (by assumption) ?qr_3
                    case yr_3 => (intro w hSw; (try dsimp only at hSw); go_simp)
                    case qr_3 =>
                      (try simp only [Act.put]); (try simp only [List.setIfInBounds_toArray])
                      refine wpAnyH_take (i := 3) (v := (.pointer (some ⟨w.heap.size, 0, none⟩))) rfl (by kernel_rfl) (by kernel_rfl) (by kernel_rfl) (fun _ _ _ h => h) (Or.inl ⟨by rfl, ?yr_4⟩) (by assumption) ?qr_4
                      case yr_4 => (intro w hSw; (try dsimp only at hSw); go_simp)
                      case qr_4 =>
                        (try simp only [Act.put]); (try simp only [List.setIfInBounds_toArray])
                        refine wpAnyH_take (i := 4) (v := (.int .i64 next)) rfl (by kernel_rfl) (by kernel_rfl) (by kernel_rfl) (fun _ _ _ h => h) (Or.inl ⟨by rfl, ?yr_5⟩) (by assumption) ?qr_5
                        case yr_5 => (intro w hSw; (try dsimp only at hSw); go_simp)
                        case qr_5 =>
                          (try simp only [Act.put]); (try simp only [List.setIfInBounds_toArray])
                          refine wpAnyH_take (i := 5) (v := (.slice (some ⟨gl, 0, none⟩) S.length cl)) rfl (by kernel_rfl) (by kernel_rfl) (by kernel_rfl) (fun _ _ _ h => h) (Or.inl ⟨by rfl, ?yr_6⟩) (by assumption) ?qr_6
                          case yr_6 => (intro w hSw; (try dsimp only at hSw); go_simp)
                          case qr_6 =>
                            (try simp only [Act.put]); (try simp only [List.setIfInBounds_toArray])
                            refine wpAnyH_take (i := 6) (v := (.pointer (some ⟨gn, 5, none⟩))) rfl (by kernel_rfl) (by kernel_rfl) (by kernel_rfl) (fun _ _ _ h => h) (Or.inl ⟨by rfl, ?yr_7⟩) (by assumption) ?qr_7
                            case yr_7 => (intro w hSw; (try dsimp only at hSw); go_simp)
                            case qr_7 =>
                              (try simp only [Act.put]); (try simp only [List.setIfInBounds_toArray])
                              refine wpAnyH_take (i := 7) (v := (.slice (some ⟨gk, 0, none⟩) n2 k2)) rfl (by kernel_rfl) (by kernel_rfl) (by kernel_rfl) (fun _ _ _ h => h) (Or.inl ⟨by rfl, ?yr_8⟩) (by assumption) ?qr_8
                              case yr_8 => (intro w hSw; (try dsimp only at hSw); go_simp)
                              case qr_8 =>
                                (try simp only [Act.put]); (try simp only [List.setIfInBounds_toArray])
                                refine wpAnyH_take (i := 8) (v := (.int .i64 q)) rfl (by kernel_rfl) (by kernel_rfl) (by kernel_rfl) (fun _ _ _ h => h) (Or.inl ⟨by rfl, ?yr_9⟩) (by assumption) ?qr_9
                                case yr_9 => (intro w hSw; (try dsimp only at hSw); go_simp)
                                case qr_9 =>
                                  (try simp only [Act.put]); (try simp only [List.setIfInBounds_toArray])
                                  refine wpAnyH_take (i := 9) (v := (.pointer (some ⟨gk, q, none⟩))) rfl (by kernel_rfl) (by kernel_rfl) (by kernel_rfl) (fun _ _ _ h => h) (Or.inl ⟨by rfl, ?yr_10⟩) (by assumption) ?qr_10
                                  case yr_10 => (intro w hSw; (try dsimp only at hSw); go_simp)
                                  case qr_10 =>
                                    (try simp only [Act.put]); (try simp only [List.setIfInBounds_toArray])
                                    refine wpAnyH_take (i := 10) (v := (.int .i64 x)) rfl (by kernel_rfl) (by kernel_rfl) (by kernel_rfl) (fun _ _ _ h => h) (Or.inl ⟨by rfl, ?yr_11⟩) (by assumption) ?qr_11
                                    case yr_11 => (intro w hSw; (try dsimp only at hSw); go_simp)
                                    case qr_11 =>
                                      (try simp only [Act.put]); (try simp only [List.setIfInBounds_toArray])
                                      refine wpAnyH_ready (rs := [11]) (by kernel_rfl) (by simp) ?_
                                      refine AllReadyH.cons rfl (fun K hK => ?sr_12) ?mr_12
                                      case sr_12 =>
                                        (refine step_call _ (by rfl) 36 #[.slice (some ⟨gl, 0, none⟩) S.length cl, .int .i64 x] (by go_simp) (HIx.out _ HXc.out) ?_; rintro e Yb ⟨rfl, rfl⟩; refine ⟨_, rfl, ?_⟩)
                                        refine hK.out _ _ ?kr_12 (fun hHeld => ?qr_12)
                                        case kr_12 => ((try dsimp only); exact HSf.out _ HXc.out)
                                        case qr_12 =>
                                          clear hK K
                                          (try simp only [Act.put]); (try simp only [List.setIfInBounds_toArray])
                                          refine wpAnyH_take (i := 12) (v := (.int .i64 (next + ix))) rfl (by kernel_rfl) (by kernel_rfl) (by kernel_rfl) (fun _ _ _ h => h) (Or.inl ⟨by rfl, ?yr_13⟩) (by assumption) ?qr_13
                                          case yr_13 => (intro w hSw; (try dsimp only at hSw); go_simp)
                                          case qr_13 =>
                                            (try simp only [Act.put]); (try simp only [List.setIfInBounds_toArray])
                                            refine wpAnyH_done (by kernel_rfl) ?_ _
                                            show wpList _ _ _ _ _ _
                                            clear hHeld
                                            have e0 := (HKd.out _ HXc.out).1
                                            have hfz := (HKd.out _ HXc.out).2.1
                                            have HS2 := Lib.hid (HKd.out _ HXc.out).2.2
                                            clear hwr hix0 hix1
                                            go_wp2_with fail
                                            go_roundw
                                            case rel => exact ⟨q + 1, by omega, by simp, HS2.out⟩
                                            case measure => simp [intOf]; omega
                                      case mr_12 =>
                                        exact AllReadyH.nil
            · skip
              have hqn : q = n2 := by omega
              subst hqn
              have HC7 : Hid (CN wr gn { nd6 with kids := cpKids next S nd6.kids } ⟨⟨A1, n1, k1⟩, ⟨A2, q, k2⟩, ⟨A3, n3, k3⟩⟩ wx) := Lib.hid (by
                have := HCq.out
                rw [mapTo_all _ _ HN2.out] at this
                exact this)
              clear HCq
              go_wp2_with fail
              clear b5
              go_loopw [19] (fun v wx => ∃ u : Nat, u ≤ n3 ∧ v = .int .i64 u ∧ CN wr gn { nd6 with kids := cpKids next S nd6.kids, refs := mapTo (fun r => (r.1, freT next S r.2)) nd6.refs u } ⟨⟨A1, n1, k1⟩, ⟨A2, q, k2⟩, ⟨A3, n3, k3⟩⟩ wx) (fun v _ => n3 - (intOf v).toNat)
              case atStart => exact ⟨0, Nat.zero_le _, rfl, by rw [mapTo_zero]; exact HC7.out⟩
              case round =>
                clear HC7
                obtain ⟨u, hu, rfl, hcq⟩ := hrel
                rename World => wy
                have HCq := Lib.hid hcq
                clear hcq
                have b6 := HCq.out.box.cell 6
                simp at b6
                by_cases hul : u < n3
                · obtain ⟨r, hr⟩ : ∃ r, nd6.refs[u]? = some r := ⟨nd6.refs[u]'(by have := HN3.out; omega), List.getElem?_eq_getElem _⟩
                  obtain ⟨gk, hA3, hk1, hk2, hgk, e0, e1, hfz, hset⟩ := HCq.out.ref (q := u) (mapTo_get hr)
                  simp only at hA3 hk1 hk2
                  subst hA3
                  obtain ⟨ix, hix⟩ : ∃ ix, idxV S r.2 = ix := ⟨_, rfl⟩
                  have hle := idxV_le S r.2
                  have hge := idxV_ge S r.2
                  rw [hix] at hle hge
                  have hix0 := hle.1
                  have hix1 := hle.2
                  have hfr : freV next S r.2 = next + ix := by unfold freV; rw [hix]
                  have HIx : Hid (Calls Try.prog 36 #[.slice (some ⟨gl, 0, none⟩) S.length cl, .int .i64 r.2] wy fun e w' => e = .returned (.int .i64 ix) ∧ wy = w') := Lib.hid (by
                    have h1 := refIndex_any wy _ _ _ _ _ S r.2 (own_row (HF.out.after HCq.out.bel).p.p)
                    rw [hix] at h1
                    exact h1)
                  cases hcn : S.contains r.2 with
                  | true =>
                    rw [hcn] at hge
                    have HS2 : Hid (CN wr gn { nd6 with kids := cpKids next S nd6.kids, refs := mapTo (fun r => (r.1, freT next S r.2)) nd6.refs (u + 1) } ⟨⟨A1, n1, k1⟩, ⟨A2, q, k2⟩, ⟨some ⟨gk, 0, none⟩, n3, k3⟩⟩ (wy.setCell ⟨gk, u * 2 + 1, none⟩ (.int .i64 (next + ix)))) := Lib.hid (by
                      have h1 := hset (next + ix)
                      have h2 : (r.1, next + ix) = (fun r => (r.1, freT next S r.2)) r := by simp only [freT]; rw [if_pos hcn, hfr]
                      rw [h2, mapTo_set (f := fun r => (r.1, freT next S r.2)) hr] at h1
                      exact h1)
                    have hge2 := of_decide_eq_true hge
                    have m0 := (HF.out.after HCq.out.bel).p.a.m.cell 0
                    simp at m0
                    clear hset hcn hr hix hle hfr
                    go_wp2_with (go_at_call 36; go_must (refine HIx.out.mono ?_; rintro e w9 ⟨rfl, rfl⟩))
                    go_roundw
                    case rel => exact ⟨u + 1, by omega, by simp, HS2.out⟩
                    case measure => simp [intOf]; omega
                  | false =>
                    rw [hcn] at hge
                    have HS2 : Hid (CN wr gn { nd6 with kids := cpKids next S nd6.kids, refs := mapTo (fun r => (r.1, freT next S r.2)) nd6.refs (u + 1) } ⟨⟨A1, n1, k1⟩, ⟨A2, q, k2⟩, ⟨some ⟨gk, 0, none⟩, n3, k3⟩⟩ wy) := Lib.hid (by
                      have h2 : (fun r : ByteArray × Int => (r.1, freT next S r.2)) r = r := by simp only [freT]; rw [if_neg (by rw [hcn]; simp)]
                      rw [mapTo_same hr h2]
                      exact HCq.out)
                    have hge2 := of_decide_eq_false hge
                    clear hset hcn hr hix hle hfr
                    go_wp2_with (go_at_call 36; go_must (refine HIx.out.mono ?_; rintro e w9 ⟨rfl, rfl⟩))
                    go_roundw
                    case rel => exact ⟨u + 1, by omega, by simp, HS2.out⟩
                    case measure => simp [intOf]; omega
                · have hun : u = n3 := by omega
                  subst hun
                  obtain ⟨nd8, h8⟩ : ∃ x, x = { nd6 with kids := cpKids next S nd6.kids, refs := cpRefs next S nd6.refs } := ⟨_, rfl⟩
                  have HC8 : Hid (CN wr gn nd8 ⟨⟨A1, n1, k1⟩, ⟨A2, q, k2⟩, ⟨A3, u, k3⟩⟩ wy) := Lib.hid (by
                    have := HCq.out
                    rw [mapTo_all _ _ HN3.out] at this
                    rw [h8]
                    exact this)
                  have H8 := Lib.hid h8
                  clear HCq h8 b6
                  have b0 := HC8.out.box.cell 0
                  have b1 := HC8.out.box.cell 1
                  have b2 := HC8.out.box.cell 2
                  have b3 := HC8.out.box.cell 3
                  have b4 := HC8.out.box.cell 4
                  have b5 := HC8.out.box.cell 5
                  have b6 := HC8.out.box.cell 6
                  simp at b0 b1 b2 b3 b4 b5 b6
                  have HF8 := Lib.hid (HF.out.after HC8.out.bel)
                  have o1 := HF8.out.out.cell 1
                  simp at o1
                  have HLf := Lib.hid (HC8.out.leaf.mono HF.out.p.a.bel.size)
                  go_upto_region 34 with (fail)
                  go_wp2_with (at_builtin; (with_reducible show wpList _ _ _ (⟨some 171, _, _, _, _, _⟩ :: _) _ _); go_must (refine wpList_app _ rfl (.tmp 168) (.tmp 170) _ rfl w.heap.size 44 i0 _ 7 120 Try.underlying22 hi0' hz0 hz1 hz2 rfl (by omega) v lo.length (allCells lo) (by go_simp) (own_after HF8.out.own.own (below_more (Below.refl _ _) _)) wy.heap.size (wy.heap.size + 1) (some ⟨wy.heap.size, 0, none⟩) 1 1 (ndCells (nd8, ⟨⟨A1, n1, k1⟩, ⟨A2, q, k2⟩, ⟨A3, u, k3⟩⟩)) (by go_simp) (row_blk (n := 1) (Blk.new' rfl) rfl (Nat.le_refl _) (by unfold maxLen; omega)) (by simp [ndCells, Value.oneCell']) (by unfold maxLen; omega) (by omega) (Nat.le_trans HF8.out.p.a.bel.size (by simp)) ?_); go_must (intro v7 w7 hown7 hg7 _; obtain ⟨A7, c7, rfl⟩ := own_form hown7; have HF9 := Lib.hid ((HF8.out.after (below_more (Below.refl _ _) _)).push hg7 hown7 (HLf.out.after (below_more (Below.refl _ _) _))); have o71 := HF9.out.out.cell 1; have o72 := HF9.out.out.frozen 1; simp at o71; have HFA := Lib.hid HF9.out.store; clear hown7 hg7))
                  go_roundw
                  case rel =>
                    refine ⟨k + 1, _, _, by omega, by simp, HFA.out, Lib.hid ?_⟩
                    rw [List.map_append, HT.out, cpsV_succ HY.out HND.out, ← List.append_assoc]
                    congr 1
                    show [nd8] = _
                    rw [H8.out, HK6.out, HR6.out, H6.out]
                    unfold cpNd
                    rw [if_pos HK0.out]
                  case measure => simp [intOf]; omega
        · have hkt : ((k : Int) == 0) = false := by rw [beq_eq_false_iff_ne]; omega
          have HK0 := Lib.hid hk0
          clear hk0
          obtain ⟨ix, hix⟩ : ∃ ix, idxV S nd.par = ix := ⟨_, rfl⟩
          have hle := idxV_le S nd.par
          rw [hix] at hle
          have hix0 := hle.1
          have hix1 := hle.2
          have hwr : IntKind.i64.wrap (next + ix) = next + ix := IntWalk.i64_in _ (by omega)
          have HIE := Lib.hid hix
          have HIx : Hid (∀ X, CN wr gn { nd with id := next + k } ⟨⟨A1, n1, k1⟩, ⟨A2, n2, k2⟩, ⟨A3, n3, k3⟩⟩ X → Calls Try.prog 36 #[.slice (some ⟨gl, 0, none⟩) S.length cl, .int .i64 nd.par] X fun e w' => e = .returned (.int .i64 ix) ∧ X = w') := Lib.hid fun X hX => by
            have h1 := refIndex_any X _ _ _ _ _ S nd.par (own_row (HF.out.after hX.bel).p.p)
            rw [hix] at h1
            exact h1
          have HSp : Hid (∀ X, CN wr gn { nd with id := next + k } ⟨⟨A1, n1, k1⟩, ⟨A2, n2, k2⟩, ⟨A3, n3, k3⟩⟩ X → X.cell? ⟨w.heap.size, 0, none⟩ = some (.int .i64 next) ∧ X.cell? ⟨gn, 2, none⟩ = some (.int .i64 nd.par)) := Lib.hid fun X hX => ⟨((HF.out.after hX.bel).p.a.m.cell 0).trans rfl, (hX.box.cell 2).trans rfl⟩
          clear hix hle
          go_upto_region 23 with (fail)
          have HXc := Lib.hid (HC5.out.after (below_drew1 X5))
          refine wp_region_held_tail 7 (fun w' => w'.cell? ⟨w.heap.size, 0, none⟩ = some (.int .i64 next) ∧ w'.cell? ⟨gn, 2, none⟩ = some (.int .i64 nd.par)) (by kernel_rfl) (by kernel_rfl) ?hSs (fun hHeld => ?qs0)
          case hSs => exact HSp.out _ HXc.out
          case qs0 =>
            generalize X5.drew = wz at HXc hHeld ⊢
            simp only [List.take_succ_cons, List.take_zero, List.drop_succ_cons, List.drop_zero]
            refine wpAnyH_take (i := 0) (v := (.pointer (some ⟨w.heap.size, 0, none⟩))) rfl (by kernel_rfl) (by kernel_rfl) (by kernel_rfl) (fun _ _ _ h => h) (Or.inl ⟨by rfl, ?ys_1⟩) (by assumption) ?qs_1
            case ys_1 => (intro w hSw; (try dsimp only at hSw); go_simp)
            case qs_1 =>
              (try simp only [Act.put]); (try simp only [List.setIfInBounds_toArray])
              refine wpAnyH_take (i := 1) (v := (.int .i64 next)) rfl (by kernel_rfl) (by kernel_rfl) (by kernel_rfl) (fun _ _ _ h => h) (Or.inl ⟨by rfl, ?ys_2⟩) (by assumption) ?qs_2
              case ys_2 => (intro w hSw; (try dsimp only at hSw); go_simp)
              case qs_2 =>
                (try simp only [Act.put]); (try simp only [List.setIfInBounds_toArray])
                refine wpAnyH_take (i := 2) (v := (.slice (some ⟨gl, 0, none⟩) S.length cl)) rfl (by kernel_rfl) (by kernel_rfl) (by kernel_rfl) (fun _ _ _ h => h) (Or.inl ⟨by rfl, ?ys_3⟩) (by assumption) ?qs_3
                case ys_3 => (intro w hSw; (try dsimp only at hSw); go_simp)
                case qs_3 =>
                  (try simp only [Act.put]); (try simp only [List.setIfInBounds_toArray])
                  refine wpAnyH_take (i := 3) (v := (.pointer (some ⟨gn, 2, none⟩))) rfl (by kernel_rfl) (by kernel_rfl) (by kernel_rfl) (fun _ _ _ h => h) (Or.inl ⟨by rfl, ?ys_4⟩) (by assumption) ?qs_4
                  case ys_4 => (intro w hSw; (try dsimp only at hSw); go_simp)
                  case qs_4 =>
                    (try simp only [Act.put]); (try simp only [List.setIfInBounds_toArray])
                    refine wpAnyH_take (i := 4) (v := (.int .i64 nd.par)) rfl (by kernel_rfl) (by kernel_rfl) (by kernel_rfl) (fun _ _ _ h => h) (Or.inl ⟨by rfl, ?ys_5⟩) (by assumption) ?qs_5
                    case ys_5 => (intro w hSw; (try dsimp only at hSw); go_simp)
                    case qs_5 =>
                      (try simp only [Act.put]); (try simp only [List.setIfInBounds_toArray])
                      refine wpAnyH_ready (rs := [5]) (by kernel_rfl) (by simp) ?_
                      refine AllReadyH.cons rfl (fun K hK => ?ss_6) ?ms_6
                      case ss_6 =>
                        (refine step_call _ (by rfl) 36 #[.slice (some ⟨gl, 0, none⟩) S.length cl, .int .i64 nd.par] (by go_simp) (HIx.out _ HXc.out) ?_; rintro e Yb ⟨rfl, rfl⟩; refine ⟨_, rfl, ?_⟩)
                        refine hK.out _ _ ?ks_6 (fun hHeld => ?qs_6)
                        case ks_6 => ((try dsimp only); exact HSp.out _ HXc.out)
                        case qs_6 =>
                          clear hK K
                          (try simp only [Act.put]); (try simp only [List.setIfInBounds_toArray])
                          refine wpAnyH_take (i := 6) (v := (.int .i64 (next + ix))) rfl (by kernel_rfl) (by kernel_rfl) (by kernel_rfl) (fun _ _ _ h => h) (Or.inl ⟨by rfl, ?ys_7⟩) (by assumption) ?qs_7
                          case ys_7 => (intro w hSw; (try dsimp only at hSw); go_simp)
                          case qs_7 =>
                            (try simp only [Act.put]); (try simp only [List.setIfInBounds_toArray])
                            refine wpAnyH_done (by kernel_rfl) ?_ _
                            show wpList _ _ _ _ _ _
                            clear hHeld
                            have bf2 := HXc.out.box.frozen 2
                            have bc2 := HXc.out.box.cell 2
                            simp at bc2
                            go_upto_region 24 with (fail)
                            clear bf2 bc2
                            have HC6 := Lib.hid (HXc.out.setPar (next + ix))
                            have HFP : Hid (freV next S nd.par = next + ix) := Lib.hid (by unfold freV; rw [HIE.out])
                            generalize wz.setCell ⟨gn, 2, none⟩ (.int .i64 (next + ix)) = X6 at HC6 ⊢
                            clear hwr hix0 hix1
                            obtain ⟨nd6, h6⟩ : ∃ x, x = { { nd with id := next + k } with par := next + ix } := ⟨_, rfl⟩
                            rw [← h6] at HC6
                            have H6 := Lib.hid h6
                            have HK6 : Hid (nd6.kids = nd.kids) := Lib.hid (by rw [h6])
                            have HR6 : Hid (nd6.refs = nd.refs) := Lib.hid (by rw [h6])
                            clear h6
                            have HN2 : Hid (n2 = nd6.kids.length) := Lib.hid HC6.out.leaf.kn
                            have HN3 : Hid (n3 = nd6.refs.length) := Lib.hid HC6.out.leaf.rn
                            go_wp2_with fail
                            go_loopw [18] (fun v wx => ∃ q : Nat, q ≤ n2 ∧ v = .int .i64 q ∧ CN wr gn { nd6 with kids := mapTo (freV next S) nd6.kids q } ⟨⟨A1, n1, k1⟩, ⟨A2, n2, k2⟩, ⟨A3, n3, k3⟩⟩ wx) (fun v _ => n2 - (intOf v).toNat)
                            case atStart => exact ⟨0, Nat.zero_le _, rfl, by rw [mapTo_zero]; exact HC6.out⟩
                            case round =>
                              clear HC6
                              obtain ⟨q, hq, rfl, hcq⟩ := hrel
                              rename World => wx
                              have HCq := Lib.hid hcq
                              clear hcq
                              have b5 := HCq.out.box.cell 5
                              simp at b5
                              by_cases hql : q < n2
                              · obtain ⟨x, hx⟩ : ∃ x, nd6.kids[q]? = some x := ⟨nd6.kids[q]'(by have := HN2.out; omega), List.getElem?_eq_getElem _⟩
                                have HXK := Lib.hid hx
                                obtain ⟨gk, hA2, hk1, hk2, hgk, hcell, hfz, hset⟩ := HCq.out.kid (q := q) (by have := HN2.out; simp only [mapTo_len]; omega)
                                simp only at hA2 hk1 hk2
                                subst hA2
                                obtain ⟨ix, hix⟩ : ∃ ix, idxV S x = ix := ⟨_, rfl⟩
                                have hle := idxV_le S x
                                rw [hix] at hle
                                have hix0 := hle.1
                                have hix1 := hle.2
                                have hwr : IntKind.i64.wrap (next + ix) = next + ix := IntWalk.i64_in _ (by omega)
                                have HIE := Lib.hid hix
                                have HIx : Hid (∀ X, CN wr gn { nd6 with kids := mapTo (freV next S) nd6.kids q } ⟨⟨A1, n1, k1⟩, ⟨some ⟨gk, 0, none⟩, n2, k2⟩, ⟨A3, n3, k3⟩⟩ X → Calls Try.prog 36 #[.slice (some ⟨gl, 0, none⟩) S.length cl, .int .i64 x] X fun e w' => e = .returned (.int .i64 ix) ∧ X = w') := Lib.hid fun X hX => by
                                  have h1 := refIndex_any X _ _ _ _ _ S x (own_row (HF.out.after hX.bel).p.p)
                                  rw [hix] at h1
                                  exact h1
                                have HSf : Hid (∀ X, CN wr gn { nd6 with kids := mapTo (freV next S) nd6.kids q } ⟨⟨A1, n1, k1⟩, ⟨some ⟨gk, 0, none⟩, n2, k2⟩, ⟨A3, n3, k3⟩⟩ X → X.cell? ⟨w.heap.size, 0, none⟩ = some (.int .i64 next) ∧ X.cell? ⟨gn, 5, none⟩ = some (.slice (some ⟨gk, 0, none⟩) n2 k2) ∧ X.cell? ⟨gk, q, none⟩ = some (.int .i64 x)) := Lib.hid fun X hX => by
                                  obtain ⟨gk2, h1, _, _, _, h2, _, _⟩ := hX.kid (q := q) (by have := HN2.out; simp only [mapTo_len]; omega)
                                  simp only [Option.some.injEq, Addr.mk.injEq, and_true] at h1
                                  subst h1
                                  exact ⟨((HF.out.after hX.bel).p.a.m.cell 0).trans rfl, (hX.box.cell 5).trans rfl, h2 x (mapTo_get HXK.out)⟩
                                have HKd : Hid (∀ X, CN wr gn { nd6 with kids := mapTo (freV next S) nd6.kids q } ⟨⟨A1, n1, k1⟩, ⟨some ⟨gk, 0, none⟩, n2, k2⟩, ⟨A3, n3, k3⟩⟩ X → X.cell? ⟨gk, q, none⟩ = some (.int .i64 x) ∧ X.frozen? ⟨gk, q, none⟩ = false ∧ CN wr gn { nd6 with kids := mapTo (freV next S) nd6.kids (q + 1) } ⟨⟨A1, n1, k1⟩, ⟨some ⟨gk, 0, none⟩, n2, k2⟩, ⟨A3, n3, k3⟩⟩ (X.setCell ⟨gk, q, none⟩ (.int .i64 (next + ix)))) := Lib.hid fun X hX => by
                                  obtain ⟨gk2, h1, _, _, _, h2, h3, h4⟩ := hX.kid (q := q) (by have := HN2.out; simp only [mapTo_len]; omega)
                                  simp only [Option.some.injEq, Addr.mk.injEq, and_true] at h1
                                  subst h1
                                  refine ⟨h2 x (mapTo_get HXK.out), h3, ?_⟩
                                  have h5 := h4 (next + ix)
                                  have h6 : next + ix = freV next S x := by unfold freV; rw [HIE.out]
                                  rw [h6, mapTo_set HXK.out, ← h6] at h5
                                  exact h5
                                clear hcell hset hx hfz hix hle
                                go_upto_region 27 with (fail)
                                clear b5
                                have HXc := Lib.hid (HCq.out.after (below_drew1 wx))
                                refine wp_region_held_tail 13 (fun w' => w'.cell? ⟨w.heap.size, 0, none⟩ = some (.int .i64 next) ∧ w'.cell? ⟨gn, 5, none⟩ = some (.slice (some ⟨gk, 0, none⟩) n2 k2) ∧ w'.cell? ⟨gk, q, none⟩ = some (.int .i64 x)) (by kernel_rfl) (by kernel_rfl) ?hSr (fun hHeld => ?qr0)
                                case hSr => exact HSf.out _ HXc.out
                                case qr0 =>
                                  generalize wx.drew = wz at HXc hHeld ⊢
                                  simp only [List.take_succ_cons, List.take_zero, List.drop_succ_cons, List.drop_zero]
                                  refine wpAnyH_take (i := 0) (v := (.pointer (some ⟨gn, 5, none⟩))) rfl (by kernel_rfl) (by kernel_rfl) (by kernel_rfl) (fun _ _ _ h => h) (Or.inl ⟨by rfl, ?yr_1⟩) (by assumption) ?qr_1
                                  case yr_1 => (intro w hSw; (try dsimp only at hSw); go_simp)
                                  case qr_1 =>
                                    (try simp only [Act.put]); (try simp only [List.setIfInBounds_toArray])
                                    refine wpAnyH_take (i := 1) (v := (.slice (some ⟨gk, 0, none⟩) n2 k2)) rfl (by kernel_rfl) (by kernel_rfl) (by kernel_rfl) (fun _ _ _ h => h) (Or.inl ⟨by rfl, ?yr_2⟩) (by assumption) ?qr_2
                                    case yr_2 => (intro w hSw; (try dsimp only at hSw); go_simp)
                                    case qr_2 =>
                                      (try simp only [Act.put]); (try simp only [List.setIfInBounds_toArray])
                                      refine wpAnyH_take (i := 2) (v := (.int .i64 q)) rfl (by kernel_rfl) (by kernel_rfl) (by kernel_rfl) (fun _ _ _ h => h) (Or.inl ⟨by rfl, ?yr_3⟩) (by assumption) ?qr_3
                                      case yr_3 => (intro w hSw; (try dsimp only at hSw); go_simp)
                                      case qr_3 =>
                                        (try simp only [Act.put]); (try simp only [List.setIfInBounds_toArray])
                                        refine wpAnyH_take (i := 3) (v := (.pointer (some ⟨w.heap.size, 0, none⟩))) rfl (by kernel_rfl) (by kernel_rfl) (by kernel_rfl) (fun _ _ _ h => h) (Or.inl ⟨by rfl, ?yr_4⟩) (by assumption) ?qr_4
                                        case yr_4 => (intro w hSw; (try dsimp only at hSw); go_simp)
                                        case qr_4 =>
                                          (try simp only [Act.put]); (try simp only [List.setIfInBounds_toArray])
                                          refine wpAnyH_take (i := 4) (v := (.int .i64 next)) rfl (by kernel_rfl) (by kernel_rfl) (by kernel_rfl) (fun _ _ _ h => h) (Or.inl ⟨by rfl, ?yr_5⟩) (by assumption) ?qr_5
                                          case yr_5 => (intro w hSw; (try dsimp only at hSw); go_simp)
                                          case qr_5 =>
                                            (try simp only [Act.put]); (try simp only [List.setIfInBounds_toArray])
                                            refine wpAnyH_take (i := 5) (v := (.slice (some ⟨gl, 0, none⟩) S.length cl)) rfl (by kernel_rfl) (by kernel_rfl) (by kernel_rfl) (fun _ _ _ h => h) (Or.inl ⟨by rfl, ?yr_6⟩) (by assumption) ?qr_6
                                            case yr_6 => (intro w hSw; (try dsimp only at hSw); go_simp)
                                            case qr_6 =>
                                              (try simp only [Act.put]); (try simp only [List.setIfInBounds_toArray])
                                              refine wpAnyH_take (i := 6) (v := (.pointer (some ⟨gn, 5, none⟩))) rfl (by kernel_rfl) (by kernel_rfl) (by kernel_rfl) (fun _ _ _ h => h) (Or.inl ⟨by rfl, ?yr_7⟩) (by assumption) ?qr_7
                                              case yr_7 => (intro w hSw; (try dsimp only at hSw); go_simp)
                                              case qr_7 =>
                                                (try simp only [Act.put]); (try simp only [List.setIfInBounds_toArray])
                                                refine wpAnyH_take (i := 7) (v := (.slice (some ⟨gk, 0, none⟩) n2 k2)) rfl (by kernel_rfl) (by kernel_rfl) (by kernel_rfl) (fun _ _ _ h => h) (Or.inl ⟨by rfl, ?yr_8⟩) (by assumption) ?qr_8
                                                case yr_8 => (intro w hSw; (try dsimp only at hSw); go_simp)
                                                case qr_8 =>
                                                  (try simp only [Act.put]); (try simp only [List.setIfInBounds_toArray])
                                                  refine wpAnyH_take (i := 8) (v := (.int .i64 q)) rfl (by kernel_rfl) (by kernel_rfl) (by kernel_rfl) (fun _ _ _ h => h) (Or.inl ⟨by rfl, ?yr_9⟩) (by assumption) ?qr_9
                                                  case yr_9 => (intro w hSw; (try dsimp only at hSw); go_simp)
                                                  case qr_9 =>
                                                    (try simp only [Act.put]); (try simp only [List.setIfInBounds_toArray])
                                                    refine wpAnyH_take (i := 9) (v := (.pointer (some ⟨gk, q, none⟩))) rfl (by kernel_rfl) (by kernel_rfl) (by kernel_rfl) (fun _ _ _ h => h) (Or.inl ⟨by rfl, ?yr_10⟩) (by assumption) ?qr_10
                                                    case yr_10 => (intro w hSw; (try dsimp only at hSw); go_simp)
                                                    case qr_10 =>
                                                      (try simp only [Act.put]); (try simp only [List.setIfInBounds_toArray])
                                                      refine wpAnyH_take (i := 10) (v := (.int .i64 x)) rfl (by kernel_rfl) (by kernel_rfl) (by kernel_rfl) (fun _ _ _ h => h) (Or.inl ⟨by rfl, ?yr_11⟩) (by assumption) ?qr_11
                                                      case yr_11 => (intro w hSw; (try dsimp only at hSw); go_simp)
                                                      case qr_11 =>
                                                        (try simp only [Act.put]); (try simp only [List.setIfInBounds_toArray])
                                                        refine wpAnyH_ready (rs := [11]) (by kernel_rfl) (by simp) ?_
                                                        refine AllReadyH.cons rfl (fun K hK => ?sr_12) ?mr_12
                                                        case sr_12 =>
                                                          (refine step_call _ (by rfl) 36 #[.slice (some ⟨gl, 0, none⟩) S.length cl, .int .i64 x] (by go_simp) (HIx.out _ HXc.out) ?_; rintro e Yb ⟨rfl, rfl⟩; refine ⟨_, rfl, ?_⟩)
                                                          refine hK.out _ _ ?kr_12 (fun hHeld => ?qr_12)
                                                          case kr_12 => ((try dsimp only); exact HSf.out _ HXc.out)
                                                          case qr_12 =>
                                                            clear hK K
                                                            (try simp only [Act.put]); (try simp only [List.setIfInBounds_toArray])
                                                            refine wpAnyH_take (i := 12) (v := (.int .i64 (next + ix))) rfl (by kernel_rfl) (by kernel_rfl) (by kernel_rfl) (fun _ _ _ h => h) (Or.inl ⟨by rfl, ?yr_13⟩) (by assumption) ?qr_13
                                                            case yr_13 => (intro w hSw; (try dsimp only at hSw); go_simp)
                                                            case qr_13 =>
                                                              (try simp only [Act.put]); (try simp only [List.setIfInBounds_toArray])
                                                              refine wpAnyH_done (by kernel_rfl) ?_ _
                                                              show wpList _ _ _ _ _ _
                                                              clear hHeld
                                                              have e0 := (HKd.out _ HXc.out).1
                                                              have hfz := (HKd.out _ HXc.out).2.1
                                                              have HS2 := Lib.hid (HKd.out _ HXc.out).2.2
                                                              clear hwr hix0 hix1
                                                              go_wp2_with fail
                                                              go_roundw
                                                              case rel => exact ⟨q + 1, by omega, by simp, HS2.out⟩
                                                              case measure => simp [intOf]; omega
                                                        case mr_12 =>
                                                          exact AllReadyH.nil
                              · skip
                                have hqn : q = n2 := by omega
                                subst hqn
                                have HC7 : Hid (CN wr gn { nd6 with kids := cpKids next S nd6.kids } ⟨⟨A1, n1, k1⟩, ⟨A2, q, k2⟩, ⟨A3, n3, k3⟩⟩ wx) := Lib.hid (by
                                  have := HCq.out
                                  rw [mapTo_all _ _ HN2.out] at this
                                  exact this)
                                clear HCq
                                go_wp2_with fail
                                clear b5
                                go_loopw [19] (fun v wx => ∃ u : Nat, u ≤ n3 ∧ v = .int .i64 u ∧ CN wr gn { nd6 with kids := cpKids next S nd6.kids, refs := mapTo (fun r => (r.1, freT next S r.2)) nd6.refs u } ⟨⟨A1, n1, k1⟩, ⟨A2, q, k2⟩, ⟨A3, n3, k3⟩⟩ wx) (fun v _ => n3 - (intOf v).toNat)
                                case atStart => exact ⟨0, Nat.zero_le _, rfl, by rw [mapTo_zero]; exact HC7.out⟩
                                case round =>
                                  clear HC7
                                  obtain ⟨u, hu, rfl, hcq⟩ := hrel
                                  rename World => wy
                                  have HCq := Lib.hid hcq
                                  clear hcq
                                  have b6 := HCq.out.box.cell 6
                                  simp at b6
                                  by_cases hul : u < n3
                                  · obtain ⟨r, hr⟩ : ∃ r, nd6.refs[u]? = some r := ⟨nd6.refs[u]'(by have := HN3.out; omega), List.getElem?_eq_getElem _⟩
                                    obtain ⟨gk, hA3, hk1, hk2, hgk, e0, e1, hfz, hset⟩ := HCq.out.ref (q := u) (mapTo_get hr)
                                    simp only at hA3 hk1 hk2
                                    subst hA3
                                    obtain ⟨ix, hix⟩ : ∃ ix, idxV S r.2 = ix := ⟨_, rfl⟩
                                    have hle := idxV_le S r.2
                                    have hge := idxV_ge S r.2
                                    rw [hix] at hle hge
                                    have hix0 := hle.1
                                    have hix1 := hle.2
                                    have hfr : freV next S r.2 = next + ix := by unfold freV; rw [hix]
                                    have HIx : Hid (Calls Try.prog 36 #[.slice (some ⟨gl, 0, none⟩) S.length cl, .int .i64 r.2] wy fun e w' => e = .returned (.int .i64 ix) ∧ wy = w') := Lib.hid (by
                                      have h1 := refIndex_any wy _ _ _ _ _ S r.2 (own_row (HF.out.after HCq.out.bel).p.p)
                                      rw [hix] at h1
                                      exact h1)
                                    cases hcn : S.contains r.2 with
                                    | true =>
                                      rw [hcn] at hge
                                      have HS2 : Hid (CN wr gn { nd6 with kids := cpKids next S nd6.kids, refs := mapTo (fun r => (r.1, freT next S r.2)) nd6.refs (u + 1) } ⟨⟨A1, n1, k1⟩, ⟨A2, q, k2⟩, ⟨some ⟨gk, 0, none⟩, n3, k3⟩⟩ (wy.setCell ⟨gk, u * 2 + 1, none⟩ (.int .i64 (next + ix)))) := Lib.hid (by
                                        have h1 := hset (next + ix)
                                        have h2 : (r.1, next + ix) = (fun r => (r.1, freT next S r.2)) r := by simp only [freT]; rw [if_pos hcn, hfr]
                                        rw [h2, mapTo_set (f := fun r => (r.1, freT next S r.2)) hr] at h1
                                        exact h1)
                                      have hge2 := of_decide_eq_true hge
                                      have m0 := (HF.out.after HCq.out.bel).p.a.m.cell 0
                                      simp at m0
                                      clear hset hcn hr hix hle hfr
                                      go_wp2_with (go_at_call 36; go_must (refine HIx.out.mono ?_; rintro e w9 ⟨rfl, rfl⟩))
                                      go_roundw
                                      case rel => exact ⟨u + 1, by omega, by simp, HS2.out⟩
                                      case measure => simp [intOf]; omega
                                    | false =>
                                      rw [hcn] at hge
                                      have HS2 : Hid (CN wr gn { nd6 with kids := cpKids next S nd6.kids, refs := mapTo (fun r => (r.1, freT next S r.2)) nd6.refs (u + 1) } ⟨⟨A1, n1, k1⟩, ⟨A2, q, k2⟩, ⟨some ⟨gk, 0, none⟩, n3, k3⟩⟩ wy) := Lib.hid (by
                                        have h2 : (fun r : ByteArray × Int => (r.1, freT next S r.2)) r = r := by simp only [freT]; rw [if_neg (by rw [hcn]; simp)]
                                        rw [mapTo_same hr h2]
                                        exact HCq.out)
                                      have hge2 := of_decide_eq_false hge
                                      clear hset hcn hr hix hle hfr
                                      go_wp2_with (go_at_call 36; go_must (refine HIx.out.mono ?_; rintro e w9 ⟨rfl, rfl⟩))
                                      go_roundw
                                      case rel => exact ⟨u + 1, by omega, by simp, HS2.out⟩
                                      case measure => simp [intOf]; omega
                                  · have hun : u = n3 := by omega
                                    subst hun
                                    obtain ⟨nd8, h8⟩ : ∃ x, x = { nd6 with kids := cpKids next S nd6.kids, refs := cpRefs next S nd6.refs } := ⟨_, rfl⟩
                                    have HC8 : Hid (CN wr gn nd8 ⟨⟨A1, n1, k1⟩, ⟨A2, q, k2⟩, ⟨A3, u, k3⟩⟩ wy) := Lib.hid (by
                                      have := HCq.out
                                      rw [mapTo_all _ _ HN3.out] at this
                                      rw [h8]
                                      exact this)
                                    have H8 := Lib.hid h8
                                    clear HCq h8 b6
                                    have b0 := HC8.out.box.cell 0
                                    have b1 := HC8.out.box.cell 1
                                    have b2 := HC8.out.box.cell 2
                                    have b3 := HC8.out.box.cell 3
                                    have b4 := HC8.out.box.cell 4
                                    have b5 := HC8.out.box.cell 5
                                    have b6 := HC8.out.box.cell 6
                                    simp at b0 b1 b2 b3 b4 b5 b6
                                    have HF8 := Lib.hid (HF.out.after HC8.out.bel)
                                    have o1 := HF8.out.out.cell 1
                                    simp at o1
                                    have HLf := Lib.hid (HC8.out.leaf.mono HF.out.p.a.bel.size)
                                    go_upto_region 34 with (fail)
                                    go_wp2_with (at_builtin; (with_reducible show wpList _ _ _ (⟨some 171, _, _, _, _, _⟩ :: _) _ _); go_must (refine wpList_app _ rfl (.tmp 168) (.tmp 170) _ rfl w.heap.size 44 i0 _ 7 120 Try.underlying22 hi0' hz0 hz1 hz2 rfl (by omega) v lo.length (allCells lo) (by go_simp) (own_after HF8.out.own.own (below_more (Below.refl _ _) _)) wy.heap.size (wy.heap.size + 1) (some ⟨wy.heap.size, 0, none⟩) 1 1 (ndCells (nd8, ⟨⟨A1, n1, k1⟩, ⟨A2, q, k2⟩, ⟨A3, u, k3⟩⟩)) (by go_simp) (row_blk (n := 1) (Blk.new' rfl) rfl (Nat.le_refl _) (by unfold maxLen; omega)) (by simp [ndCells, Value.oneCell']) (by unfold maxLen; omega) (by omega) (Nat.le_trans HF8.out.p.a.bel.size (by simp)) ?_); go_must (intro v7 w7 hown7 hg7 _; obtain ⟨A7, c7, rfl⟩ := own_form hown7; have HF9 := Lib.hid ((HF8.out.after (below_more (Below.refl _ _) _)).push hg7 hown7 (HLf.out.after (below_more (Below.refl _ _) _))); have o71 := HF9.out.out.cell 1; have o72 := HF9.out.out.frozen 1; simp at o71; have HFA := Lib.hid HF9.out.store; clear hown7 hg7))
                                    go_roundw
                                    case rel =>
                                      refine ⟨k + 1, _, _, by omega, by simp, HFA.out, Lib.hid ?_⟩
                                      rw [List.map_append, HT.out, cpsV_succ HY.out HND.out, ← List.append_assoc]
                                      congr 1
                                      show [nd8] = _
                                      rw [H8.out, HK6.out, HR6.out, H6.out]
                                      unfold cpNd
                                      rw [if_neg HK0.out, ← HFP.out]
                                    case measure => simp [intOf]; omega
                      case ms_6 =>
                        exact AllReadyH.nil

    · have hkn : k = S.length := by omega
      subst hkn
      have HLo : Hid (lo.length = n + S.length) := Lib.hid (by have := congrArg List.length HT.out; rw [List.length_map, List.length_append, cpsV_len, HLN0.out] at this; exact this)
      obtain ⟨A7, c7, hv7⟩ := own_form HF.out.own.own
      rw [HLo.out] at hv7
      subst hv7
      obtain ⟨G7, hG7⟩ := own_some' HF.out.own HLo.out (by omega)
      subst hG7
      have o0 := HF.out.out.cell 0
      have o1 := HF.out.out.cell 1
      have o3 := HF.out.out.frozen 0
      have m0 := HF.out.p.a.m.cell 0
      simp at o0 o1 m0
      go_upto_region 36 with (fail)
      have HX9 := Lib.hid (HF.out.setNx (next + S.length))
      generalize wr.setCell ⟨go, 0, none⟩ (.int .i64 (next + S.length)) = X9 at HX9 ⊢
      clear o0 o1 o3 m0
      have o0 := HX9.out.out.cell 0
      have o1 := HX9.out.out.cell 1
      have o7 := HX9.out.p.a.m.cell 0
      simp at o0 o1 o7
      have HPt := Lib.hid (HPu.out X9 G7 c7 lo HX9.out.own HLo.out HT.out)
      go_upto_region 37 with (go_at_call 33; (with_reducible refine HPt.out.mono ?_); go_must (rintro e w10 ⟨rfl, l', ho10, hg10, hm10⟩; have HX10 := Lib.hid (HX9.out.turned ho10 hg10); have HM10 := Lib.hid hm10; clear ho10 hg10 hm10))
      clear o0 o1 o7
      have HXd := Lib.hid (HX10.out.after (below_drew1 _))
      refine wp_region_held_tail 4 (fun X => X.cell? ⟨go, 0, none⟩ = some (.int .i64 (next + S.length)) ∧ X.cell? ⟨go, 1, none⟩ = some (.slice (some ⟨G7, 0, none⟩) (n + S.length) c7) ∧ X.cell? ⟨w.heap.size, 0, none⟩ = some (.int .i64 next)) (by kernel_rfl) (by kernel_rfl) ?hSz (fun hHeld => ?qz0)
      case hSz => exact ⟨(HXd.out.out.cell 0).trans rfl, (HXd.out.out.cell 1).trans rfl, (HXd.out.p.a.m.cell 0).trans rfl⟩
      case qz0 =>
        generalize w10.drew = wy at HXd hHeld ⊢
        have t0 := HXd.out.p.a.r.cell 0
        have t1 := HXd.out.p.a.r.cell 1
        have t2 := HXd.out.p.a.r.frozen 0
        have t3 := HXd.out.p.a.r.frozen 1
        have t4 := HXd.out.p.a.m.cell 0
        have t5 := HXd.out.out.cell 0
        have t6 := HXd.out.out.cell 1
        simp at t0 t1 t4 t5 t6
        simp only [List.take_succ_cons, List.take_zero, List.drop_succ_cons, List.drop_zero]
        refine wpAnyH_take (i := 0) (v := (.agg #[.int .i64 (next + S.length), .slice (some ⟨G7, 0, none⟩) (n + S.length) c7])) rfl (by kernel_rfl) (by kernel_rfl) (by kernel_rfl) (fun _ _ _ h => h) (Or.inl ⟨by rfl, ?yz_1⟩) (by assumption) ?qz_1
        case yz_1 => (intro w hSw; (try dsimp only at hSw); go_simp)
        case qz_1 =>
          (try simp only [Act.put]); (try simp only [List.setIfInBounds_toArray])
          refine wpAnyH_take (i := 1) (v := (.pointer (some ⟨w.heap.size, 0, none⟩))) rfl (by kernel_rfl) (by kernel_rfl) (by kernel_rfl) (fun _ _ _ h => h) (Or.inl ⟨by rfl, ?yz_2⟩) (by assumption) ?qz_2
          case yz_2 => (intro w hSw; (try dsimp only at hSw); go_simp)
          case qz_2 =>
            (try simp only [Act.put]); (try simp only [List.setIfInBounds_toArray])
            refine wpAnyH_take (i := 2) (v := (.int .i64 next)) rfl (by kernel_rfl) (by kernel_rfl) (by kernel_rfl) (fun _ _ _ h => h) (Or.inl ⟨by rfl, ?yz_3⟩) (by assumption) ?qz_3
            case yz_3 => (intro w hSw; (try dsimp only at hSw); go_simp)
            case qz_3 =>
              (try simp only [Act.put]); (try simp only [List.setIfInBounds_toArray])
              refine wpAnyH_ready (rs := [3]) (by kernel_rfl) (by simp) ?_
              refine AllReadyH.cons rfl (fun K hK => ?sz_4) ?mz_4
              case sz_4 =>
                (go_simp; have HSz : Hid (Blk ((wy.setCell ⟨w.heap.size + 1, 0, none⟩ (.int .i64 (next + S.length))).setCell ⟨w.heap.size + 1, 1, none⟩ (.slice (some ⟨G7, 0, none⟩) (n + S.length) c7)) go 24 #[.int .i64 (next + S.length), .slice (some ⟨G7, 0, none⟩) (n + S.length) c7] ∧ Blk ((wy.setCell ⟨w.heap.size + 1, 0, none⟩ (.int .i64 (next + S.length))).setCell ⟨w.heap.size + 1, 1, none⟩ (.slice (some ⟨G7, 0, none⟩) (n + S.length) c7)) w.heap.size 24 #[.int .i64 next, .slice A n c]) := Lib.hid ⟨(HXd.out.out.far (p := ⟨w.heap.size + 1, 0, none⟩) (Ne.symm HXd.out.n2) _).far (p := ⟨w.heap.size + 1, 1, none⟩) (Ne.symm HXd.out.n2) _, (HXd.out.p.a.m.far (p := ⟨w.heap.size + 1, 0, none⟩) (by simp) _).far (p := ⟨w.heap.size + 1, 1, none⟩) (by simp) _⟩)
                refine hK.out _ _ ?kz_4 (fun hHeld => ?qz_4)
                case kz_4 => ((try dsimp only); exact ⟨(HSz.out.1.cell 0).trans rfl, (HSz.out.1.cell 1).trans rfl, (HSz.out.2.cell 0).trans rfl⟩)
                case qz_4 =>
                  clear hK K
                  (try simp only [Act.put]); (try simp only [List.setIfInBounds_toArray])
                  refine wpAnyH_done (by kernel_rfl) ?_ _
                  show wpList _ _ _ _ _ _
                  go_wp2_with fail
                  (try rw [Exit.noGoto_ret])
                  (try simp only [Exit.inBlock, Exit.then])
                  refine bodyPost_ret (v := .tuple #[.agg #[.int .i64 (next + S.length), .slice (some ⟨G7, 0, none⟩) (n + S.length) c7], .int .i64 next, .int .i64 0]) ?hr rfl ?_
                  case hr =>
                    simp only [results, hres]
                    go_simp
                  have hl10 : l'.length = n + S.length := by have := congrArg List.length HM10.out; rw [List.length_map, HCLn.out] at this; exact this
                  exact ⟨next + S.length, next, some ⟨G7, 0, none⟩, n + S.length, c7, by rw [HE.out], (HXd.out.p.a.bel.setCell (p := ⟨w.heap.size + 1, 0, none⟩) (by simp) _).setCell (p := ⟨w.heap.size + 1, 1, none⟩) (by simp) _, fun h => absurd HE.out h, fun _ => ⟨by rw [HZL.out], rfl, l', (HXd.out.own.other HXd.out.p.a.r 0 _).other (HXd.out.p.a.r.set_ 0 _) 1 _, hl10, HM10.out⟩⟩
              case mz_4 =>
                exact AllReadyH.nil
end Go.Proofs.Ytfljndlmafcjeaa

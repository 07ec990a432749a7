/-
  WALKS: what there is in a model is told as the document says.
-/
import Derived.Test.YtmjkcbhkmkofjaaV14
import Derived.Test.YtmjkcbhkmkofjaaW19
import Derived.Test.YtmjkcbhkmkofjaaW20
namespace Go.Proofs.Ytmjkcbhkmkofjaa
open Go Go.RowKit Go.Sort
set_option linter.unusedVariables false
attribute [local go_sem ↓] Go.wp_at_zero Go.wp_at_succ

/-- the box of a model, and the one that was lent -/
structure LB (w : World) (next : Int) (A : Option Addr) (n c g1 : Nat) (A1 : Option Addr) (c1 B1 : Nat) (nds : List Nd) (l : List (Nd × Leaf)) (X : World) : Prop where
  m : M1 w next A n c X
  L : LentAt X B1 A1 n c1 nds l
  b : Blk X g1 24 #[.int .i64 next, .slice A1 n c1]
theorem LB.after {w X X' : World} {next : Int} {A A1 : Option Addr} {n c g1 c1 B1 : Nat} {nds : List Nd} {l : List (Nd × Leaf)} (h : LB w next A n c g1 A1 c1 B1 nds l X) (hb : Below X.heap.size X X') : LB w next A n c g1 A1 c1 B1 nds l X' := ⟨h.m.after hb, h.L.after hb, h.b.after hb⟩
/-- a node of the call's own, in a box -/
structure NO (B : Nat) (nd : Nd) (M : Leaf) (g : Nat) (X : World) : Prop where
  o : OwnLeaf X B nd M
  b : Blk X g 51 #[.int .i64 nd.id, .string nd.con, .int .i64 nd.par, .string nd.role, .slice M.p.A M.p.n M.p.c, .slice M.k.A M.k.n M.k.c, .slice M.r.A M.r.n M.r.c]
theorem NO.after {B g : Nat} {nd : Nd} {M : Leaf} {X X' : World} (h : NO B nd M g X) (hb : Below X.heap.size X X') : NO B nd M g X' := ⟨h.o.after hb, h.b.after hb⟩
/-- a list of the call's own -/
def IL (B : Nat) (A : Option Addr) (c : Nat) (l : List Int) (X : World) : Prop := X.ownsRow B 3 1 (.slice A l.length c) l.length (intCells l)
theorem IL.after {B c : Nat} {A : Option Addr} {l : List Int} {X X' : World} (h : IL B A c l X) (hb : Below X.heap.size X X') : IL B A c l X' := own_after h hb
theorem IL.spL {B c : Nat} {A : Option Addr} {l : List Int} {X : World} (h : IL B A c l X) : SpL X B ⟨⟨none, 0, 0⟩, ⟨A, l.length, c⟩, ⟨none, 0, 0⟩⟩ := ⟨⟨[], rfl, .inl ⟨rfl, rfl⟩⟩, ⟨_, h⟩, ⟨[], rfl, .inl ⟨rfl, rfl⟩⟩⟩
theorem ints_same {X : World} {B B' : Nat} {Ax Ay : Option Addr} {cx cy : Nat} {l : List Int} (h : IL B Ax cx l X) (h' : IL B' Ay cy l X) : Calls Try.prog 33 #[.slice Ax l.length cx, .slice Ay l.length cy] X (Ret X (.bool true)) := by
  have := drew_ret (refInts_any X _ _ _ _ Ax Ay _ cx _ cy l l (own_row h) (own_row h'))
  rwa [eqL_refl intE_refl] at this

set_option maxRecDepth 100000 in
set_option maxHeartbeats 6400000 in
theorem tells_any (w : World) (hi : Nat) (next id : Int) (role : ByteArray) (A : Option Addr) (n c : Nat) (nds : List Nd) (h : NodesIn w 0 hi A n c nds) (hh : hi ≤ w.heap.size) (hf : ∀ nd ∈ nds, Fits 1 nd) :
    Calls Try.prog 5 #[.agg #[.int .i64 next, .slice A n c], .int .i64 id, .string role] w (Ret w (.bool true)) := by
  have hc := h.2.2.1
  have hnc := h.2.1
  have HM0 := Lib.hid (M1.start w next A n c)
  by_cases hg : 300 < n
  · have HG : Hid (∀ X, Calls Try.prog 6 #[.agg #[.int .i64 next, .slice A n c]] X (Ret X (.bool true))) := Lib.hid fun X => great_any X next A n c hc hnc true (by rw [decide_eq_true_eq]; omega)
    clear h hf hc hnc hg
    go_enter Try.func5, Try.ntmps5
    go_wp2_with (go_at_call 6; go_must (refine (HG.out _).mono ?_; rintro e w1 ⟨rfl, hb1⟩; have HM1 := Lib.hid (HM0.out.after hb1); clear hb1))
    go_ret
    exact ret_b rfl rfl HM1.out.bel
  · have HG : Hid (∀ X, Calls Try.prog 6 #[.agg #[.int .i64 next, .slice A n c]] X (Ret X (.bool false))) := Lib.hid fun X => great_any X next A n c hc hnc false (by rw [decide_eq_false_iff_not]; omega)
    have HLe : Hid (∀ X, Below w.heap.size w X → Calls Try.prog 7 #[.agg #[.int .i64 next, .slice A n c]] X fun e w' => ∃ A1 c1 l, e = .returned (.agg #[.int .i64 next, .slice A1 n c1]) ∧ Below X.heap.size X w' ∧ LentAt w' X.heap.size A1 n c1 nds l) := Lib.hid fun X hX => lent_any X hi next A n c nds (h.below (hX.mono hh)) (Nat.le_trans hh hX.size) (by omega) hf
    obtain ⟨⟨nd, bb⟩, hfv⟩ : ∃ r, findV next nds id = r := ⟨_, rfl⟩
    obtain ⟨dv, hdv⟩ : ∃ r : Int, (depthR next nds id : Int) = r := ⟨_, rfl⟩
    obtain ⟨la, hla⟩ : ∃ r, orderR next nds = r := ⟨_, rfl⟩
    obtain ⟨lb, hlb⟩ : ∃ r, belowR next nds id = r := ⟨_, rfl⟩
    obtain ⟨lc, hlc⟩ : ∃ r, kidsR next nds id role = r := ⟨_, rfl⟩
    obtain ⟨ld, hld⟩ : ∃ r, usersR next nds id = r := ⟨_, rfl⟩
    have lent_in : ∀ {X A1 c1 l B}, LentAt X B A1 n c1 nds l → NodesIn X 0 X.heap.size A1 n c1 nds := fun hl => hl.nodesIn.mono (Nat.zero_le _) (Nat.le_refl _)
    have HPf : Hid (∀ X A1 c1 l B, LentAt X B A1 n c1 nds l → Calls Try.prog 24 #[.agg #[.int .i64 next, .slice A1 n c1], .int .i64 id] X (FindIs X (nd, bb))) := Lib.hid fun X A1 c1 l B hl => hfv ▸ find_any' X X.heap.size next id A1 n c1 nds (lent_in hl) (Nat.le_refl _) hf
    have HPd : Hid (∀ X A1 c1 l B, LentAt X B A1 n c1 nds l → Calls Try.prog 27 #[.agg #[.int .i64 next, .slice A1 n c1], .int .i64 id] X (Ret X (.int .i64 dv))) := Lib.hid fun X A1 c1 l B hl => hdv ▸ depthQ_any X X.heap.size next id A1 n c1 nds (lent_in hl) (Nat.le_refl _)
    have HPo : Hid (∀ X A1 c1 l B, LentAt X B A1 n c1 nds l → Calls Try.prog 29 #[.agg #[.int .i64 next, .slice A1 n c1]] X (ListR X la)) := Lib.hid fun X A1 c1 l B hl => hla ▸ order_any X X.heap.size next A1 n c1 nds (lent_in hl) (Nat.le_refl _)
    have HPb : Hid (∀ X A1 c1 l B, LentAt X B A1 n c1 nds l → Calls Try.prog 30 #[.agg #[.int .i64 next, .slice A1 n c1], .int .i64 id] X (ListR X lb)) := Lib.hid fun X A1 c1 l B hl => hlb ▸ below_any X X.heap.size next id A1 n c1 nds (lent_in hl) (Nat.le_refl _)
    have HPk : Hid (∀ X A1 c1 l B, LentAt X B A1 n c1 nds l → Calls Try.prog 31 #[.agg #[.int .i64 next, .slice A1 n c1], .int .i64 id, .string role] X (ListR X lc)) := Lib.hid fun X A1 c1 l B hl => hlc ▸ kidsQ_any X X.heap.size next id role A1 n c1 nds (lent_in hl) (Nat.le_refl _)
    have HPu : Hid (∀ X A1 c1 l B, LentAt X B A1 n c1 nds l → Calls Try.prog 32 #[.agg #[.int .i64 next, .slice A1 n c1], .int .i64 id] X (ListR X ld)) := Lib.hid fun X A1 c1 l B hl => hld ▸ users_any X X.heap.size next id A1 n c1 nds (lent_in hl) (Nat.le_refl _)
    have HRf : Hid (∀ X, Below w.heap.size w X → Calls Try.prog 25 #[.agg #[.int .i64 next, .slice A n c], .int .i64 id] X (FindAt X (nd, bb))) := Lib.hid fun X hX => hfv ▸ refFind_any X hi next id A n c nds (h.below (hX.mono hh)) (Nat.le_trans hh hX.size)
    have HRd : Hid (∀ X, Below w.heap.size w X → Calls Try.prog 28 #[.agg #[.int .i64 next, .slice A n c], .int .i64 id] X (Ret X (.int .i64 dv))) := Lib.hid fun X hX => hdv ▸ refDepthQ_any X hi next id A n c nds (h.below (hX.mono hh)) (Nat.le_trans hh hX.size)
    have HRo : Hid (∀ X, Below w.heap.size w X → Calls Try.prog 34 #[.agg #[.int .i64 next, .slice A n c]] X (ListR X la)) := Lib.hid fun X hX => hla ▸ refOrder_any X hi next A n c nds (h.below (hX.mono hh)) (Nat.le_trans hh hX.size)
    have HRb : Hid (∀ X, Below w.heap.size w X → Calls Try.prog 35 #[.agg #[.int .i64 next, .slice A n c], .int .i64 id] X (ListR X lb)) := Lib.hid fun X hX => hlb ▸ refBelowQ_any X hi next id A n c nds (h.below (hX.mono hh)) (Nat.le_trans hh hX.size)
    have HRk : Hid (∀ X, Below w.heap.size w X → Calls Try.prog 36 #[.agg #[.int .i64 next, .slice A n c], .int .i64 id, .string role] X (ListR X lc)) := Lib.hid fun X hX => hlc ▸ refKidsQ_any X hi next id role A n c nds (h.below (hX.mono hh)) (Nat.le_trans hh hX.size)
    have HRu : Hid (∀ X, Below w.heap.size w X → Calls Try.prog 37 #[.agg #[.int .i64 next, .slice A n c], .int .i64 id] X (ListR X ld)) := Lib.hid fun X hX => hld ▸ refUsers_any X hi next id A n c nds (h.below (hX.mono hh)) (Nat.le_trans hh hX.size)
    have HKe : Hid (∀ X, Below w.heap.size w X → ∀ A1 c1 l B, LentAt X B A1 n c1 nds l → Calls Try.prog 15 #[.agg #[.int .i64 next, .slice A1 n c1], .agg #[.int .i64 next, .slice A n c]] X (Ret X (.bool true))) := Lib.hid fun X hX A1 c1 l B hl => kept_any X B hi next A1 A n c1 n c nds l hl (h.below (hX.mono hh)) (Nat.le_trans hh hX.size)
    clear h hf hc hnc hg lent_in hfv hdv hla hlb hlc hld
    go_enter Try.func5, Try.ntmps5
    go_upto_region 3 with (go_at_call 6; go_must (refine (HG.out _).mono ?_; rintro e w1 ⟨rfl, hb1⟩; have hm1 := HM0.out.after hb1; have m10 := hm1.a.cell 0; have m11 := hm1.a.cell 1; simp at m10 m11; have HM1 := Lib.hid hm1; clear hm1 hb1))
    go_upto_region 4 with (go_at_call 7; go_must (refine (HLe.out _ HM1.out.bel).mono ?_; rintro e w2 ⟨A1, c1, l, rfl, hb2, hl2⟩; have HM2 := Lib.hid (HM1.out.after hb2); have HL2 := Lib.hid hl2; clear hb2 hl2))
    have HLB3 : Hid (LB w next A n c w2.heap.size A1 c1 w1.heap.size nds l (w2.alloc (.cells #[.int .i64 next, .slice A1 n c1] 24))) := Lib.hid ⟨HM2.out.after (below_more (Below.refl _ _) _), HL2.out.after (below_more (Below.refl _ _) _), Blk.new _ _ _⟩
    generalize w2.alloc (.cells #[.int .i64 next, .slice A1 n c1] 24) = X3 at HLB3 ⊢
    generalize w2.heap.size = g1 at HLB3 ⊢
    generalize w1.heap.size = B1 at HLB3
    clear m10 m11 HL2 HM2 HM1 HM0 HLe HG
    go_wp2_with fail
    go_loopw [8] (fun v wr => ∃ tq : Nat, tq ≤ 2 ∧ v = .int .i64 tq ∧ LB w next A n c g1 A1 c1 B1 nds l wr) (fun v _ => 2 - (intOf v).toNat)
    case atStart => exact ⟨0, by omega, rfl, HLB3.out⟩
    case round =>
      clear HLB3
      obtain ⟨tq, htq, rfl, hlb0⟩ := hrel
      rename World => wr
      have HLB0 := Lib.hid hlb0
      have k1 := (hlb0.b.cell 0).trans (show _ = some (.int .i64 next) from rfl)
      have k2 := (hlb0.b.cell 1).trans (show _ = some (.slice A1 n c1) from rfl)
      clear hlb0
      by_cases hlt : tq < 2
      · have d0 : decide ((tq : Int) < 2) = true := by rw [decide_eq_true_eq]; omega
        go_upto_region 8 with (go_at_call 24; go_must (refine (HPf.out _ _ _ _ _ HLB0.out.L).mono ?_; rintro e w4 ⟨⟨⟨Ap, np, cp⟩, ⟨Ak, nk, ck⟩, ⟨Ar, nr, cr⟩⟩, rfl, ho4, hb4⟩; have HLB4 := Lib.hid (HLB0.out.after hb4); have HO4 := Lib.hid ho4; have HE4 := Lib.hid hb4; clear hb4 ho4 k1 k2))
        have HB4 := Lib.hid (below_more (Below.refl w4.heap.size w4) (.cells #[.int .i64 nd.id, .string nd.con, .int .i64 nd.par, .string nd.role, .slice Ap np cp, .slice Ak nk ck, .slice Ar nr cr] 51))
        have HLB5 := Lib.hid (HLB4.out.after HB4.out)
        have HE5 := Lib.hid (HE4.out.trans (HB4.out.mono HE4.out.size))
        have HN5 : Hid (NO wr.heap.size nd ⟨⟨Ap, np, cp⟩, ⟨Ak, nk, ck⟩, ⟨Ar, nr, cr⟩⟩ w4.heap.size (w4.alloc (.cells #[.int .i64 nd.id, .string nd.con, .int .i64 nd.par, .string nd.role, .slice Ap np cp, .slice Ak nk ck, .slice Ar nr cr] 51))) := Lib.hid ⟨HO4.out.after HB4.out, Blk.new _ _ _⟩
        clear HB4 HO4 HE4 HLB4
        generalize w4.alloc (.cells #[.int .i64 nd.id, .string nd.con, .int .i64 nd.par, .string nd.role, .slice Ap np cp, .slice Ak nk ck, .slice Ar nr cr] 51) = X5 at HLB5 HE5 HN5 ⊢
        generalize w4.heap.size = g9 at HN5 ⊢
        have k3 := (HLB5.out.m.a.cell 0).trans (show _ = some (.int .i64 next) from rfl)
        have k4 := (HLB5.out.m.a.cell 1).trans (show _ = some (.slice A n c) from rfl)
        go_upto_region 9 with (go_at_call 25; go_must (refine (HRf.out _ HLB5.out.m.bel).mono ?_; rintro e w6 ⟨⟨⟨Bp, mp, dp⟩, ⟨Bk, mk, dk⟩, ⟨Br, mr, dr⟩⟩, rfl, ho6, hb6⟩; have HLB6 := Lib.hid (HLB5.out.after hb6); have HF6 := Lib.hid ho6; have HN6 := Lib.hid (HN5.out.after hb6); have HE6 := Lib.hid (HE5.out.trans (hb6.mono HE5.out.size)); clear hb6 ho6 k3 k4))
        have HB6 := Lib.hid (below_more (Below.refl w6.heap.size w6) (.cells #[.int .i64 nd.id, .string nd.con, .int .i64 nd.par, .string nd.role, .slice Bp mp dp, .slice Bk mk dk, .slice Br mr dr] 51))
        have HLB7 := Lib.hid (HLB6.out.after HB6.out)
        have HE7 := Lib.hid (HE6.out.trans (HB6.out.mono HE6.out.size))
        have HN7 := Lib.hid (HN6.out.after HB6.out)
        have HF7 := Lib.hid ((HF6.out.below HB6.out).mono (Nat.le_refl _) HB6.out.size)
        have HK7 := Lib.hid (Blk.new w6 51 #[.int .i64 nd.id, .string nd.con, .int .i64 nd.par, .string nd.role, .slice Bp mp dp, .slice Bk mk dk, .slice Br mr dr])
        clear HB6 HF6 HE6 HLB6 HN6 HLB5 HN5 HE5
        generalize w6.alloc (.cells #[.int .i64 nd.id, .string nd.con, .int .i64 nd.par, .string nd.role, .slice Bp mp dp, .slice Bk mk dk, .slice Br mr dr] 51) = X7 at HLB7 HE7 HN7 HF7 HK7 ⊢
        generalize w6.heap.size = g11 at HK7 ⊢
        have qa0 := cell_regrown ((HN7.out.b.cell 0).trans (show _ = some (.int .i64 nd.id) from rfl))
        have qa1 := cell_regrown ((HN7.out.b.cell 1).trans (show _ = some (.string nd.con) from rfl))
        have qa2 := cell_regrown ((HN7.out.b.cell 2).trans (show _ = some (.int .i64 nd.par) from rfl))
        have qa3 := cell_regrown ((HN7.out.b.cell 3).trans (show _ = some (.string nd.role) from rfl))
        have qa4 := cell_regrown ((HN7.out.b.cell 4).trans (show _ = some (.slice Ap np cp) from rfl))
        have qa5 := cell_regrown ((HN7.out.b.cell 5).trans (show _ = some (.slice Ak nk ck) from rfl))
        have qa6 := cell_regrown ((HN7.out.b.cell 6).trans (show _ = some (.slice Ar nr cr) from rfl))
        have qb0 := cell_regrown ((HK7.out.cell 0).trans (show _ = some (.int .i64 nd.id) from rfl))
        have qb1 := cell_regrown ((HK7.out.cell 1).trans (show _ = some (.string nd.con) from rfl))
        have qb2 := cell_regrown ((HK7.out.cell 2).trans (show _ = some (.int .i64 nd.par) from rfl))
        have qb3 := cell_regrown ((HK7.out.cell 3).trans (show _ = some (.string nd.role) from rfl))
        have qb4 := cell_regrown ((HK7.out.cell 4).trans (show _ = some (.slice Bp mp dp) from rfl))
        have qb5 := cell_regrown ((HK7.out.cell 5).trans (show _ = some (.slice Bk mk dk) from rfl))
        have qb6 := cell_regrown ((HK7.out.cell 6).trans (show _ = some (.slice Br mr dr) from rfl))
        have qc0 := cell_regrown ((HLB7.out.m.a.cell 0).trans (show _ = some (.int .i64 next) from rfl))
        have qc1 := cell_regrown ((HLB7.out.m.a.cell 1).trans (show _ = some (.slice A n c) from rfl))
        have qd0 := cell_regrown ((HLB7.out.b.cell 0).trans (show _ = some (.int .i64 next) from rfl))
        have qd1 := cell_regrown ((HLB7.out.b.cell 1).trans (show _ = some (.slice A1 n c1) from rfl))
        have HSN : Hid (∀ d os, Calls Try.prog 26 #[.agg #[.int .i64 nd.id, .string nd.con, .int .i64 nd.par, .string nd.role, .slice Ap np cp, .slice Ak nk ck, .slice Ar nr cr], .agg #[.int .i64 nd.id, .string nd.con, .int .i64 nd.par, .string nd.role, .slice Bp mp dp, .slice Bk mk dk, .slice Br mr dr]] (grow (redrawn X7 d) os) (Ret (grow (redrawn X7 d) os) (.bool true))) := Lib.hid fun d os => by
          have hz := below_regrown X7 d os
          have := refSameNode_any (grow (redrawn X7 d) os) (grow (redrawn X7 d) os).heap.size nd nd ⟨⟨Ap, np, cp⟩, ⟨Ak, nk, ck⟩, ⟨Ar, nr, cr⟩⟩ ⟨⟨Bp, mp, dp⟩, ⟨Bk, mk, dk⟩, ⟨Br, mr, dr⟩⟩ ((HN7.out.o.after hz).leafIn.mono (Nat.zero_le _) (Nat.le_refl _)) ((HF7.out.below hz).mono (Nat.le_refl _) hz.size) (Nat.le_refl _)
          rwa [nodeE_refl] at this
        have HDa : Hid (∀ d os, Calls Try.prog 27 #[.agg #[.int .i64 next, .slice A1 n c1], .int .i64 id] (grow (redrawn X7 d) os) (Ret (grow (redrawn X7 d) os) (.int .i64 dv))) := Lib.hid fun d os => HPd.out _ _ _ _ _ (HLB7.out.after (below_regrown X7 d os)).L
        have HDb : Hid (∀ d os, Calls Try.prog 28 #[.agg #[.int .i64 next, .slice A n c], .int .i64 id] (grow (redrawn X7 d) os) (Ret (grow (redrawn X7 d) os) (.int .i64 dv))) := Lib.hid fun d os => HRd.out _ (HLB7.out.after (below_regrown X7 d os)).m.bel
        refine wp_region_quiet_below (by kernel_rfl) (by kernel_rfl) ?_
        repeat (go_big_quiet_step ((first | (go_at_call 26; exact regrown_ret (HSN.out _ _)) | (go_at_call 27; exact regrown_ret (HDa.out _ _)) | (go_at_call 28; exact regrown_ret (HDb.out _ _)))))
        refine wpQuiet_nil ?_
        intro _ hw'
        obtain ⟨⟨dq, osq⟩, hw''⟩ := hw'
        subst hw''
        have hbq := (below_regrown X7 dq osq).trans ((below_drew1 _).mono (below_regrown X7 dq osq).size)
        have HLB := Lib.hid (HLB7.out.after hbq)
        have HE := Lib.hid (HE7.out.trans (hbq.mono HE7.out.size))
        have HN := Lib.hid (HN7.out.after hbq)
        clear hbq
        generalize grow (redrawn X7 dq) osq = w8 at HLB HE HN ⊢
        clear qa0 qa1 qa2 qa3 qa4 qa5 qa6 qb0 qb1 qb2 qb3 qb4 qb5 qb6 qc0 qc1 qd0 qd1 HSN HDa HDb HLB7 HE7 HN7 HF7 HK7
        go_upto_region 11 with (fail)
        have HSof : Hid (∀ X, LB w next A n c g1 A1 c1 B1 nds l X → X.cell? ⟨g1, 0, none⟩ = some (.int .i64 next) ∧ X.cell? ⟨g1, 1, none⟩ = some (.slice A1 n c1)) := Lib.hid fun X hX => ⟨(hX.b.cell 0).trans rfl, (hX.b.cell 1).trans rfl⟩
        refine wp_region_held_tail 12 (fun w' => w'.cell? ⟨g1, 0, none⟩ = some (.int .i64 next) ∧ w'.cell? ⟨g1, 1, none⟩ = some (.slice A1 n c1)) (by kernel_rfl) (by kernel_rfl) ?hSt (fun hHeld => ?qt0)
        case hSt => exact HSof.out _ HLB.out
        case qt0 =>
          generalize w8.drew = w9 at HLB HE HN hHeld ⊢
          simp only [List.take_succ_cons, List.take_zero, List.drop_succ_cons, List.drop_zero]
          refine wpAnyH_take (i := 0) (v := (.agg #[.int .i64 next, .slice A1 n c1])) rfl (by kernel_rfl) (by kernel_rfl) (by kernel_rfl) (fun _ _ _ h => h) (Or.inl ⟨by rfl, ?yt_1⟩) (by assumption) ?qt_1
          case yt_1 => (intro w hSw; (try dsimp only at hSw); go_simp)
          case qt_1 =>
            (try simp only [Act.put]); (try simp only [List.setIfInBounds_toArray])
            refine wpAnyH_take (i := 2) (v := (.agg #[.int .i64 next, .slice A1 n c1])) rfl (by kernel_rfl) (by kernel_rfl) (by kernel_rfl) (fun _ _ _ h => h) (Or.inl ⟨by rfl, ?yt_2⟩) (by assumption) ?qt_2
            case yt_2 => (intro w hSw; (try dsimp only at hSw); go_simp)
            case qt_2 =>
              (try simp only [Act.put]); (try simp only [List.setIfInBounds_toArray])
              refine wpAnyH_take (i := 3) (v := (.int .i64 id)) rfl (by kernel_rfl) (by kernel_rfl) (by kernel_rfl) (fun _ _ _ h => h) (Or.inl ⟨by rfl, ?yt_3⟩) (by assumption) ?qt_3
              case yt_3 => (intro w hSw; (try dsimp only at hSw); go_simp)
              case qt_3 =>
                (try simp only [Act.put]); (try simp only [List.setIfInBounds_toArray])
                refine wpAnyH_take (i := 5) (v := (.agg #[.int .i64 next, .slice A1 n c1])) rfl (by kernel_rfl) (by kernel_rfl) (by kernel_rfl) (fun _ _ _ h => h) (Or.inl ⟨by rfl, ?yt_4⟩) (by assumption) ?qt_4
                case yt_4 => (intro w hSw; (try dsimp only at hSw); go_simp)
                case qt_4 =>
                  (try simp only [Act.put]); (try simp only [List.setIfInBounds_toArray])
                  refine wpAnyH_take (i := 6) (v := (.int .i64 id)) rfl (by kernel_rfl) (by kernel_rfl) (by kernel_rfl) (fun _ _ _ h => h) (Or.inl ⟨by rfl, ?yt_5⟩) (by assumption) ?qt_5
                  case yt_5 => (intro w hSw; (try dsimp only at hSw); go_simp)
                  case qt_5 =>
                    (try simp only [Act.put]); (try simp only [List.setIfInBounds_toArray])
                    refine wpAnyH_take (i := 7) (v := (.string role)) rfl (by kernel_rfl) (by kernel_rfl) (by kernel_rfl) (fun _ _ _ h => h) (Or.inl ⟨by rfl, ?yt_6⟩) (by assumption) ?qt_6
                    case yt_6 => (intro w hSw; (try dsimp only at hSw); go_simp)
                    case qt_6 =>
                      (try simp only [Act.put]); (try simp only [List.setIfInBounds_toArray])
                      refine wpAnyH_take (i := 9) (v := (.agg #[.int .i64 next, .slice A1 n c1])) rfl (by kernel_rfl) (by kernel_rfl) (by kernel_rfl) (fun _ _ _ h => h) (Or.inl ⟨by rfl, ?yt_7⟩) (by assumption) ?qt_7
                      case yt_7 => (intro w hSw; (try dsimp only at hSw); go_simp)
                      case qt_7 =>
                        (try simp only [Act.put]); (try simp only [List.setIfInBounds_toArray])
                        refine wpAnyH_take (i := 10) (v := (.int .i64 id)) rfl (by kernel_rfl) (by kernel_rfl) (by kernel_rfl) (fun _ _ _ h => h) (Or.inl ⟨by rfl, ?yt_8⟩) (by assumption) ?qt_8
                        case yt_8 => (intro w hSw; (try dsimp only at hSw); go_simp)
                        case qt_8 =>
                          (try simp only [Act.put]); (try simp only [List.setIfInBounds_toArray])
                          refine wpAnyH_ready (rs := [1]) (by kernel_rfl) (by simp) ?_
                          refine AllReadyH.cons rfl (fun K hK => ?st_9) ?mt_9
                          case st_9 =>
                            (refine step_call _ (by rfl) 29 #[.agg #[.int .i64 next, .slice A1 n c1]] (by go_simp) (HPo.out _ _ _ _ _ HLB.out.L) ?_; rintro e Ya ⟨va, rfl, hva, hba⟩; refine ⟨_, rfl, ?_⟩; obtain ⟨Aa, ca, rfl⟩ := own_form hva; have hza := HE.out.size; replace HN := Lib.hid (HN.out.after hba); replace HLB := Lib.hid (HLB.out.after hba); replace HE := Lib.hid (HE.out.trans (hba.mono HE.out.size)); have HIa : Hid (IL wr.heap.size Aa ca la Ya) := Lib.hid (own_mono hva hza); clear hba hza; clear hva)
                            refine hK.out _ _ ?kt_9 (fun hHeld => ?qt_9)
                            case kt_9 => ((try dsimp only); exact HSof.out _ HLB.out)
                            case qt_9 =>
                              clear hK K
                              (try simp only [Act.put]); (try simp only [List.setIfInBounds_toArray])
                              refine wpAnyH_ready (rs := [4]) (by kernel_rfl) (by simp) ?_
                              refine AllReadyH.cons rfl (fun K hK => ?st_10) ?mt_10
                              case st_10 =>
                                (refine step_call _ (by rfl) 30 #[.agg #[.int .i64 next, .slice A1 n c1], .int .i64 id] (by go_simp) (HPb.out _ _ _ _ _ HLB.out.L) ?_; rintro e Yb ⟨vb, rfl, hvb, hbb⟩; refine ⟨_, rfl, ?_⟩; obtain ⟨Ab, cb, rfl⟩ := own_form hvb; have hzb := HE.out.size; replace HN := Lib.hid (HN.out.after hbb); replace HIa := Lib.hid (HIa.out.after hbb); replace HLB := Lib.hid (HLB.out.after hbb); replace HE := Lib.hid (HE.out.trans (hbb.mono HE.out.size)); have HIb : Hid (IL wr.heap.size Ab cb lb Yb) := Lib.hid (own_mono hvb hzb); clear hbb hzb; clear hvb)
                                refine hK.out _ _ ?kt_10 (fun hHeld => ?qt_10)
                                case kt_10 => ((try dsimp only); exact HSof.out _ HLB.out)
                                case qt_10 =>
                                  clear hK K
                                  (try simp only [Act.put]); (try simp only [List.setIfInBounds_toArray])
                                  refine wpAnyH_ready (rs := [8]) (by kernel_rfl) (by simp) ?_
                                  refine AllReadyH.cons rfl (fun K hK => ?st_11) ?mt_11
                                  case st_11 =>
                                    (refine step_call _ (by rfl) 31 #[.agg #[.int .i64 next, .slice A1 n c1], .int .i64 id, .string role] (by go_simp) (HPk.out _ _ _ _ _ HLB.out.L) ?_; rintro e Yc ⟨vc, rfl, hvc, hbc⟩; refine ⟨_, rfl, ?_⟩; obtain ⟨Ac, cc, rfl⟩ := own_form hvc; have hzc := HE.out.size; replace HN := Lib.hid (HN.out.after hbc); replace HIa := Lib.hid (HIa.out.after hbc); replace HIb := Lib.hid (HIb.out.after hbc); replace HLB := Lib.hid (HLB.out.after hbc); replace HE := Lib.hid (HE.out.trans (hbc.mono HE.out.size)); have HIc : Hid (IL wr.heap.size Ac cc lc Yc) := Lib.hid (own_mono hvc hzc); clear hbc hzc; clear hvc)
                                    refine hK.out _ _ ?kt_11 (fun hHeld => ?qt_11)
                                    case kt_11 => ((try dsimp only); exact HSof.out _ HLB.out)
                                    case qt_11 =>
                                      clear hK K
                                      (try simp only [Act.put]); (try simp only [List.setIfInBounds_toArray])
                                      refine wpAnyH_ready (rs := [11]) (by kernel_rfl) (by simp) ?_
                                      refine AllReadyH.cons rfl (fun K hK => ?st_12) ?mt_12
                                      case st_12 =>
                                        (refine step_call _ (by rfl) 32 #[.agg #[.int .i64 next, .slice A1 n c1], .int .i64 id] (by go_simp) (HPu.out _ _ _ _ _ HLB.out.L) ?_; rintro e Yd ⟨vd, rfl, hvd, hbd⟩; refine ⟨_, rfl, ?_⟩; obtain ⟨Ad, cd, rfl⟩ := own_form hvd; have hzd := HE.out.size; replace HN := Lib.hid (HN.out.after hbd); replace HIa := Lib.hid (HIa.out.after hbd); replace HIb := Lib.hid (HIb.out.after hbd); replace HIc := Lib.hid (HIc.out.after hbd); replace HLB := Lib.hid (HLB.out.after hbd); replace HE := Lib.hid (HE.out.trans (hbd.mono HE.out.size)); have HId : Hid (IL wr.heap.size Ad cd ld Yd) := Lib.hid (own_mono hvd hzd); clear hbd hzd; clear hvd)
                                        refine hK.out _ _ ?kt_12 (fun hHeld => ?qt_12)
                                        case kt_12 => ((try dsimp only); exact HSof.out _ HLB.out)
                                        case qt_12 =>
                                          clear hK K
                                          (try simp only [Act.put]); (try simp only [List.setIfInBounds_toArray])
                                          refine wpAnyH_done (by kernel_rfl) ?_ _
                                          clear hHeld
                                          show wpList _ _ _ _ _ _
                                          have m3 := (HLB.out.m.a.cell 0).trans (show _ = some (.int .i64 next) from rfl)
                                          have m4 := (HLB.out.m.a.cell 1).trans (show _ = some (.slice A n c) from rfl)
                                          go_upto_region 14 with (first | (go_at_call 34; go_must (refine (HRo.out _ HLB.out.m.bel).mono ?_; rintro e Y1 ⟨v1, rfl, hv1, hb1⟩; obtain ⟨Ja, ja, rfl⟩ := own_form hv1; have hz1 := HE.out.size; replace HN := Lib.hid (HN.out.after hb1); replace HIa := Lib.hid (HIa.out.after hb1); replace HIb := Lib.hid (HIb.out.after hb1); replace HIc := Lib.hid (HIc.out.after hb1); replace HId := Lib.hid (HId.out.after hb1); replace HLB := Lib.hid (HLB.out.after hb1); replace HE := Lib.hid (HE.out.trans (hb1.mono HE.out.size)); have HJa : Hid (IL wr.heap.size Ja ja la Y1) := Lib.hid (own_mono hv1 hz1); clear hb1 hz1; clear hv1; clear m3 m4; have m3 := (HLB.out.m.a.cell 0).trans (show _ = some (.int .i64 next) from rfl); have m4 := (HLB.out.m.a.cell 1).trans (show _ = some (.slice A n c) from rfl))) | (go_at_call_of 33 (Value.slice Aa la.length ca); go_must (refine (ints_same HIa.out HJa.out).mono ?_; rintro e Y2 ⟨rfl, hb2⟩; have hz2 := HE.out.size; replace HN := Lib.hid (HN.out.after hb2); replace HIa := Lib.hid (HIa.out.after hb2); replace HIb := Lib.hid (HIb.out.after hb2); replace HIc := Lib.hid (HIc.out.after hb2); replace HId := Lib.hid (HId.out.after hb2); replace HLB := Lib.hid (HLB.out.after hb2); replace HE := Lib.hid (HE.out.trans (hb2.mono HE.out.size)); clear hb2 hz2; clear m3 m4; have m3 := (HLB.out.m.a.cell 0).trans (show _ = some (.int .i64 next) from rfl); have m4 := (HLB.out.m.a.cell 1).trans (show _ = some (.slice A n c) from rfl); have k1 := (HLB.out.b.cell 0).trans (show _ = some (.int .i64 next) from rfl); have k2 := (HLB.out.b.cell 1).trans (show _ = some (.slice A1 n c1) from rfl))) | (go_at_call 35; go_must (refine (HRb.out _ HLB.out.m.bel).mono ?_; rintro e Y3 ⟨v3, rfl, hv3, hb3⟩; obtain ⟨Jb, jb, rfl⟩ := own_form hv3; have hz3 := HE.out.size; replace HN := Lib.hid (HN.out.after hb3); replace HIa := Lib.hid (HIa.out.after hb3); replace HIb := Lib.hid (HIb.out.after hb3); replace HIc := Lib.hid (HIc.out.after hb3); replace HId := Lib.hid (HId.out.after hb3); replace HLB := Lib.hid (HLB.out.after hb3); replace HE := Lib.hid (HE.out.trans (hb3.mono HE.out.size)); have HJb : Hid (IL wr.heap.size Jb jb lb Y3) := Lib.hid (own_mono hv3 hz3); clear hb3 hz3; clear hv3; clear m3 m4; have m3 := (HLB.out.m.a.cell 0).trans (show _ = some (.int .i64 next) from rfl); have m4 := (HLB.out.m.a.cell 1).trans (show _ = some (.slice A n c) from rfl))) | (go_at_call_of 33 (Value.slice Ab lb.length cb); go_must (refine (ints_same HIb.out HJb.out).mono ?_; rintro e Y4 ⟨rfl, hb4⟩; have hz4 := HE.out.size; replace HN := Lib.hid (HN.out.after hb4); replace HIa := Lib.hid (HIa.out.after hb4); replace HIb := Lib.hid (HIb.out.after hb4); replace HIc := Lib.hid (HIc.out.after hb4); replace HId := Lib.hid (HId.out.after hb4); replace HLB := Lib.hid (HLB.out.after hb4); replace HE := Lib.hid (HE.out.trans (hb4.mono HE.out.size)); clear hb4 hz4; clear m3 m4; have m3 := (HLB.out.m.a.cell 0).trans (show _ = some (.int .i64 next) from rfl); have m4 := (HLB.out.m.a.cell 1).trans (show _ = some (.slice A n c) from rfl); have k1 := (HLB.out.b.cell 0).trans (show _ = some (.int .i64 next) from rfl); have k2 := (HLB.out.b.cell 1).trans (show _ = some (.slice A1 n c1) from rfl))) | (go_at_call 36; go_must (refine (HRk.out _ HLB.out.m.bel).mono ?_; rintro e Y5 ⟨v5, rfl, hv5, hb5⟩; obtain ⟨Jc, jc, rfl⟩ := own_form hv5; have hz5 := HE.out.size; replace HN := Lib.hid (HN.out.after hb5); replace HIa := Lib.hid (HIa.out.after hb5); replace HIb := Lib.hid (HIb.out.after hb5); replace HIc := Lib.hid (HIc.out.after hb5); replace HId := Lib.hid (HId.out.after hb5); replace HLB := Lib.hid (HLB.out.after hb5); replace HE := Lib.hid (HE.out.trans (hb5.mono HE.out.size)); have HJc : Hid (IL wr.heap.size Jc jc lc Y5) := Lib.hid (own_mono hv5 hz5); clear hb5 hz5; clear hv5; clear m3 m4; have m3 := (HLB.out.m.a.cell 0).trans (show _ = some (.int .i64 next) from rfl); have m4 := (HLB.out.m.a.cell 1).trans (show _ = some (.slice A n c) from rfl))) | (go_at_call_of 33 (Value.slice Ac lc.length cc); go_must (refine (ints_same HIc.out HJc.out).mono ?_; rintro e Y6 ⟨rfl, hb6⟩; have hz6 := HE.out.size; replace HN := Lib.hid (HN.out.after hb6); replace HIa := Lib.hid (HIa.out.after hb6); replace HIb := Lib.hid (HIb.out.after hb6); replace HIc := Lib.hid (HIc.out.after hb6); replace HId := Lib.hid (HId.out.after hb6); replace HLB := Lib.hid (HLB.out.after hb6); replace HE := Lib.hid (HE.out.trans (hb6.mono HE.out.size)); clear hb6 hz6; clear m3 m4; have m3 := (HLB.out.m.a.cell 0).trans (show _ = some (.int .i64 next) from rfl); have m4 := (HLB.out.m.a.cell 1).trans (show _ = some (.slice A n c) from rfl); have k1 := (HLB.out.b.cell 0).trans (show _ = some (.int .i64 next) from rfl); have k2 := (HLB.out.b.cell 1).trans (show _ = some (.slice A1 n c1) from rfl))) | (go_at_call 37; go_must (refine (HRu.out _ HLB.out.m.bel).mono ?_; rintro e Y7 ⟨v7, rfl, hv7, hb7⟩; obtain ⟨Jd, jd, rfl⟩ := own_form hv7; have hz7 := HE.out.size; replace HN := Lib.hid (HN.out.after hb7); replace HIa := Lib.hid (HIa.out.after hb7); replace HIb := Lib.hid (HIb.out.after hb7); replace HIc := Lib.hid (HIc.out.after hb7); replace HId := Lib.hid (HId.out.after hb7); replace HLB := Lib.hid (HLB.out.after hb7); replace HE := Lib.hid (HE.out.trans (hb7.mono HE.out.size)); have HJd : Hid (IL wr.heap.size Jd jd ld Y7) := Lib.hid (own_mono hv7 hz7); clear hb7 hz7; clear hv7; clear m3 m4; have m3 := (HLB.out.m.a.cell 0).trans (show _ = some (.int .i64 next) from rfl); have m4 := (HLB.out.m.a.cell 1).trans (show _ = some (.slice A n c) from rfl))) | (go_at_call_of 33 (Value.slice Ad ld.length cd); go_must (refine (ints_same HId.out HJd.out).mono ?_; rintro e Y8 ⟨rfl, hb8⟩; have hz8 := HE.out.size; replace HN := Lib.hid (HN.out.after hb8); replace HIa := Lib.hid (HIa.out.after hb8); replace HIb := Lib.hid (HIb.out.after hb8); replace HIc := Lib.hid (HIc.out.after hb8); replace HId := Lib.hid (HId.out.after hb8); replace HLB := Lib.hid (HLB.out.after hb8); replace HE := Lib.hid (HE.out.trans (hb8.mono HE.out.size)); clear hb8 hz8; clear m3 m4; have m3 := (HLB.out.m.a.cell 0).trans (show _ = some (.int .i64 next) from rfl); have m4 := (HLB.out.m.a.cell 1).trans (show _ = some (.slice A n c) from rfl); have k1 := (HLB.out.b.cell 0).trans (show _ = some (.int .i64 next) from rfl); have k2 := (HLB.out.b.cell 1).trans (show _ = some (.slice A1 n c1) from rfl))) | (go_at_call 15; go_must (refine (HKe.out _ HLB.out.m.bel _ _ _ _ HLB.out.L).mono ?_; rintro e Yk ⟨rfl, hbk⟩; have hzk := HE.out.size; replace HN := Lib.hid (HN.out.after hbk); replace HIa := Lib.hid (HIa.out.after hbk); replace HIb := Lib.hid (HIb.out.after hbk); replace HIc := Lib.hid (HIc.out.after hbk); replace HId := Lib.hid (HId.out.after hbk); replace HLB := Lib.hid (HLB.out.after hbk); replace HE := Lib.hid (HE.out.trans (hbk.mono HE.out.size)); clear hbk hzk; clear m3 m4 k1 k2)))
                                          have n0 := (HN.out.b.cell 0).trans (show _ = some (.int .i64 nd.id) from rfl)
                                          have n1 := (HN.out.b.cell 1).trans (show _ = some (.string nd.con) from rfl)
                                          have n2 := (HN.out.b.cell 2).trans (show _ = some (.int .i64 nd.par) from rfl)
                                          have n3 := (HN.out.b.cell 3).trans (show _ = some (.string nd.role) from rfl)
                                          have n4 := (HN.out.b.cell 4).trans (show _ = some (.slice Ap np cp) from rfl)
                                          have n5 := (HN.out.b.cell 5).trans (show _ = some (.slice Ak nk ck) from rfl)
                                          have n6 := (HN.out.b.cell 6).trans (show _ = some (.slice Ar nr cr) from rfl)
                                          have HSp : Hid (Calls Try.prog 38 #[.agg #[.int .i64 0, .slice (some ⟨Yk.heap.size, 0, none⟩) 5 5]] (Yk.alloc (.cells #[.int .i64 nd.id, .string nd.con, .int .i64 nd.par, .string nd.role, .slice Ap np cp, .slice Ak nk ck, .slice Ar nr cr, .int .i64 0, .string ⟨#[]⟩, .int .i64 0, .string ⟨#[]⟩, .slice none 0 0, .slice Aa la.length ca, .slice none 0 0, .int .i64 0, .string ⟨#[]⟩, .int .i64 0, .string ⟨#[]⟩, .slice none 0 0, .slice Ab lb.length cb, .slice none 0 0, .int .i64 0, .string ⟨#[]⟩, .int .i64 0, .string ⟨#[]⟩, .slice none 0 0, .slice Ac lc.length cc, .slice none 0 0, .int .i64 0, .string ⟨#[]⟩, .int .i64 0, .string ⟨#[]⟩, .slice none 0 0, .slice Ad ld.length cd, .slice none 0 0] 51)) fun e w' => e = .returned (.tuple #[]) ∧ Below wr.heap.size (Yk.alloc (.cells #[.int .i64 nd.id, .string nd.con, .int .i64 nd.par, .string nd.role, .slice Ap np cp, .slice Ak nk ck, .slice Ar nr cr, .int .i64 0, .string ⟨#[]⟩, .int .i64 0, .string ⟨#[]⟩, .slice none 0 0, .slice Aa la.length ca, .slice none 0 0, .int .i64 0, .string ⟨#[]⟩, .int .i64 0, .string ⟨#[]⟩, .slice none 0 0, .slice Ab lb.length cb, .slice none 0 0, .int .i64 0, .string ⟨#[]⟩, .int .i64 0, .string ⟨#[]⟩, .slice none 0 0, .slice Ac lc.length cc, .slice none 0 0, .int .i64 0, .string ⟨#[]⟩, .int .i64 0, .string ⟨#[]⟩, .slice none 0 0, .slice Ad ld.length cd, .slice none 0 0] 51)) w') := Lib.hid (by
                                            have hbk := below_more (Below.refl Yk.heap.size Yk) (.cells #[.int .i64 nd.id, .string nd.con, .int .i64 nd.par, .string nd.role, .slice Ap np cp, .slice Ak nk ck, .slice Ar nr cr, .int .i64 0, .string ⟨#[]⟩, .int .i64 0, .string ⟨#[]⟩, .slice none 0 0, .slice Aa la.length ca, .slice none 0 0, .int .i64 0, .string ⟨#[]⟩, .int .i64 0, .string ⟨#[]⟩, .slice none 0 0, .slice Ab lb.length cb, .slice none 0 0, .int .i64 0, .string ⟨#[]⟩, .int .i64 0, .string ⟨#[]⟩, .slice none 0 0, .slice Ac lc.length cc, .slice none 0 0, .int .i64 0, .string ⟨#[]⟩, .int .i64 0, .string ⟨#[]⟩, .slice none 0 0, .slice Ad ld.length cd, .slice none 0 0] 51)
                                            have hsz := HE.out.size
                                            refine spoil_any _ wr.heap.size 0 (some ⟨Yk.heap.size, 0, none⟩) 5 5 [(nd, ⟨⟨Ap, np, cp⟩, ⟨Ak, nk, ck⟩, ⟨Ar, nr, cr⟩⟩), ({ zeroNd with kids := la }, ⟨⟨none, 0, 0⟩, ⟨Aa, la.length, ca⟩, ⟨none, 0, 0⟩⟩), ({ zeroNd with kids := lb }, ⟨⟨none, 0, 0⟩, ⟨Ab, lb.length, cb⟩, ⟨none, 0, 0⟩⟩), ({ zeroNd with kids := lc }, ⟨⟨none, 0, 0⟩, ⟨Ac, lc.length, cc⟩, ⟨none, 0, 0⟩⟩), ({ zeroNd with kids := ld }, ⟨⟨none, 0, 0⟩, ⟨Ad, ld.length, cd⟩, ⟨none, 0, 0⟩⟩)] ?_ rfl ?_ (Nat.le_trans hsz hbk.size)
                                            · exact ⟨rfl, .inr ⟨Yk.heap.size, 5, _, rfl, hsz, Blk.new _ _ _, Nat.le_refl _, by unfold maxLen; omega, rfl, rfl⟩⟩
                                            · intro p hp
                                              simp only [List.mem_cons, List.not_mem_nil, or_false] at hp
                                              rcases hp with rfl | rfl | rfl | rfl | rfl
                                              · exact (HN.out.o.after hbk).spL
                                              · exact (HIa.out.after hbk).spL
                                              · exact (HIb.out.after hbk).spL
                                              · exact (HIc.out.after hbk).spL
                                              · exact (HId.out.after hbk).spL)
                                          have HEk := Lib.hid (HE.out.trans ((below_more (Below.refl Yk.heap.size Yk) (.cells #[.int .i64 nd.id, .string nd.con, .int .i64 nd.par, .string nd.role, .slice Ap np cp, .slice Ak nk ck, .slice Ar nr cr, .int .i64 0, .string ⟨#[]⟩, .int .i64 0, .string ⟨#[]⟩, .slice none 0 0, .slice Aa la.length ca, .slice none 0 0, .int .i64 0, .string ⟨#[]⟩, .int .i64 0, .string ⟨#[]⟩, .slice none 0 0, .slice Ab lb.length cb, .slice none 0 0, .int .i64 0, .string ⟨#[]⟩, .int .i64 0, .string ⟨#[]⟩, .slice none 0 0, .slice Ac lc.length cc, .slice none 0 0, .int .i64 0, .string ⟨#[]⟩, .int .i64 0, .string ⟨#[]⟩, .slice none 0 0, .slice Ad ld.length cd, .slice none 0 0] 51)).mono HE.out.size))
                                          go_wp2_with (go_at_call 38; go_must (refine HSp.out.mono ?_; rintro e Yz ⟨rfl, hbz⟩; have HEz := Lib.hid (HEk.out.trans hbz); clear hbz))
                                          go_roundw
                                          case measure => simp only [intOf]; omega
                                          case rel => exact ⟨tq + 1, by omega, by simp, HLB0.out.after HEz.out⟩
                                      case mt_12 =>
                                        exact AllReadyH.nil
                                  case mt_11 =>
                                    exact AllReadyH.nil
                              case mt_10 =>
                                exact AllReadyH.nil
                          case mt_9 =>
                            exact AllReadyH.nil
      · have ht2 : tq = 2 := by omega
        subst ht2
        have k3 := (HLB0.out.m.a.cell 0).trans (show _ = some (.int .i64 next) from rfl)
        have k4 := (HLB0.out.m.a.cell 1).trans (show _ = some (.slice A n c) from rfl)
        go_wp2_with (go_at_call 15; go_must (refine (HKe.out _ HLB0.out.m.bel _ _ _ _ HLB0.out.L).mono ?_; rintro e w9 ⟨rfl, hb9⟩; have HLB9 := Lib.hid (HLB0.out.after hb9); clear hb9))
        go_ret
        exact ret_b rfl rfl HLB9.out.m.bel
end Go.Proofs.Ytmjkcbhkmkofjaa

/-
  WALKS: what a model and a word are is just what the document says.
-/
import Derived.Test.YtnhkghmgkfmiaaaW20
import Derived.Sort.AtCall
namespace Go.Proofs.Ytnhkghmgkfmiaaa
open Go Go.RowKit Go.Sort
set_option linter.unusedVariables false
attribute [local go_sem ↓] Go.wp_at_zero Go.wp_at_succ

theorem LentAt.other {w : World} {B n c : Nat} {A : Option Addr} {nds : List Nd} {l : List (Nd × Leaf)} (h : LentAt w B A n c nds l) {g : Nat} {cs : Array Value} (hg : Blk w g 24 cs) (i : Nat) (u : Value) : LentAt (w.setCell ⟨g, i, none⟩ u) B A n c nds l :=
  ⟨h.nds_, h.len, fun p hp => (h.leaf p hp).other hg (by decide) (by decide) (by decide) i u, h.some_, own_other h.own hg (by decide) i u, h.le, h.max⟩
/-- the two models, and what was lent of them -/
structure R4 (w : World) (x y : Int) (A A' : Option Addr) (n c m d : Nat) (nds nds' : List Nd) (g7 g8 : Nat) (A1 A2 : Option Addr) (c1 c2 : Nat) (l1 l2 : List (Nd × Leaf)) (B1 B2 : Nat) (wr : World) : Prop where
  md : M2 w x y A A' n c m d wr
  b7 : Blk wr g7 24 #[.int .i64 x, .slice A1 n c1]
  b8 : Blk wr g8 24 #[.int .i64 y, .slice A2 m c2]
  la : LentAt wr B1 A1 n c1 nds l1
  lb : LentAt wr B2 A2 m c2 nds' l2
theorem r4_of {w X : World} {x y : Int} {A A' : Option Addr} {n c m d : Nat} {nds nds' : List Nd} {g7 g8 : Nat} {A1 A2 : Option Addr} {c1 c2 : Nat} {l1 l2 : List (Nd × Leaf)} {B1 B2 : Nat} (hm : M2 w x y A A' n c m d X)
    (h7 : Blk X g7 24 #[.int .i64 0, .slice none 0 0]) (h8 : Blk X g8 24 #[.int .i64 0, .slice none 0 0]) (hne : g7 ≠ g8) (hg7 : w.heap.size + 1 < g7) (hg8 : w.heap.size + 1 < g8)
    (ha : LentAt X B1 A1 n c1 nds l1) (hb : LentAt X B2 A2 m c2 nds' l2) :
    R4 w x y A A' n c m d nds nds' g7 g8 A1 A2 c1 c2 l1 l2 B1 B2 ((((X.setCell ⟨g7, 0, none⟩ (.int .i64 x)).setCell ⟨g7, 1, none⟩ (.slice A1 n c1)).setCell ⟨g8, 0, none⟩ (.int .i64 y)).setCell ⟨g8, 1, none⟩ (.slice A2 m c2)) := by
  have k1 := h7.set_ 0 (.int .i64 x)
  have k2 := k1.set_ 1 (.slice A1 n c1)
  have j1 := h8.far (p := ⟨g7, 0, none⟩) (Ne.symm hne) (.int .i64 x)
  have j2 := j1.far (p := ⟨g7, 1, none⟩) (Ne.symm hne) (.slice A1 n c1)
  have j3 := j2.set_ 0 (.int .i64 y)
  have j4 := j3.set_ 1 (.slice A2 m c2)
  have k3 := k2.far (p := ⟨g8, 0, none⟩) hne (.int .i64 y)
  have k4 := k3.far (p := ⟨g8, 1, none⟩) hne (.slice A2 m c2)
  refine ⟨⟨?_, ?_, ?_⟩, by simpa using k4, by simpa using j4, (((ha.other h7 0 _).other k1 1 _).other j2 0 _).other j3 1 _, (((hb.other h7 0 _).other k1 1 _).other j2 0 _).other j3 1 _⟩
  · exact (((hm.a.far (by simp; omega) _).far (by simp; omega) _).far (by simp; omega) _).far (by simp; omega) _
  · exact (((hm.b.far (by simp; omega) _).far (by simp; omega) _).far (by simp; omega) _).far (by simp; omega) _
  · exact (((hm.bel.setCell (p := ⟨g7, 0, none⟩) (by simp; omega) _).setCell (p := ⟨g7, 1, none⟩) (by simp; omega) _).setCell (p := ⟨g8, 0, none⟩) (by simp; omega) _).setCell (p := ⟨g8, 1, none⟩) (by simp; omega) _

set_option maxRecDepth 100000 in
set_option maxHeartbeats 6400000 in
theorem checks_any (w : World) (hi : Nat) (x y : Int) (A A' : Option Addr) (n c m d : Nat) (nds nds' : List Nd) (s : ByteArray) (h : NodesIn w 0 hi A n c nds) (h' : NodesIn w 0 hi A' m d nds') (hh : hi ≤ w.heap.size) (hs : s.size ≤ maxLen)
    (hf : ∀ nd ∈ nds, Fits 1 nd) (hf' : ∀ nd ∈ nds', Fits 1 nd) :
    Calls Try.prog 3 #[.agg #[.int .i64 x, .slice A n c], .agg #[.int .i64 y, .slice A' m d], .string s] w (Ret w (.bool true)) := by
  have hc := h.2.2.1
  have hnc := h.2.1
  have hc' := h'.2.2.1
  have hnc' := h'.2.1
  have HM0 := Lib.hid (M2.start w x y A A' n c m d)
  obtain ⟨v, hv⟩ : ∃ v, checkV x nds = v := ⟨_, rfl⟩
  have HCk : Hid (∀ wr, Below w.heap.size w wr → ∀ d os, Calls Try.prog 9 #[.agg #[.int .i64 x, .slice A n c]] (grow (redrawn wr d) os) (Ret (grow (redrawn wr d) os) (.int .i64 v))) := Lib.hid fun wr hbr d os => by
    have hbz := hbr.trans ((below_regrown wr d os).mono hbr.size)
    rw [← hv]
    exact check_any _ hi x A n c nds (h.below (hbz.mono hh)) (Nat.le_trans hh hbz.size)
  have HCl : Hid (∀ wr, Below w.heap.size w wr → ∀ d os, Calls Try.prog 10 #[.agg #[.int .i64 x, .slice A n c]] (grow (redrawn wr d) os) (Ret (grow (redrawn wr d) os) (.int .i64 v))) := Lib.hid fun wr hbr d os => by
    have hbz := hbr.trans ((below_regrown wr d os).mono hbr.size)
    rw [← hv]
    exact lawCheck_any _ hi x A n c nds (h.below (hbz.mono hh)) (Nat.le_trans hh hbz.size)
  have HV := Lib.hid hv
  by_cases hg1 : 300 < n
  · have HG1 : Hid (∀ wr, Calls Try.prog 8 #[.agg #[.int .i64 x, .slice A n c]] wr (Ret wr (.bool true))) := Lib.hid fun wr => great_any _ x A n c hc hnc true (by rw [decide_eq_true_eq]; omega)
    clear h h' hf hf' hc hc' hv
    go_enter Try.func3, Try.ntmps3
    go_wp2_with (go_at_call_has 8 A; go_must (refine (HG1.out _).mono ?_; rintro e w1 ⟨rfl, hb1⟩; have hm1 := HM0.out.after hb1; have t0 := (hm1.a.cell 0).trans (show _ = some (.int .i64 x) from rfl); have t1 := (hm1.a.cell 1).trans (show _ = some (.slice A n c) from rfl); have t2 := (hm1.b.cell 0).trans (show _ = some (.int .i64 y) from rfl); have t3 := (hm1.b.cell 1).trans (show _ = some (.slice A' m d) from rfl); have HM1 := Lib.hid hm1; clear hm1 hb1))
    rename World => w2
    have HM2 := HM1
    have q0 := cell_regrown ((HM2.out.a.cell 0).trans (show _ = some (.int .i64 x) from rfl))
    have q1 := cell_regrown ((HM2.out.a.cell 1).trans (show _ = some (.slice A n c) from rfl))
    have q2 := cell_regrown ((HM2.out.b.cell 0).trans (show _ = some (.int .i64 y) from rfl))
    have q3 := cell_regrown ((HM2.out.b.cell 1).trans (show _ = some (.slice A' m d) from rfl))
    have HC1 : Hid (∀ d os, Calls Try.prog 9 #[.agg #[.int .i64 x, .slice A n c]] (grow (redrawn w2 d) os) (Ret (grow (redrawn w2 d) os) (.int .i64 v))) := Lib.hid (HCk.out w2 HM2.out.bel)
    have HC2 : Hid (∀ d os, Calls Try.prog 10 #[.agg #[.int .i64 x, .slice A n c]] (grow (redrawn w2 d) os) (Ret (grow (redrawn w2 d) os) (.int .i64 v))) := Lib.hid (HCl.out w2 HM2.out.bel)
    refine wp_region_quiet_below (by kernel_rfl) (by kernel_rfl) ?_
    repeat (go_big_quiet_step ((first | (go_at_call 9; exact regrown_ret (HC1.out _ _)) | (go_at_call 10; exact regrown_ret (HC2.out _ _)))))
    refine wpQuiet_nil ?_
    intro _ hw'
    obtain ⟨⟨dq, osq⟩, hw''⟩ := hw'
    subst hw''
    have HM3 := Lib.hid (HM2.out.after (below_regrown _ dq osq))
    generalize grow (redrawn _ dq) osq = w3 at HM3 ⊢
    go_wp2_with fail
    go_ret
    exact ret_b (by simp) rfl HM3.out.bel
  · have HG1 : Hid (∀ wr, Calls Try.prog 8 #[.agg #[.int .i64 x, .slice A n c]] wr (Ret wr (.bool false))) := Lib.hid fun wr => great_any _ x A n c hc hnc false (by rw [decide_eq_false_iff_not]; omega)
    by_cases hg2 : 300 < m
    · have HG2 : Hid (∀ wr, Calls Try.prog 8 #[.agg #[.int .i64 y, .slice A' m d]] wr (Ret wr (.bool true))) := Lib.hid fun wr => great_any _ y A' m d hc' hnc' true (by rw [decide_eq_true_eq]; omega)
      clear h h' hf hf' hc hc' hv
      go_enter Try.func3, Try.ntmps3
      go_wp2_with (first | (go_at_call_has 8 A; go_must (refine (HG1.out _).mono ?_; rintro e w1 ⟨rfl, hb1⟩; have hm1 := HM0.out.after hb1; have t0 := (hm1.a.cell 0).trans (show _ = some (.int .i64 x) from rfl); have t1 := (hm1.a.cell 1).trans (show _ = some (.slice A n c) from rfl); have t2 := (hm1.b.cell 0).trans (show _ = some (.int .i64 y) from rfl); have t3 := (hm1.b.cell 1).trans (show _ = some (.slice A' m d) from rfl); have HM1 := Lib.hid hm1; clear hm1 hb1)) | (go_at_call_has 8 A'; go_must (refine (HG2.out _).mono ?_; rintro e w2 ⟨rfl, hb2⟩; have HM2 := Lib.hid (HM1.out.after hb2); clear hb2 t0 t1 t2 t3)))
      have q0 := cell_regrown ((HM2.out.a.cell 0).trans (show _ = some (.int .i64 x) from rfl))
      have q1 := cell_regrown ((HM2.out.a.cell 1).trans (show _ = some (.slice A n c) from rfl))
      have q2 := cell_regrown ((HM2.out.b.cell 0).trans (show _ = some (.int .i64 y) from rfl))
      have q3 := cell_regrown ((HM2.out.b.cell 1).trans (show _ = some (.slice A' m d) from rfl))
      have HC1 : Hid (∀ d os, Calls Try.prog 9 #[.agg #[.int .i64 x, .slice A n c]] (grow (redrawn w2 d) os) (Ret (grow (redrawn w2 d) os) (.int .i64 v))) := Lib.hid (HCk.out w2 HM2.out.bel)
      have HC2 : Hid (∀ d os, Calls Try.prog 10 #[.agg #[.int .i64 x, .slice A n c]] (grow (redrawn w2 d) os) (Ret (grow (redrawn w2 d) os) (.int .i64 v))) := Lib.hid (HCl.out w2 HM2.out.bel)
      refine wp_region_quiet_below (by kernel_rfl) (by kernel_rfl) ?_
      repeat (go_big_quiet_step ((first | (go_at_call 9; exact regrown_ret (HC1.out _ _)) | (go_at_call 10; exact regrown_ret (HC2.out _ _)))))
      refine wpQuiet_nil ?_
      intro _ hw'
      obtain ⟨⟨dq, osq⟩, hw''⟩ := hw'
      subst hw''
      have HM3 := Lib.hid (HM2.out.after (below_regrown _ dq osq))
      generalize grow (redrawn _ dq) osq = w3 at HM3 ⊢
      go_wp2_with fail
      go_ret
      exact ret_b (by simp) rfl HM3.out.bel
    · have HG2 : Hid (∀ wr, Calls Try.prog 8 #[.agg #[.int .i64 y, .slice A' m d]] wr (Ret wr (.bool false))) := Lib.hid fun wr => great_any _ y A' m d hc' hnc' false (by rw [decide_eq_false_iff_not]; omega)
      go_enter Try.func3, Try.ntmps3
      go_wp2_with (first | (go_at_call_has 8 A; go_must (refine (HG1.out _).mono ?_; rintro e w1 ⟨rfl, hb1⟩; have hm1 := HM0.out.after hb1; have t0 := (hm1.a.cell 0).trans (show _ = some (.int .i64 x) from rfl); have t1 := (hm1.a.cell 1).trans (show _ = some (.slice A n c) from rfl); have t2 := (hm1.b.cell 0).trans (show _ = some (.int .i64 y) from rfl); have t3 := (hm1.b.cell 1).trans (show _ = some (.slice A' m d) from rfl); have HM1 := Lib.hid hm1; clear hm1 hb1)) | (go_at_call_has 8 A'; go_must (refine (HG2.out _).mono ?_; rintro e w2 ⟨rfl, hb2⟩; have HM2 := Lib.hid (HM1.out.after hb2); clear hb2 t0 t1 t2 t3)))
      have HSof : Hid (∀ X, Below w2.heap.size w2 X → Below w2.heap.size w2 X ∧ X.cell? ⟨w.heap.size, 0, none⟩ = some (.int .i64 x) ∧ X.cell? ⟨w.heap.size, 1, none⟩ = some (.slice A n c) ∧ X.cell? ⟨w.heap.size + 1, 0, none⟩ = some (.int .i64 y) ∧ X.cell? ⟨w.heap.size + 1, 1, none⟩ = some (.slice A' m d)) := Lib.hid fun X hb => ⟨hb, (hb.cell (p := ⟨_, _, none⟩) (by have := HM2.out.size; simp; omega)).trans ((HM2.out.a.cell 0).trans rfl), (hb.cell (p := ⟨_, _, none⟩) (by have := HM2.out.size; simp; omega)).trans ((HM2.out.a.cell 1).trans rfl), (hb.cell (p := ⟨_, _, none⟩) (by have := HM2.out.size; simp; omega)).trans ((HM2.out.b.cell 0).trans rfl), (hb.cell (p := ⟨_, _, none⟩) (by have := HM2.out.size; simp; omega)).trans ((HM2.out.b.cell 1).trans rfl)⟩
      have HLA : Hid (∀ X, Below w2.heap.size w2 X → Calls Try.prog 11 #[.agg #[.int .i64 x, .slice A n c]] X fun e w' => ∃ A1 c1 l, e = .returned (.agg #[.int .i64 x, .slice A1 n c1]) ∧ Below X.heap.size X w' ∧ LentAt w' X.heap.size A1 n c1 nds l) := Lib.hid fun X hb => by
        have hbz := HM2.out.bel.trans (hb.mono HM2.out.bel.size)
        exact lent_any X hi x A n c nds (h.below (hbz.mono hh)) (Nat.le_trans hh hbz.size) (by omega) hf
      have HLB : Hid (∀ X, Below w2.heap.size w2 X → Calls Try.prog 11 #[.agg #[.int .i64 y, .slice A' m d]] X fun e w' => ∃ A1 c1 l, e = .returned (.agg #[.int .i64 y, .slice A1 m c1]) ∧ Below X.heap.size X w' ∧ LentAt w' X.heap.size A1 m c1 nds' l) := Lib.hid fun X hb => by
        have hbz := HM2.out.bel.trans (hb.mono HM2.out.bel.size)
        exact lent_any X hi y A' m d nds' (h'.below (hbz.mono hh)) (Nat.le_trans hh hbz.size) (by omega) hf'
      go_cut [7, 8] (fun s7 s8 wx => ∃ (g7 g8 : Nat) (A1 A2 : Option Addr) (c1 c2 : Nat) (l1 l2 : List (Nd × Leaf)) (B1 B2 : Nat), s7 = .pointer (some ⟨g7, 0, none⟩) ∧ s8 = .pointer (some ⟨g8, 0, none⟩) ∧ Hid (R4 w x y A A' n c m d nds nds' g7 g8 A1 A2 c1 c2 l1 l2 B1 B2 wx))
      case first =>
        clear h h' hf hf' HG1 HG2 HCk HCl hc hc' hnc hnc' hv hs hg1 hg2
        have HBW := Lib.hid (Below.refl w2.heap.size w2)
        refine wp_region_held_tail 6 (fun w' => Below w2.heap.size w2 w' ∧ w'.cell? ⟨w.heap.size, 0, none⟩ = some (.int .i64 x) ∧ w'.cell? ⟨w.heap.size, 1, none⟩ = some (.slice A n c) ∧ w'.cell? ⟨w.heap.size + 1, 0, none⟩ = some (.int .i64 y) ∧ w'.cell? ⟨w.heap.size + 1, 1, none⟩ = some (.slice A' m d)) (by kernel_rfl) (by kernel_rfl) ?hSx (fun hHeld => ?qx0)
        case hSx => exact HSof.out _ (below_drew (Below.refl _ _))
        case qx0 =>
          replace HBW := Lib.hid (below_drew HBW.out)
          simp only [List.take_succ_cons, List.take_zero, List.drop_succ_cons, List.drop_zero]
          refine wpAnyH_take (i := 0) (v := (.agg #[.int .i64 x, .slice A n c])) rfl (by kernel_rfl) (by kernel_rfl) (by kernel_rfl) (fun _ _ _ h => h) (Or.inl ⟨by rfl, ?yx_1⟩) (by assumption) ?qx_1
          case yx_1 => (intro w hSw; (try dsimp only at hSw); go_simp)
          case qx_1 =>
            (try simp only [Act.put]); (try simp only [List.setIfInBounds_toArray])
            refine wpAnyH_take (i := 2) (v := (.agg #[.int .i64 y, .slice A' m d])) rfl (by kernel_rfl) (by kernel_rfl) (by kernel_rfl) (fun _ _ _ h => h) (Or.inl ⟨by rfl, ?yx_2⟩) (by assumption) ?qx_2
            case yx_2 => (intro w hSw; (try dsimp only at hSw); go_simp)
            case qx_2 =>
              (try simp only [Act.put]); (try simp only [List.setIfInBounds_toArray])
              refine wpAnyH_ready (rs := [1, 4, 5]) (by kernel_rfl) (by simp) ?_
              refine AllReadyH.cons rfl (fun K hK => ?sx_3) ?mx_3
              case sx_3 =>
                (refine step_call _ (by rfl) 11 #[.agg #[.int .i64 x, .slice A n c]] (by go_simp) (HLA.out _ HBW.out) ?_; rintro e Y1 ⟨A1, c1, l1, rfl, hb1, hl1⟩; refine ⟨_, rfl, ?_⟩; replace HBW := Lib.hid (HBW.out.trans (hb1.mono HBW.out.size)); have HA := Lib.hid hl1; clear hl1 hb1)
                refine hK.out _ _ ?kx_3 (fun hHeld => ?qx_3)
                case kx_3 => ((try dsimp only); exact HSof.out _ HBW.out)
                case qx_3 =>
                  clear hK K
                  (try simp only [Act.put]); (try simp only [List.setIfInBounds_toArray])
                  refine wpAnyH_ready (rs := [3, 4, 5]) (by kernel_rfl) (by simp) ?_
                  refine AllReadyH.cons rfl (fun K hK => ?sx_4) ?mx_4
                  case sx_4 =>
                    (refine step_call _ (by rfl) 11 #[.agg #[.int .i64 y, .slice A' m d]] (by go_simp) (HLB.out _ HBW.out) ?_; rintro e Y2 ⟨A2, c2, l2, rfl, hb2, hl2⟩; refine ⟨_, rfl, ?_⟩; replace HA := Lib.hid (HA.out.after hb2); replace HBW := Lib.hid (HBW.out.trans (hb2.mono HBW.out.size)); have HB := Lib.hid hl2; clear hl2 hb2)
                    refine hK.out _ _ ?kx_4 (fun hHeld => ?qx_4)
                    case kx_4 => ((try dsimp only); exact HSof.out _ HBW.out)
                    case qx_4 =>
                      clear hK K
                      (try simp only [Act.put]); (try simp only [List.setIfInBounds_toArray])
                      refine wpAnyH_ready (rs := [4, 5]) (by kernel_rfl) (by simp) ?_
                      refine AllReadyH.cons rfl (fun K hK => ?sx_5) ?mx_5
                      case sx_5 =>
                        (refine step_alloc _ (by rfl) 24 #[.int .i64 0, .slice none 0 0] (by go_simp) ?_; intro g7 Y7 hx7 hb7 hs7; have hz7 : w.heap.size + 1 < g7 := (by have h1 := HM2.out.size; have h2 := HBW.out.size; omega); replace HA := Lib.hid (HA.out.after hb7); replace HB := Lib.hid (HB.out.after hb7); replace HBW := Lib.hid (HBW.out.trans (hb7.mono HBW.out.size)); have H7 := Lib.hid hx7; clear hx7 hb7 hs7)
                        refine hK.out _ _ ?kx_5 (fun hHeld => ?qx_5)
                        case kx_5 => ((try dsimp only); exact HSof.out _ HBW.out)
                        case qx_5 =>
                          clear hK K
                          (try simp only [Act.put]); (try simp only [List.setIfInBounds_toArray])
                          refine wpAnyH_ready (rs := [5]) (by kernel_rfl) (by simp) ?_
                          refine AllReadyH.cons rfl (fun K hK => ?sx_6) ?mx_6
                          case sx_6 =>
                            (refine step_alloc _ (by rfl) 24 #[.int .i64 0, .slice none 0 0] (by go_simp) ?_; intro g8 Y8 hx8 hb8 hs8; have hz8 : w.heap.size + 1 < g8 := (by have h1 := HM2.out.size; have h2 := HBW.out.size; omega); have hne : g7 ≠ g8 := (by have := H7.out.lt; omega); replace HA := Lib.hid (HA.out.after hb8); replace HB := Lib.hid (HB.out.after hb8); replace H7 := Lib.hid (H7.out.after hb8); replace HBW := Lib.hid (HBW.out.trans (hb8.mono HBW.out.size)); have H8 := Lib.hid hx8; clear hx8 hb8 hs8)
                            refine hK.out _ _ ?kx_6 (fun hHeld => ?qx_6)
                            case kx_6 => ((try dsimp only); exact HSof.out _ HBW.out)
                            case qx_6 =>
                              clear hK K
                              (try simp only [Act.put]); (try simp only [List.setIfInBounds_toArray])
                              refine wpAnyH_done (by kernel_rfl) ?_ _
                              obtain ⟨hBe, he0, he1, he2, he3⟩ := hHeld
                              have k0 := H7.out.cell 0
                              have k1 := H7.out.cell 1
                              have k2 := H7.out.frozen 0
                              have k3 := H7.out.frozen 1
                              have j0 := H8.out.cell 0
                              have j1 := H8.out.cell 1
                              have j2 := H8.out.frozen 0
                              have j3 := H8.out.frozen 1
                              simp at k0 k1 j0 j1
                              show wpList _ _ _ _ _ _
                              go_wp2_with fail
                              go_meet
                              exact ⟨g7, g8, A1, A2, c1, c2, l1, l2, _, _, rfl, rfl, Lib.hid (r4_of (HM2.out.after HBW.out) H7.out H8.out hne hz7 hz8 HA.out HB.out)⟩
                          case mx_6 =>
                            exact AllReadyH.nil
                      case mx_5 =>
                        refine AllReadyH.cons rfl (fun K hK => ?sx_7) ?mx_7
                        case sx_7 =>
                          (refine step_alloc _ (by rfl) 24 #[.int .i64 0, .slice none 0 0] (by go_simp) ?_; intro g8 Y8 hx8 hb8 hs8; have hz8 : w.heap.size + 1 < g8 := (by have h1 := HM2.out.size; have h2 := HBW.out.size; omega); replace HA := Lib.hid (HA.out.after hb8); replace HB := Lib.hid (HB.out.after hb8); replace HBW := Lib.hid (HBW.out.trans (hb8.mono HBW.out.size)); have H8 := Lib.hid hx8; clear hx8 hb8 hs8)
                          refine hK.out _ _ ?kx_7 (fun hHeld => ?qx_7)
                          case kx_7 => ((try dsimp only); exact HSof.out _ HBW.out)
                          case qx_7 =>
                            clear hK K
                            (try simp only [Act.put]); (try simp only [List.setIfInBounds_toArray])
                            refine wpAnyH_ready (rs := [4]) (by kernel_rfl) (by simp) ?_
                            refine AllReadyH.cons rfl (fun K hK => ?sx_8) ?mx_8
                            case sx_8 =>
                              (refine step_alloc _ (by rfl) 24 #[.int .i64 0, .slice none 0 0] (by go_simp) ?_; intro g7 Y7 hx7 hb7 hs7; have hz7 : w.heap.size + 1 < g7 := (by have h1 := HM2.out.size; have h2 := HBW.out.size; omega); have hne : g7 ≠ g8 := (by have := H8.out.lt; omega); replace HA := Lib.hid (HA.out.after hb7); replace HB := Lib.hid (HB.out.after hb7); replace H8 := Lib.hid (H8.out.after hb7); replace HBW := Lib.hid (HBW.out.trans (hb7.mono HBW.out.size)); have H7 := Lib.hid hx7; clear hx7 hb7 hs7)
                              refine hK.out _ _ ?kx_8 (fun hHeld => ?qx_8)
                              case kx_8 => ((try dsimp only); exact HSof.out _ HBW.out)
                              case qx_8 =>
                                clear hK K
                                (try simp only [Act.put]); (try simp only [List.setIfInBounds_toArray])
                                refine wpAnyH_done (by kernel_rfl) ?_ _
                                obtain ⟨hBe, he0, he1, he2, he3⟩ := hHeld
                                have k0 := H7.out.cell 0
                                have k1 := H7.out.cell 1
                                have k2 := H7.out.frozen 0
                                have k3 := H7.out.frozen 1
                                have j0 := H8.out.cell 0
                                have j1 := H8.out.cell 1
                                have j2 := H8.out.frozen 0
                                have j3 := H8.out.frozen 1
                                simp at k0 k1 j0 j1
                                show wpList _ _ _ _ _ _
                                go_wp2_with fail
                                go_meet
                                exact ⟨g7, g8, A1, A2, c1, c2, l1, l2, _, _, rfl, rfl, Lib.hid (r4_of (HM2.out.after HBW.out) H7.out H8.out hne hz7 hz8 HA.out HB.out)⟩
                            case mx_8 =>
                              exact AllReadyH.nil
                        case mx_7 =>
                          exact AllReadyH.nil
                  case mx_4 =>
                    refine AllReadyH.cons rfl (fun K hK => ?sx_9) ?mx_9
                    case sx_9 =>
                      (refine step_alloc _ (by rfl) 24 #[.int .i64 0, .slice none 0 0] (by go_simp) ?_; intro g7 Y7 hx7 hb7 hs7; have hz7 : w.heap.size + 1 < g7 := (by have h1 := HM2.out.size; have h2 := HBW.out.size; omega); replace HA := Lib.hid (HA.out.after hb7); replace HBW := Lib.hid (HBW.out.trans (hb7.mono HBW.out.size)); have H7 := Lib.hid hx7; clear hx7 hb7 hs7)
                      refine hK.out _ _ ?kx_9 (fun hHeld => ?qx_9)
                      case kx_9 => ((try dsimp only); exact HSof.out _ HBW.out)
                      case qx_9 =>
                        clear hK K
                        (try simp only [Act.put]); (try simp only [List.setIfInBounds_toArray])
                        refine wpAnyH_ready (rs := [3, 5]) (by kernel_rfl) (by simp) ?_
                        refine AllReadyH.cons rfl (fun K hK => ?sx_10) ?mx_10
                        case sx_10 =>
                          (refine step_call _ (by rfl) 11 #[.agg #[.int .i64 y, .slice A' m d]] (by go_simp) (HLB.out _ HBW.out) ?_; rintro e Y2 ⟨A2, c2, l2, rfl, hb2, hl2⟩; refine ⟨_, rfl, ?_⟩; replace HA := Lib.hid (HA.out.after hb2); replace H7 := Lib.hid (H7.out.after hb2); replace HBW := Lib.hid (HBW.out.trans (hb2.mono HBW.out.size)); have HB := Lib.hid hl2; clear hl2 hb2)
                          refine hK.out _ _ ?kx_10 (fun hHeld => ?qx_10)
                          case kx_10 => ((try dsimp only); exact HSof.out _ HBW.out)
                          case qx_10 =>
                            clear hK K
                            (try simp only [Act.put]); (try simp only [List.setIfInBounds_toArray])
                            refine wpAnyH_ready (rs := [5]) (by kernel_rfl) (by simp) ?_
                            refine AllReadyH.cons rfl (fun K hK => ?sx_11) ?mx_11
                            case sx_11 =>
                              (refine step_alloc _ (by rfl) 24 #[.int .i64 0, .slice none 0 0] (by go_simp) ?_; intro g8 Y8 hx8 hb8 hs8; have hz8 : w.heap.size + 1 < g8 := (by have h1 := HM2.out.size; have h2 := HBW.out.size; omega); have hne : g7 ≠ g8 := (by have := H7.out.lt; omega); replace HA := Lib.hid (HA.out.after hb8); replace H7 := Lib.hid (H7.out.after hb8); replace HB := Lib.hid (HB.out.after hb8); replace HBW := Lib.hid (HBW.out.trans (hb8.mono HBW.out.size)); have H8 := Lib.hid hx8; clear hx8 hb8 hs8)
                              refine hK.out _ _ ?kx_11 (fun hHeld => ?qx_11)
                              case kx_11 => ((try dsimp only); exact HSof.out _ HBW.out)
                              case qx_11 =>
                                clear hK K
                                (try simp only [Act.put]); (try simp only [List.setIfInBounds_toArray])
                                refine wpAnyH_done (by kernel_rfl) ?_ _
                                obtain ⟨hBe, he0, he1, he2, he3⟩ := hHeld
                                have k0 := H7.out.cell 0
                                have k1 := H7.out.cell 1
                                have k2 := H7.out.frozen 0
                                have k3 := H7.out.frozen 1
                                have j0 := H8.out.cell 0
                                have j1 := H8.out.cell 1
                                have j2 := H8.out.frozen 0
                                have j3 := H8.out.frozen 1
                                simp at k0 k1 j0 j1
                                show wpList _ _ _ _ _ _
                                go_wp2_with fail
                                go_meet
                                exact ⟨g7, g8, A1, A2, c1, c2, l1, l2, _, _, rfl, rfl, Lib.hid (r4_of (HM2.out.after HBW.out) H7.out H8.out hne hz7 hz8 HA.out HB.out)⟩
                            case mx_11 =>
                              exact AllReadyH.nil
                        case mx_10 =>
                          refine AllReadyH.cons rfl (fun K hK => ?sx_12) ?mx_12
                          case sx_12 =>
                            (refine step_alloc _ (by rfl) 24 #[.int .i64 0, .slice none 0 0] (by go_simp) ?_; intro g8 Y8 hx8 hb8 hs8; have hz8 : w.heap.size + 1 < g8 := (by have h1 := HM2.out.size; have h2 := HBW.out.size; omega); have hne : g7 ≠ g8 := (by have := H7.out.lt; omega); replace HA := Lib.hid (HA.out.after hb8); replace H7 := Lib.hid (H7.out.after hb8); replace HBW := Lib.hid (HBW.out.trans (hb8.mono HBW.out.size)); have H8 := Lib.hid hx8; clear hx8 hb8 hs8)
                            refine hK.out _ _ ?kx_12 (fun hHeld => ?qx_12)
                            case kx_12 => ((try dsimp only); exact HSof.out _ HBW.out)
                            case qx_12 =>
                              clear hK K
                              (try simp only [Act.put]); (try simp only [List.setIfInBounds_toArray])
                              refine wpAnyH_ready (rs := [3]) (by kernel_rfl) (by simp) ?_
                              refine AllReadyH.cons rfl (fun K hK => ?sx_13) ?mx_13
                              case sx_13 =>
                                (refine step_call _ (by rfl) 11 #[.agg #[.int .i64 y, .slice A' m d]] (by go_simp) (HLB.out _ HBW.out) ?_; rintro e Y2 ⟨A2, c2, l2, rfl, hb2, hl2⟩; refine ⟨_, rfl, ?_⟩; replace HA := Lib.hid (HA.out.after hb2); replace H7 := Lib.hid (H7.out.after hb2); replace H8 := Lib.hid (H8.out.after hb2); replace HBW := Lib.hid (HBW.out.trans (hb2.mono HBW.out.size)); have HB := Lib.hid hl2; clear hl2 hb2)
                                refine hK.out _ _ ?kx_13 (fun hHeld => ?qx_13)
                                case kx_13 => ((try dsimp only); exact HSof.out _ HBW.out)
                                case qx_13 =>
                                  clear hK K
                                  (try simp only [Act.put]); (try simp only [List.setIfInBounds_toArray])
                                  refine wpAnyH_done (by kernel_rfl) ?_ _
                                  obtain ⟨hBe, he0, he1, he2, he3⟩ := hHeld
                                  have k0 := H7.out.cell 0
                                  have k1 := H7.out.cell 1
                                  have k2 := H7.out.frozen 0
                                  have k3 := H7.out.frozen 1
                                  have j0 := H8.out.cell 0
                                  have j1 := H8.out.cell 1
                                  have j2 := H8.out.frozen 0
                                  have j3 := H8.out.frozen 1
                                  simp at k0 k1 j0 j1
                                  show wpList _ _ _ _ _ _
                                  go_wp2_with fail
                                  go_meet
                                  exact ⟨g7, g8, A1, A2, c1, c2, l1, l2, _, _, rfl, rfl, Lib.hid (r4_of (HM2.out.after HBW.out) H7.out H8.out hne hz7 hz8 HA.out HB.out)⟩
                              case mx_13 =>
                                exact AllReadyH.nil
                          case mx_12 =>
                            exact AllReadyH.nil
                    case mx_9 =>
                      refine AllReadyH.cons rfl (fun K hK => ?sx_14) ?mx_14
                      case sx_14 =>
                        (refine step_alloc _ (by rfl) 24 #[.int .i64 0, .slice none 0 0] (by go_simp) ?_; intro g8 Y8 hx8 hb8 hs8; have hz8 : w.heap.size + 1 < g8 := (by have h1 := HM2.out.size; have h2 := HBW.out.size; omega); replace HA := Lib.hid (HA.out.after hb8); replace HBW := Lib.hid (HBW.out.trans (hb8.mono HBW.out.size)); have H8 := Lib.hid hx8; clear hx8 hb8 hs8)
                        refine hK.out _ _ ?kx_14 (fun hHeld => ?qx_14)
                        case kx_14 => ((try dsimp only); exact HSof.out _ HBW.out)
                        case qx_14 =>
                          clear hK K
                          (try simp only [Act.put]); (try simp only [List.setIfInBounds_toArray])
                          refine wpAnyH_ready (rs := [3, 4]) (by kernel_rfl) (by simp) ?_
                          refine AllReadyH.cons rfl (fun K hK => ?sx_15) ?mx_15
                          case sx_15 =>
                            (refine step_call _ (by rfl) 11 #[.agg #[.int .i64 y, .slice A' m d]] (by go_simp) (HLB.out _ HBW.out) ?_; rintro e Y2 ⟨A2, c2, l2, rfl, hb2, hl2⟩; refine ⟨_, rfl, ?_⟩; replace HA := Lib.hid (HA.out.after hb2); replace H8 := Lib.hid (H8.out.after hb2); replace HBW := Lib.hid (HBW.out.trans (hb2.mono HBW.out.size)); have HB := Lib.hid hl2; clear hl2 hb2)
                            refine hK.out _ _ ?kx_15 (fun hHeld => ?qx_15)
                            case kx_15 => ((try dsimp only); exact HSof.out _ HBW.out)
                            case qx_15 =>
                              clear hK K
                              (try simp only [Act.put]); (try simp only [List.setIfInBounds_toArray])
                              refine wpAnyH_ready (rs := [4]) (by kernel_rfl) (by simp) ?_
                              refine AllReadyH.cons rfl (fun K hK => ?sx_16) ?mx_16
                              case sx_16 =>
                                (refine step_alloc _ (by rfl) 24 #[.int .i64 0, .slice none 0 0] (by go_simp) ?_; intro g7 Y7 hx7 hb7 hs7; have hz7 : w.heap.size + 1 < g7 := (by have h1 := HM2.out.size; have h2 := HBW.out.size; omega); have hne : g7 ≠ g8 := (by have := H8.out.lt; omega); replace HA := Lib.hid (HA.out.after hb7); replace H8 := Lib.hid (H8.out.after hb7); replace HB := Lib.hid (HB.out.after hb7); replace HBW := Lib.hid (HBW.out.trans (hb7.mono HBW.out.size)); have H7 := Lib.hid hx7; clear hx7 hb7 hs7)
                                refine hK.out _ _ ?kx_16 (fun hHeld => ?qx_16)
                                case kx_16 => ((try dsimp only); exact HSof.out _ HBW.out)
                                case qx_16 =>
                                  clear hK K
                                  (try simp only [Act.put]); (try simp only [List.setIfInBounds_toArray])
                                  refine wpAnyH_done (by kernel_rfl) ?_ _
                                  obtain ⟨hBe, he0, he1, he2, he3⟩ := hHeld
                                  have k0 := H7.out.cell 0
                                  have k1 := H7.out.cell 1
                                  have k2 := H7.out.frozen 0
                                  have k3 := H7.out.frozen 1
                                  have j0 := H8.out.cell 0
                                  have j1 := H8.out.cell 1
                                  have j2 := H8.out.frozen 0
                                  have j3 := H8.out.frozen 1
                                  simp at k0 k1 j0 j1
                                  show wpList _ _ _ _ _ _
                                  go_wp2_with fail
                                  go_meet
                                  exact ⟨g7, g8, A1, A2, c1, c2, l1, l2, _, _, rfl, rfl, Lib.hid (r4_of (HM2.out.after HBW.out) H7.out H8.out hne hz7 hz8 HA.out HB.out)⟩
                              case mx_16 =>
                                exact AllReadyH.nil
                          case mx_15 =>
                            refine AllReadyH.cons rfl (fun K hK => ?sx_17) ?mx_17
                            case sx_17 =>
                              (refine step_alloc _ (by rfl) 24 #[.int .i64 0, .slice none 0 0] (by go_simp) ?_; intro g7 Y7 hx7 hb7 hs7; have hz7 : w.heap.size + 1 < g7 := (by have h1 := HM2.out.size; have h2 := HBW.out.size; omega); have hne : g7 ≠ g8 := (by have := H8.out.lt; omega); replace HA := Lib.hid (HA.out.after hb7); replace H8 := Lib.hid (H8.out.after hb7); replace HBW := Lib.hid (HBW.out.trans (hb7.mono HBW.out.size)); have H7 := Lib.hid hx7; clear hx7 hb7 hs7)
                              refine hK.out _ _ ?kx_17 (fun hHeld => ?qx_17)
                              case kx_17 => ((try dsimp only); exact HSof.out _ HBW.out)
                              case qx_17 =>
                                clear hK K
                                (try simp only [Act.put]); (try simp only [List.setIfInBounds_toArray])
                                refine wpAnyH_ready (rs := [3]) (by kernel_rfl) (by simp) ?_
                                refine AllReadyH.cons rfl (fun K hK => ?sx_18) ?mx_18
                                case sx_18 =>
                                  (refine step_call _ (by rfl) 11 #[.agg #[.int .i64 y, .slice A' m d]] (by go_simp) (HLB.out _ HBW.out) ?_; rintro e Y2 ⟨A2, c2, l2, rfl, hb2, hl2⟩; refine ⟨_, rfl, ?_⟩; replace HA := Lib.hid (HA.out.after hb2); replace H8 := Lib.hid (H8.out.after hb2); replace H7 := Lib.hid (H7.out.after hb2); replace HBW := Lib.hid (HBW.out.trans (hb2.mono HBW.out.size)); have HB := Lib.hid hl2; clear hl2 hb2)
                                  refine hK.out _ _ ?kx_18 (fun hHeld => ?qx_18)
                                  case kx_18 => ((try dsimp only); exact HSof.out _ HBW.out)
                                  case qx_18 =>
                                    clear hK K
                                    (try simp only [Act.put]); (try simp only [List.setIfInBounds_toArray])
                                    refine wpAnyH_done (by kernel_rfl) ?_ _
                                    obtain ⟨hBe, he0, he1, he2, he3⟩ := hHeld
                                    have k0 := H7.out.cell 0
                                    have k1 := H7.out.cell 1
                                    have k2 := H7.out.frozen 0
                                    have k3 := H7.out.frozen 1
                                    have j0 := H8.out.cell 0
                                    have j1 := H8.out.cell 1
                                    have j2 := H8.out.frozen 0
                                    have j3 := H8.out.frozen 1
                                    simp at k0 k1 j0 j1
                                    show wpList _ _ _ _ _ _
                                    go_wp2_with fail
                                    go_meet
                                    exact ⟨g7, g8, A1, A2, c1, c2, l1, l2, _, _, rfl, rfl, Lib.hid (r4_of (HM2.out.after HBW.out) H7.out H8.out hne hz7 hz8 HA.out HB.out)⟩
                                case mx_18 =>
                                  exact AllReadyH.nil
                            case mx_17 =>
                              exact AllReadyH.nil
                      case mx_14 =>
                        exact AllReadyH.nil
              case mx_3 =>
                refine AllReadyH.cons rfl (fun K hK => ?sx_19) ?mx_19
                case sx_19 =>
                  (refine step_alloc _ (by rfl) 24 #[.int .i64 0, .slice none 0 0] (by go_simp) ?_; intro g7 Y7 hx7 hb7 hs7; have hz7 : w.heap.size + 1 < g7 := (by have h1 := HM2.out.size; have h2 := HBW.out.size; omega); replace HBW := Lib.hid (HBW.out.trans (hb7.mono HBW.out.size)); have H7 := Lib.hid hx7; clear hx7 hb7 hs7)
                  refine hK.out _ _ ?kx_19 (fun hHeld => ?qx_19)
                  case kx_19 => ((try dsimp only); exact HSof.out _ HBW.out)
                  case qx_19 =>
                    clear hK K
                    (try simp only [Act.put]); (try simp only [List.setIfInBounds_toArray])
                    refine wpAnyH_ready (rs := [1, 5]) (by kernel_rfl) (by simp) ?_
                    refine AllReadyH.cons rfl (fun K hK => ?sx_20) ?mx_20
                    case sx_20 =>
                      (refine step_call _ (by rfl) 11 #[.agg #[.int .i64 x, .slice A n c]] (by go_simp) (HLA.out _ HBW.out) ?_; rintro e Y1 ⟨A1, c1, l1, rfl, hb1, hl1⟩; refine ⟨_, rfl, ?_⟩; replace H7 := Lib.hid (H7.out.after hb1); replace HBW := Lib.hid (HBW.out.trans (hb1.mono HBW.out.size)); have HA := Lib.hid hl1; clear hl1 hb1)
                      refine hK.out _ _ ?kx_20 (fun hHeld => ?qx_20)
                      case kx_20 => ((try dsimp only); exact HSof.out _ HBW.out)
                      case qx_20 =>
                        clear hK K
                        (try simp only [Act.put]); (try simp only [List.setIfInBounds_toArray])
                        refine wpAnyH_ready (rs := [3, 5]) (by kernel_rfl) (by simp) ?_
                        refine AllReadyH.cons rfl (fun K hK => ?sx_21) ?mx_21
                        case sx_21 =>
                          (refine step_call _ (by rfl) 11 #[.agg #[.int .i64 y, .slice A' m d]] (by go_simp) (HLB.out _ HBW.out) ?_; rintro e Y2 ⟨A2, c2, l2, rfl, hb2, hl2⟩; refine ⟨_, rfl, ?_⟩; replace H7 := Lib.hid (H7.out.after hb2); replace HA := Lib.hid (HA.out.after hb2); replace HBW := Lib.hid (HBW.out.trans (hb2.mono HBW.out.size)); have HB := Lib.hid hl2; clear hl2 hb2)
                          refine hK.out _ _ ?kx_21 (fun hHeld => ?qx_21)
                          case kx_21 => ((try dsimp only); exact HSof.out _ HBW.out)
                          case qx_21 =>
                            clear hK K
                            (try simp only [Act.put]); (try simp only [List.setIfInBounds_toArray])
                            refine wpAnyH_ready (rs := [5]) (by kernel_rfl) (by simp) ?_
                            refine AllReadyH.cons rfl (fun K hK => ?sx_22) ?mx_22
                            case sx_22 =>
                              (refine step_alloc _ (by rfl) 24 #[.int .i64 0, .slice none 0 0] (by go_simp) ?_; intro g8 Y8 hx8 hb8 hs8; have hz8 : w.heap.size + 1 < g8 := (by have h1 := HM2.out.size; have h2 := HBW.out.size; omega); have hne : g7 ≠ g8 := (by have := H7.out.lt; omega); replace H7 := Lib.hid (H7.out.after hb8); replace HA := Lib.hid (HA.out.after hb8); replace HB := Lib.hid (HB.out.after hb8); replace HBW := Lib.hid (HBW.out.trans (hb8.mono HBW.out.size)); have H8 := Lib.hid hx8; clear hx8 hb8 hs8)
                              refine hK.out _ _ ?kx_22 (fun hHeld => ?qx_22)
                              case kx_22 => ((try dsimp only); exact HSof.out _ HBW.out)
                              case qx_22 =>
                                clear hK K
                                (try simp only [Act.put]); (try simp only [List.setIfInBounds_toArray])
                                refine wpAnyH_done (by kernel_rfl) ?_ _
                                obtain ⟨hBe, he0, he1, he2, he3⟩ := hHeld
                                have k0 := H7.out.cell 0
                                have k1 := H7.out.cell 1
                                have k2 := H7.out.frozen 0
                                have k3 := H7.out.frozen 1
                                have j0 := H8.out.cell 0
                                have j1 := H8.out.cell 1
                                have j2 := H8.out.frozen 0
                                have j3 := H8.out.frozen 1
                                simp at k0 k1 j0 j1
                                show wpList _ _ _ _ _ _
                                go_wp2_with fail
                                go_meet
                                exact ⟨g7, g8, A1, A2, c1, c2, l1, l2, _, _, rfl, rfl, Lib.hid (r4_of (HM2.out.after HBW.out) H7.out H8.out hne hz7 hz8 HA.out HB.out)⟩
                            case mx_22 =>
                              exact AllReadyH.nil
                        case mx_21 =>
                          refine AllReadyH.cons rfl (fun K hK => ?sx_23) ?mx_23
                          case sx_23 =>
                            (refine step_alloc _ (by rfl) 24 #[.int .i64 0, .slice none 0 0] (by go_simp) ?_; intro g8 Y8 hx8 hb8 hs8; have hz8 : w.heap.size + 1 < g8 := (by have h1 := HM2.out.size; have h2 := HBW.out.size; omega); have hne : g7 ≠ g8 := (by have := H7.out.lt; omega); replace H7 := Lib.hid (H7.out.after hb8); replace HA := Lib.hid (HA.out.after hb8); replace HBW := Lib.hid (HBW.out.trans (hb8.mono HBW.out.size)); have H8 := Lib.hid hx8; clear hx8 hb8 hs8)
                            refine hK.out _ _ ?kx_23 (fun hHeld => ?qx_23)
                            case kx_23 => ((try dsimp only); exact HSof.out _ HBW.out)
                            case qx_23 =>
                              clear hK K
                              (try simp only [Act.put]); (try simp only [List.setIfInBounds_toArray])
                              refine wpAnyH_ready (rs := [3]) (by kernel_rfl) (by simp) ?_
                              refine AllReadyH.cons rfl (fun K hK => ?sx_24) ?mx_24
                              case sx_24 =>
                                (refine step_call _ (by rfl) 11 #[.agg #[.int .i64 y, .slice A' m d]] (by go_simp) (HLB.out _ HBW.out) ?_; rintro e Y2 ⟨A2, c2, l2, rfl, hb2, hl2⟩; refine ⟨_, rfl, ?_⟩; replace H7 := Lib.hid (H7.out.after hb2); replace HA := Lib.hid (HA.out.after hb2); replace H8 := Lib.hid (H8.out.after hb2); replace HBW := Lib.hid (HBW.out.trans (hb2.mono HBW.out.size)); have HB := Lib.hid hl2; clear hl2 hb2)
                                refine hK.out _ _ ?kx_24 (fun hHeld => ?qx_24)
                                case kx_24 => ((try dsimp only); exact HSof.out _ HBW.out)
                                case qx_24 =>
                                  clear hK K
                                  (try simp only [Act.put]); (try simp only [List.setIfInBounds_toArray])
                                  refine wpAnyH_done (by kernel_rfl) ?_ _
                                  obtain ⟨hBe, he0, he1, he2, he3⟩ := hHeld
                                  have k0 := H7.out.cell 0
                                  have k1 := H7.out.cell 1
                                  have k2 := H7.out.frozen 0
                                  have k3 := H7.out.frozen 1
                                  have j0 := H8.out.cell 0
                                  have j1 := H8.out.cell 1
                                  have j2 := H8.out.frozen 0
                                  have j3 := H8.out.frozen 1
                                  simp at k0 k1 j0 j1
                                  show wpList _ _ _ _ _ _
                                  go_wp2_with fail
                                  go_meet
                                  exact ⟨g7, g8, A1, A2, c1, c2, l1, l2, _, _, rfl, rfl, Lib.hid (r4_of (HM2.out.after HBW.out) H7.out H8.out hne hz7 hz8 HA.out HB.out)⟩
                              case mx_24 =>
                                exact AllReadyH.nil
                          case mx_23 =>
                            exact AllReadyH.nil
                    case mx_20 =>
                      refine AllReadyH.cons rfl (fun K hK => ?sx_25) ?mx_25
                      case sx_25 =>
                        (refine step_alloc _ (by rfl) 24 #[.int .i64 0, .slice none 0 0] (by go_simp) ?_; intro g8 Y8 hx8 hb8 hs8; have hz8 : w.heap.size + 1 < g8 := (by have h1 := HM2.out.size; have h2 := HBW.out.size; omega); have hne : g7 ≠ g8 := (by have := H7.out.lt; omega); replace H7 := Lib.hid (H7.out.after hb8); replace HBW := Lib.hid (HBW.out.trans (hb8.mono HBW.out.size)); have H8 := Lib.hid hx8; clear hx8 hb8 hs8)
                        refine hK.out _ _ ?kx_25 (fun hHeld => ?qx_25)
                        case kx_25 => ((try dsimp only); exact HSof.out _ HBW.out)
                        case qx_25 =>
                          clear hK K
                          (try simp only [Act.put]); (try simp only [List.setIfInBounds_toArray])
                          refine wpAnyH_ready (rs := [1]) (by kernel_rfl) (by simp) ?_
                          refine AllReadyH.cons rfl (fun K hK => ?sx_26) ?mx_26
                          case sx_26 =>
                            (refine step_call _ (by rfl) 11 #[.agg #[.int .i64 x, .slice A n c]] (by go_simp) (HLA.out _ HBW.out) ?_; rintro e Y1 ⟨A1, c1, l1, rfl, hb1, hl1⟩; refine ⟨_, rfl, ?_⟩; replace H7 := Lib.hid (H7.out.after hb1); replace H8 := Lib.hid (H8.out.after hb1); replace HBW := Lib.hid (HBW.out.trans (hb1.mono HBW.out.size)); have HA := Lib.hid hl1; clear hl1 hb1)
                            refine hK.out _ _ ?kx_26 (fun hHeld => ?qx_26)
                            case kx_26 => ((try dsimp only); exact HSof.out _ HBW.out)
                            case qx_26 =>
                              clear hK K
                              (try simp only [Act.put]); (try simp only [List.setIfInBounds_toArray])
                              refine wpAnyH_ready (rs := [3]) (by kernel_rfl) (by simp) ?_
                              refine AllReadyH.cons rfl (fun K hK => ?sx_27) ?mx_27
                              case sx_27 =>
                                (refine step_call _ (by rfl) 11 #[.agg #[.int .i64 y, .slice A' m d]] (by go_simp) (HLB.out _ HBW.out) ?_; rintro e Y2 ⟨A2, c2, l2, rfl, hb2, hl2⟩; refine ⟨_, rfl, ?_⟩; replace H7 := Lib.hid (H7.out.after hb2); replace H8 := Lib.hid (H8.out.after hb2); replace HA := Lib.hid (HA.out.after hb2); replace HBW := Lib.hid (HBW.out.trans (hb2.mono HBW.out.size)); have HB := Lib.hid hl2; clear hl2 hb2)
                                refine hK.out _ _ ?kx_27 (fun hHeld => ?qx_27)
                                case kx_27 => ((try dsimp only); exact HSof.out _ HBW.out)
                                case qx_27 =>
                                  clear hK K
                                  (try simp only [Act.put]); (try simp only [List.setIfInBounds_toArray])
                                  refine wpAnyH_done (by kernel_rfl) ?_ _
                                  obtain ⟨hBe, he0, he1, he2, he3⟩ := hHeld
                                  have k0 := H7.out.cell 0
                                  have k1 := H7.out.cell 1
                                  have k2 := H7.out.frozen 0
                                  have k3 := H7.out.frozen 1
                                  have j0 := H8.out.cell 0
                                  have j1 := H8.out.cell 1
                                  have j2 := H8.out.frozen 0
                                  have j3 := H8.out.frozen 1
                                  simp at k0 k1 j0 j1
                                  show wpList _ _ _ _ _ _
                                  go_wp2_with fail
                                  go_meet
                                  exact ⟨g7, g8, A1, A2, c1, c2, l1, l2, _, _, rfl, rfl, Lib.hid (r4_of (HM2.out.after HBW.out) H7.out H8.out hne hz7 hz8 HA.out HB.out)⟩
                              case mx_27 =>
                                exact AllReadyH.nil
                          case mx_26 =>
                            exact AllReadyH.nil
                      case mx_25 =>
                        exact AllReadyH.nil
                case mx_19 =>
                  refine AllReadyH.cons rfl (fun K hK => ?sx_28) ?mx_28
                  case sx_28 =>
                    (refine step_alloc _ (by rfl) 24 #[.int .i64 0, .slice none 0 0] (by go_simp) ?_; intro g8 Y8 hx8 hb8 hs8; have hz8 : w.heap.size + 1 < g8 := (by have h1 := HM2.out.size; have h2 := HBW.out.size; omega); replace HBW := Lib.hid (HBW.out.trans (hb8.mono HBW.out.size)); have H8 := Lib.hid hx8; clear hx8 hb8 hs8)
                    refine hK.out _ _ ?kx_28 (fun hHeld => ?qx_28)
                    case kx_28 => ((try dsimp only); exact HSof.out _ HBW.out)
                    case qx_28 =>
                      clear hK K
                      (try simp only [Act.put]); (try simp only [List.setIfInBounds_toArray])
                      refine wpAnyH_ready (rs := [1, 4]) (by kernel_rfl) (by simp) ?_
                      refine AllReadyH.cons rfl (fun K hK => ?sx_29) ?mx_29
                      case sx_29 =>
                        (refine step_call _ (by rfl) 11 #[.agg #[.int .i64 x, .slice A n c]] (by go_simp) (HLA.out _ HBW.out) ?_; rintro e Y1 ⟨A1, c1, l1, rfl, hb1, hl1⟩; refine ⟨_, rfl, ?_⟩; replace H8 := Lib.hid (H8.out.after hb1); replace HBW := Lib.hid (HBW.out.trans (hb1.mono HBW.out.size)); have HA := Lib.hid hl1; clear hl1 hb1)
                        refine hK.out _ _ ?kx_29 (fun hHeld => ?qx_29)
                        case kx_29 => ((try dsimp only); exact HSof.out _ HBW.out)
                        case qx_29 =>
                          clear hK K
                          (try simp only [Act.put]); (try simp only [List.setIfInBounds_toArray])
                          refine wpAnyH_ready (rs := [3, 4]) (by kernel_rfl) (by simp) ?_
                          refine AllReadyH.cons rfl (fun K hK => ?sx_30) ?mx_30
                          case sx_30 =>
                            (refine step_call _ (by rfl) 11 #[.agg #[.int .i64 y, .slice A' m d]] (by go_simp) (HLB.out _ HBW.out) ?_; rintro e Y2 ⟨A2, c2, l2, rfl, hb2, hl2⟩; refine ⟨_, rfl, ?_⟩; replace H8 := Lib.hid (H8.out.after hb2); replace HA := Lib.hid (HA.out.after hb2); replace HBW := Lib.hid (HBW.out.trans (hb2.mono HBW.out.size)); have HB := Lib.hid hl2; clear hl2 hb2)
                            refine hK.out _ _ ?kx_30 (fun hHeld => ?qx_30)
                            case kx_30 => ((try dsimp only); exact HSof.out _ HBW.out)
                            case qx_30 =>
                              clear hK K
                              (try simp only [Act.put]); (try simp only [List.setIfInBounds_toArray])
                              refine wpAnyH_ready (rs := [4]) (by kernel_rfl) (by simp) ?_
                              refine AllReadyH.cons rfl (fun K hK => ?sx_31) ?mx_31
                              case sx_31 =>
                                (refine step_alloc _ (by rfl) 24 #[.int .i64 0, .slice none 0 0] (by go_simp) ?_; intro g7 Y7 hx7 hb7 hs7; have hz7 : w.heap.size + 1 < g7 := (by have h1 := HM2.out.size; have h2 := HBW.out.size; omega); have hne : g7 ≠ g8 := (by have := H8.out.lt; omega); replace H8 := Lib.hid (H8.out.after hb7); replace HA := Lib.hid (HA.out.after hb7); replace HB := Lib.hid (HB.out.after hb7); replace HBW := Lib.hid (HBW.out.trans (hb7.mono HBW.out.size)); have H7 := Lib.hid hx7; clear hx7 hb7 hs7)
                                refine hK.out _ _ ?kx_31 (fun hHeld => ?qx_31)
                                case kx_31 => ((try dsimp only); exact HSof.out _ HBW.out)
                                case qx_31 =>
                                  clear hK K
                                  (try simp only [Act.put]); (try simp only [List.setIfInBounds_toArray])
                                  refine wpAnyH_done (by kernel_rfl) ?_ _
                                  obtain ⟨hBe, he0, he1, he2, he3⟩ := hHeld
                                  have k0 := H7.out.cell 0
                                  have k1 := H7.out.cell 1
                                  have k2 := H7.out.frozen 0
                                  have k3 := H7.out.frozen 1
                                  have j0 := H8.out.cell 0
                                  have j1 := H8.out.cell 1
                                  have j2 := H8.out.frozen 0
                                  have j3 := H8.out.frozen 1
                                  simp at k0 k1 j0 j1
                                  show wpList _ _ _ _ _ _
                                  go_wp2_with fail
                                  go_meet
                                  exact ⟨g7, g8, A1, A2, c1, c2, l1, l2, _, _, rfl, rfl, Lib.hid (r4_of (HM2.out.after HBW.out) H7.out H8.out hne hz7 hz8 HA.out HB.out)⟩
                              case mx_31 =>
                                exact AllReadyH.nil
                          case mx_30 =>
                            refine AllReadyH.cons rfl (fun K hK => ?sx_32) ?mx_32
                            case sx_32 =>
                              (refine step_alloc _ (by rfl) 24 #[.int .i64 0, .slice none 0 0] (by go_simp) ?_; intro g7 Y7 hx7 hb7 hs7; have hz7 : w.heap.size + 1 < g7 := (by have h1 := HM2.out.size; have h2 := HBW.out.size; omega); have hne : g7 ≠ g8 := (by have := H8.out.lt; omega); replace H8 := Lib.hid (H8.out.after hb7); replace HA := Lib.hid (HA.out.after hb7); replace HBW := Lib.hid (HBW.out.trans (hb7.mono HBW.out.size)); have H7 := Lib.hid hx7; clear hx7 hb7 hs7)
                              refine hK.out _ _ ?kx_32 (fun hHeld => ?qx_32)
                              case kx_32 => ((try dsimp only); exact HSof.out _ HBW.out)
                              case qx_32 =>
                                clear hK K
                                (try simp only [Act.put]); (try simp only [List.setIfInBounds_toArray])
                                refine wpAnyH_ready (rs := [3]) (by kernel_rfl) (by simp) ?_
                                refine AllReadyH.cons rfl (fun K hK => ?sx_33) ?mx_33
                                case sx_33 =>
                                  (refine step_call _ (by rfl) 11 #[.agg #[.int .i64 y, .slice A' m d]] (by go_simp) (HLB.out _ HBW.out) ?_; rintro e Y2 ⟨A2, c2, l2, rfl, hb2, hl2⟩; refine ⟨_, rfl, ?_⟩; replace H8 := Lib.hid (H8.out.after hb2); replace HA := Lib.hid (HA.out.after hb2); replace H7 := Lib.hid (H7.out.after hb2); replace HBW := Lib.hid (HBW.out.trans (hb2.mono HBW.out.size)); have HB := Lib.hid hl2; clear hl2 hb2)
                                  refine hK.out _ _ ?kx_33 (fun hHeld => ?qx_33)
                                  case kx_33 => ((try dsimp only); exact HSof.out _ HBW.out)
                                  case qx_33 =>
                                    clear hK K
                                    (try simp only [Act.put]); (try simp only [List.setIfInBounds_toArray])
                                    refine wpAnyH_done (by kernel_rfl) ?_ _
                                    obtain ⟨hBe, he0, he1, he2, he3⟩ := hHeld
                                    have k0 := H7.out.cell 0
                                    have k1 := H7.out.cell 1
                                    have k2 := H7.out.frozen 0
                                    have k3 := H7.out.frozen 1
                                    have j0 := H8.out.cell 0
                                    have j1 := H8.out.cell 1
                                    have j2 := H8.out.frozen 0
                                    have j3 := H8.out.frozen 1
                                    simp at k0 k1 j0 j1
                                    show wpList _ _ _ _ _ _
                                    go_wp2_with fail
                                    go_meet
                                    exact ⟨g7, g8, A1, A2, c1, c2, l1, l2, _, _, rfl, rfl, Lib.hid (r4_of (HM2.out.after HBW.out) H7.out H8.out hne hz7 hz8 HA.out HB.out)⟩
                                case mx_33 =>
                                  exact AllReadyH.nil
                            case mx_32 =>
                              exact AllReadyH.nil
                      case mx_29 =>
                        refine AllReadyH.cons rfl (fun K hK => ?sx_34) ?mx_34
                        case sx_34 =>
                          (refine step_alloc _ (by rfl) 24 #[.int .i64 0, .slice none 0 0] (by go_simp) ?_; intro g7 Y7 hx7 hb7 hs7; have hz7 : w.heap.size + 1 < g7 := (by have h1 := HM2.out.size; have h2 := HBW.out.size; omega); have hne : g7 ≠ g8 := (by have := H8.out.lt; omega); replace H8 := Lib.hid (H8.out.after hb7); replace HBW := Lib.hid (HBW.out.trans (hb7.mono HBW.out.size)); have H7 := Lib.hid hx7; clear hx7 hb7 hs7)
                          refine hK.out _ _ ?kx_34 (fun hHeld => ?qx_34)
                          case kx_34 => ((try dsimp only); exact HSof.out _ HBW.out)
                          case qx_34 =>
                            clear hK K
                            (try simp only [Act.put]); (try simp only [List.setIfInBounds_toArray])
                            refine wpAnyH_ready (rs := [1]) (by kernel_rfl) (by simp) ?_
                            refine AllReadyH.cons rfl (fun K hK => ?sx_35) ?mx_35
                            case sx_35 =>
                              (refine step_call _ (by rfl) 11 #[.agg #[.int .i64 x, .slice A n c]] (by go_simp) (HLA.out _ HBW.out) ?_; rintro e Y1 ⟨A1, c1, l1, rfl, hb1, hl1⟩; refine ⟨_, rfl, ?_⟩; replace H8 := Lib.hid (H8.out.after hb1); replace H7 := Lib.hid (H7.out.after hb1); replace HBW := Lib.hid (HBW.out.trans (hb1.mono HBW.out.size)); have HA := Lib.hid hl1; clear hl1 hb1)
                              refine hK.out _ _ ?kx_35 (fun hHeld => ?qx_35)
                              case kx_35 => ((try dsimp only); exact HSof.out _ HBW.out)
                              case qx_35 =>
                                clear hK K
                                (try simp only [Act.put]); (try simp only [List.setIfInBounds_toArray])
                                refine wpAnyH_ready (rs := [3]) (by kernel_rfl) (by simp) ?_
                                refine AllReadyH.cons rfl (fun K hK => ?sx_36) ?mx_36
                                case sx_36 =>
                                  (refine step_call _ (by rfl) 11 #[.agg #[.int .i64 y, .slice A' m d]] (by go_simp) (HLB.out _ HBW.out) ?_; rintro e Y2 ⟨A2, c2, l2, rfl, hb2, hl2⟩; refine ⟨_, rfl, ?_⟩; replace H8 := Lib.hid (H8.out.after hb2); replace H7 := Lib.hid (H7.out.after hb2); replace HA := Lib.hid (HA.out.after hb2); replace HBW := Lib.hid (HBW.out.trans (hb2.mono HBW.out.size)); have HB := Lib.hid hl2; clear hl2 hb2)
                                  refine hK.out _ _ ?kx_36 (fun hHeld => ?qx_36)
                                  case kx_36 => ((try dsimp only); exact HSof.out _ HBW.out)
                                  case qx_36 =>
                                    clear hK K
                                    (try simp only [Act.put]); (try simp only [List.setIfInBounds_toArray])
                                    refine wpAnyH_done (by kernel_rfl) ?_ _
                                    obtain ⟨hBe, he0, he1, he2, he3⟩ := hHeld
                                    have k0 := H7.out.cell 0
                                    have k1 := H7.out.cell 1
                                    have k2 := H7.out.frozen 0
                                    have k3 := H7.out.frozen 1
                                    have j0 := H8.out.cell 0
                                    have j1 := H8.out.cell 1
                                    have j2 := H8.out.frozen 0
                                    have j3 := H8.out.frozen 1
                                    simp at k0 k1 j0 j1
                                    show wpList _ _ _ _ _ _
                                    go_wp2_with fail
                                    go_meet
                                    exact ⟨g7, g8, A1, A2, c1, c2, l1, l2, _, _, rfl, rfl, Lib.hid (r4_of (HM2.out.after HBW.out) H7.out H8.out hne hz7 hz8 HA.out HB.out)⟩
                                case mx_36 =>
                                  exact AllReadyH.nil
                            case mx_35 =>
                              exact AllReadyH.nil
                        case mx_34 =>
                          exact AllReadyH.nil
                  case mx_28 =>
                    exact AllReadyH.nil
      case rest =>
        rename World => wc
        obtain ⟨g7, g8, A1, A2, c1, c2, l1, l2, B1, B2, rfl, rfl, HR⟩ := hcut
        obtain ⟨wb, hwb⟩ : ∃ wb, wordB s = wb := ⟨_, rfl⟩
        obtain ⟨sb, hsb⟩ : ∃ sb, mdE x y nds nds' = sb := ⟨_, rfl⟩
        have q4 := cell_regrown ((HR.out.b7.cell 0).trans (show _ = some (.int .i64 x) from rfl))
        have q5 := cell_regrown ((HR.out.b7.cell 1).trans (show _ = some (.slice A1 n c1) from rfl))
        have q6 := cell_regrown ((HR.out.b8.cell 0).trans (show _ = some (.int .i64 y) from rfl))
        have q7 := cell_regrown ((HR.out.b8.cell 1).trans (show _ = some (.slice A2 m c2) from rfl))
        have q0 := cell_regrown ((HR.out.md.a.cell 0).trans (show _ = some (.int .i64 x) from rfl))
        have q1 := cell_regrown ((HR.out.md.a.cell 1).trans (show _ = some (.slice A n c) from rfl))
        have q2 := cell_regrown ((HR.out.md.b.cell 0).trans (show _ = some (.int .i64 y) from rfl))
        have q3 := cell_regrown ((HR.out.md.b.cell 1).trans (show _ = some (.slice A' m d) from rfl))
        have hbz : ∀ d os, Below w.heap.size w (grow (redrawn wc d) os) := fun d os => HR.out.md.bel.trans ((below_regrown wc d os).mono HR.out.md.bel.size)
        have hla : ∀ d os, LentAt (grow (redrawn wc d) os) B1 A1 n c1 nds l1 := fun d os => HR.out.la.after (below_regrown wc d os)
        have hlb : ∀ d os, LentAt (grow (redrawn wc d) os) B2 A2 m c2 nds' l2 := fun d os => HR.out.lb.after (below_regrown wc d os)
        have hna : ∀ d os, NodesIn (grow (redrawn wc d) os) 0 (grow (redrawn wc d) os).heap.size A1 n c1 nds := fun d os => (hla d os).nodesIn.mono (Nat.zero_le _) (Nat.le_refl _)
        have hnb : ∀ d os, NodesIn (grow (redrawn wc d) os) 0 (grow (redrawn wc d) os).heap.size A2 m c2 nds' := fun d os => (hlb d os).nodesIn.mono (Nat.zero_le _) (Nat.le_refl _)
        have hoa : ∀ d os, NodesIn (grow (redrawn wc d) os) 0 hi A n c nds := fun d os => h.below ((hbz d os).mono hh)
        have hob : ∀ d' os, NodesIn (grow (redrawn wc d') os) 0 hi A' m d nds' := fun d' os => h'.below ((hbz d' os).mono hh)
        have hhi : ∀ d os, hi ≤ (grow (redrawn wc d) os).heap.size := fun d os => Nat.le_trans hh (hbz d os).size
        have K1 : Hid (∀ d os, Calls Try.prog 9 #[.agg #[.int .i64 x, .slice A1 n c1]] (grow (redrawn wc d) os) (Ret (grow (redrawn wc d) os) (.int .i64 v))) := Lib.hid fun d os => by
          rw [← HV.out]; exact check_any _ _ x A1 n c1 nds (hna d os) (Nat.le_refl _)
        have K2 := Lib.hid (HCl.out wc HR.out.md.bel)
        have K3 : Hid (∀ d os, Calls Try.prog 12 #[.string s] (grow (redrawn wc d) os) (Ret (grow (redrawn wc d) os) (.bool wb))) := Lib.hid fun d os => (word_is s wb _ hs hwb).mono fun e w' he => ⟨he.1, he.2 ▸ Below.refl _ _⟩
        have K4 : Hid (∀ d os, Calls Try.prog 13 #[.string s] (grow (redrawn wc d) os) (Ret (grow (redrawn wc d) os) (.bool wb))) := Lib.hid fun d os => (hwb ▸ refWord_any s (grow (redrawn wc d) os) hs : Calls _ _ _ _ (Says (grow (redrawn wc d) os) wb)).mono fun e w' he => ⟨he.1, he.2 ▸ Below.refl _ _⟩
        have K5 : Hid (∀ d os, Calls Try.prog 14 #[.agg #[.int .i64 x, .slice A1 n c1], .agg #[.int .i64 y, .slice A2 m c2]] (grow (redrawn wc d) os) (Ret (grow (redrawn wc d) os) (.bool sb))) := Lib.hid fun d os => by
          rw [← hsb]; exact same_any _ _ x y A1 A2 n c1 m c2 nds nds' (hna d os) (hnb d os) (Nat.le_refl _)
        have K6 : Hid (∀ d' os, Calls Try.prog 15 #[.agg #[.int .i64 x, .slice A n c], .agg #[.int .i64 y, .slice A' m d]] (grow (redrawn wc d') os) (Ret (grow (redrawn wc d') os) (.bool sb))) := Lib.hid fun d' os => by
          rw [← hsb]; exact refSame_any _ _ x y A A' n c m d nds nds' (hoa d' os) (hob d' os) (hhi d' os)
        have K7 : Hid (∀ d os, Calls Try.prog 14 #[.agg #[.int .i64 x, .slice A1 n c1], .agg #[.int .i64 x, .slice A1 n c1]] (grow (redrawn wc d) os) (Ret (grow (redrawn wc d) os) (.bool true))) := Lib.hid fun d os => by
          rw [← mdE_refl x nds]; exact same_any _ _ x x A1 A1 n c1 n c1 nds nds (hna d os) (hna d os) (Nat.le_refl _)
        have K8 : Hid (∀ d os, Calls Try.prog 16 #[.agg #[.int .i64 x, .slice A1 n c1], .agg #[.int .i64 x, .slice A n c]] (grow (redrawn wc d) os) (Ret (grow (redrawn wc d) os) (.bool true))) := Lib.hid fun d os =>
          kept_any _ B1 hi x A1 A n c1 n c nds l1 (hla d os) (hoa d os) (hhi d os)
        have K9 : Hid (∀ d' os, Calls Try.prog 16 #[.agg #[.int .i64 y, .slice A2 m c2], .agg #[.int .i64 y, .slice A' m d]] (grow (redrawn wc d') os) (Ret (grow (redrawn wc d') os) (.bool true))) := Lib.hid fun d' os =>
          kept_any _ B2 hi y A2 A' m c2 m d nds' l2 (hlb d' os) (hob d' os) (hhi d' os)
        have K10 : Hid (∀ d os, Calls Try.prog 17 #[] (grow (redrawn wc d) os) (Ret (grow (redrawn wc d) os) (.agg #[.int .i64 1, .slice none 0 0]))) := Lib.hid fun d os => new_any _
        have K11 : Hid (∀ d os, Calls Try.prog 15 #[.agg #[.int .i64 1, .slice none 0 0], .agg #[.int .i64 1, .slice none 0 0]] (grow (redrawn wc d) os) (Ret (grow (redrawn wc d) os) (.bool true))) := Lib.hid fun d os => by
          rw [← mdE_refl 1 []]; exact refSame_any _ 0 1 1 none none 0 0 0 0 [] [] (NodesIn.nil _ _ _) (NodesIn.nil _ _ _) (Nat.zero_le _)
        have HMe := Lib.hid HR.out.md
        clear h h' hf hf' hbz hla hlb hna hnb hoa hob hhi HR HM0 HM1 HM2 HG1 HG2 HCk HCl HV HSof HLA HLB hwb hsb hc hc' hnc hnc' hs hh hg1 hg2
        go_upto_region 4 with (fail)
        refine wp_region_quiet_below (by kernel_rfl) (by kernel_rfl) ?_
        repeat (go_big_quiet_step ((first | (go_at_call 9; exact regrown_ret (K1.out _ _)) | (go_at_call 10; exact regrown_ret (K2.out _ _)) | (go_at_call 12; exact regrown_ret (K3.out _ _)) | (go_at_call 13; exact regrown_ret (K4.out _ _)) | (go_at_call_has 14 A2; exact regrown_ret (K5.out _ _)) | (go_at_call 14; exact regrown_ret (K7.out _ _)) | (go_at_call_has 15 A'; exact regrown_ret (K6.out _ _)) | (go_at_call 15; exact regrown_ret (K11.out _ _)) | (go_at_call_has 16 A1; exact regrown_ret (K8.out _ _)) | (go_at_call 16; exact regrown_ret (K9.out _ _)) | (go_at_call 17; exact regrown_ret (K10.out _ _)))))
        refine wpQuiet_nil ?_
        intro _ hw'
        obtain ⟨⟨dq, osq⟩, hw''⟩ := hw'
        subst hw''
        have HMf := Lib.hid (HMe.out.after (below_regrown _ dq osq))
        generalize grow (redrawn _ dq) osq = w3 at HMf ⊢
        go_wp2_with fail
        go_ret
        exact ret_b (by simp) rfl HMf.out.bel
end Go.Proofs.Ytnhkghmgkfmiaaa

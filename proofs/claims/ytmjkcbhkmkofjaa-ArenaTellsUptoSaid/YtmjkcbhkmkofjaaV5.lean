/-
  WALKS: the roots; document order, what is below a node, who refers to it, as the program tells them.
-/
import Derived.Test.YtmjkcbhkmkofjaaV4
import Derived.Test.YtmjkcbhkmkofjaaW29
namespace Go.Proofs.Ytmjkcbhkmkofjaa
open Go Go.RowKit Go.Sort
set_option linter.unusedVariables false
attribute [local go_sem ↓] Go.wp_at_zero Go.wp_at_succ

/-- a new list of numbers is answered -/
def ListR (w : World) (r : List Int) (e : Ending) (w' : World) : Prop := ∃ v, e = .returned v ∧ w'.ownsRow w.heap.size 3 1 v r.length (intCells r) ∧ Below w.heap.size w w'
theorem listR_nil {w w' : World} {v : Value} (hv : v = .slice none 0 0) (hb : Below w.heap.size w w') : ListR w [] (.returned v) w' := ⟨_, rfl, by subst hv; exact ⟨rfl, .inl ⟨rfl, rfl⟩⟩, hb⟩
theorem roots_take {nds : List Nd} {j : Nat} {nd : Nd} (h : nds[j]? = some nd) : rootsV (nds.take (j + 1)) = rootsV (nds.take j) ++ if nd.par == 0 then [nd.id] else [] := by
  unfold rootsV
  rw [List.take_add_one, h, List.filter_append, List.map_append]
  cases hp : (nd.par == 0) <;> simp [hp]
theorem roots_len (nds : List Nd) (j : Nat) : (rootsV (nds.take j)).length ≤ j := by
  unfold rootsV
  rw [List.length_map]
  have := List.length_filter_le (fun nd : Nd => nd.par == 0) (nds.take j)
  rw [List.length_take] at this
  omega

set_option maxRecDepth 20000 in
set_option maxHeartbeats 3200000 in
theorem roots_any (w : World) (hi : Nat) (next : Int) (A : Option Addr) (n c : Nat) (nds : List Nd) (h : NodesIn w 0 hi A n c nds) (hh : hi ≤ w.heap.size) (hn : n ≤ 4096) :
    Calls Try.prog 83 #[.agg #[.int .i64 next, .slice A n c]] w (ListR w (rootsV nds)) := by
  have hc := h.2.2.1
  have hnc := h.2.1
  have HL := Lib.hid h.1
  unfold maxLen at hc
  obtain ⟨i0, hi0, hz0, hz1, hz2⟩ := info_parts intInfo
  have HM0 := Lib.hid (M1.start w next A n c)
  have a0 := (HM0.out.a.cell 1).trans (show _ = some (.slice A n c) from rfl)
  go_enter Try.func83, Try.ntmps83
  go_wp2_with fail
  go_loopw [3, 8] (fun ov v8 wr => ∃ (j : Nat), j ≤ n ∧ v8 = .int .i64 j ∧ KW w next A n c ov (rootsV (nds.take j)) wr) (fun _ v _ => n - (intOf v).toNat)
  case atStart => exact ⟨0, Nat.zero_le _, rfl, HM0.out, ⟨rfl, .inl ⟨rfl, rfl⟩⟩⟩
  case round =>
    clear HM0 a0
    obtain ⟨j, hj, rfl, W⟩ := hrel
    obtain ⟨fl, hfl⟩ : ∃ fl, rootsV (nds.take j) = fl := ⟨_, rfl⟩
    rw [hfl] at W
    have HFL := Lib.hid hfl
    have hlen : fl.length ≤ j := by rw [← hfl]; exact roots_len nds j
    have HW := Lib.hid W
    clear W hfl
    rename World => wr
    by_cases hlt : j < n
    · obtain ⟨b, o, hA, _, hb, V, hV⟩ := h.all (by omega)
      obtain ⟨nd, hnd⟩ : ∃ nd, nds[j]? = some nd := ⟨nds[j]'(by have := HL.out; omega), List.getElem?_eq_getElem _⟩
      have x2 := (HW.out.m.bel.cell (p := ⟨b, _, none⟩) (Nat.lt_of_lt_of_le hb hh)).trans (hV j nd hnd).1.c2
      have x0 := (HW.out.m.bel.cell (p := ⟨b, _, none⟩) (Nat.lt_of_lt_of_le hb hh)).trans (hV j nd hnd).1.c0
      subst hA
      have a1 := (HW.out.m.a.cell 1).trans (show _ = some (.slice (some ⟨b, o, none⟩) n c) from rfl)
      have hrt := roots_take hnd
      rw [HFL.out] at hrt
      have HRT := Lib.hid hrt
      clear hV hnd hrt
      cases d1 : (nd.par == 0) with
      | false =>
        have HN : Hid (rootsV (nds.take (j + 1)) = fl) := Lib.hid (by rw [HRT.out, d1]; simp)
        go_wp2_with fail
        go_roundw
        case measure => simp only [intOf]; omega
        case rel => exact ⟨j + 1, by omega, by simp, by rw [HN.out]; exact HW.out⟩
      | true =>
        have HN : Hid (rootsV (nds.take (j + 1)) = fl ++ [nd.id]) := Lib.hid (by rw [HRT.out, d1]; simp)
        go_wp2_with (at_builtin; go_must (refine wpList_app _ rfl (.tmp 18) (.tmp 25) _ rfl w.heap.size 3 i0 _ 1 8 Try.underlying48 hi0 hz0 hz1 hz2 rfl (by omega) u3 fl.length (intCells fl) rfl (own_after HW.out.own (below_more (Below.refl _ _) _)) wr.heap.size (wr.heap.size + 1) (some ⟨wr.heap.size, 0, none⟩) 1 1 [.int .i64 nd.id] rfl (row_blk (n := 1) (Blk.new' rfl) rfl (Nat.le_refl _) (by unfold maxLen; omega)) (by simp [Value.oneCell']) (by unfold maxLen; omega) (by omega) (Nat.le_trans HW.out.m.bel.size (by simp)) ?_); go_must (intro v7 w7 hown7 hg7 _; obtain ⟨G7, cap7, rfl, hca7, hcb7⟩ := own_slice hown7; have HW7 := Lib.hid ((HW.out.after (below_more (Below.refl _ _) _)).push hg7 hown7); clear hown7 hg7))
        go_roundw
        case measure => simp only [intOf]; omega
        case rel => exact ⟨j + 1, by omega, by simp, by rw [HN.out]; exact HW7.out⟩
    · have hjn : j = n := by omega
      subst hjn
      have hfin : fl = rootsV nds := by rw [← HFL.out, List.take_of_length_le (by have := HL.out; omega)]
      subst hfin
      obtain ⟨Ao, co, rfl⟩ := own_form HW.out.own
      clear h
      go_wp2_with fail
      go_ret
      exact ⟨_, rfl, HW.out.own, HW.out.m.bel⟩

theorem checkV_no {next : Int} {nds : List Nd} (h : rightB next nds = false) : checkV next nds = 29 := by unfold checkV; rw [h]; rfl
theorem checkV_yes {next : Int} {nds : List Nd} (h : rightB next nds = true) : checkV next nds = 0 := by unfold checkV; rw [h]; rfl
/-- behind the walk: the box's list -/
theorem ids_end {w Y X : World} {g0 : Nat} {r : List Int} (hb : Below w.heap.size w Y) (hg : w.heap.size ≤ g0) (h : IdsInv Y g0 r X) : ∃ A m c, X.cell? ⟨g0, 0, none⟩ = some (.slice A m c) ∧ X.ownsRow w.heap.size 3 1 (.slice A m c) r.length (intCells r) ∧ Below w.heap.size w X := by
  obtain ⟨ov, h⟩ := h
  obtain ⟨A, c, rfl⟩ := own_form h.own
  exact ⟨A, _, c, (h.e.bx.cell 0).trans rfl, own_mono h.own hb.size, Below.only hb h.e.gr hb.size hg⟩
/-- .. ahead of it: an empty one -/
theorem ids_start {Y : World} {g0 : Nat} (h : Blk Y g0 48 #[.slice none 0 0]) : IdsInv Y g0 [] Y := ⟨_, ⟨World.grownBy.refl _ _, h⟩, ⟨rfl, .inl ⟨rfl, rfl⟩⟩⟩

/-- a closure that lists all nodes -/
theorem visit_list {Y : World} {hi g0 : Nat} {A : Option Addr} {n c : Nat} {nds : List Nd} (F : FuncId) (hF : ∀ args w, Sem.run Try.prog (callFunc F args) w = .ok (.enter F args) w)
    (hcall : ∀ (X : World) (b oi d : Nat) (id : Int) (r : List Int), IdsInv Y g0 r X → r.length < 4096 → b < Y.heap.size → b ≠ g0 → Y.cell? ⟨b, oi, none⟩ = some (.int .i64 id) → Calls Try.prog F #[.pointer (some ⟨b, oi, none⟩), .int .i64 d, .pointer (some ⟨g0, 0, none⟩)] X fun e X' => e = .returned (.tuple #[]) ∧ IdsInv Y g0 (r ++ [id]) X' ∧ Keeps X X')
    (hN : NodesIn Y 0 hi A n c nds) (hh : hi ≤ Y.heap.size) (hg : hi ≤ g0) : Visit Y g0 4096 A nds F #[.pointer (some ⟨g0, 0, none⟩)] fun X l => IdsInv Y g0 (l.map (·.1)) X := by
  refine ⟨hF, fun X l h => ?_, fun X X' l h hb => h.after hb, fun X l i nd d b o h hl hnd hA _ => ?_⟩
  · obtain ⟨ov, h⟩ := h
    exact h.e.gr
  · obtain ⟨b', o', hA', _, hb, V, hV⟩ := hN.all (by have := (List.getElem?_eq_some_iff.1 hnd).1; have := hN.1; omega)
    rw [hA] at hA'
    injection hA' with hA'
    injection hA' with e1 e2
    subst e1 e2
    rw [List.map_append]
    exact hcall X b (o + i * 7) d nd.id _ h (by rw [List.length_map]; exact hl) (by omega) (by omega) (hV i nd hnd).1.c0

/-- document order, as it is answered -/
def orderR (next : Int) (nds : List Nd) : List Int := if rightB next nds = true then orderV nds else []
set_option maxRecDepth 100000 in
set_option maxHeartbeats 3200000 in
theorem order_any (w : World) (hi : Nat) (next : Int) (A : Option Addr) (n c : Nat) (nds : List Nd) (h : NodesIn w 0 hi A n c nds) (hh : hi ≤ w.heap.size) :
    Calls Try.prog 29 #[.agg #[.int .i64 next, .slice A n c]] w (ListR w (orderR next nds)) := by
  have HM0 := Lib.hid (M1.start w next A n c)
  have HCh := Lib.hid (check_any _ hi next A n c nds (h.below (HM0.out.bel.mono hh)) (Nat.le_trans hh HM0.out.bel.size))
  cases hrt : rightB next nds with
  | false =>
    have HX : Hid (orderR next nds = []) := Lib.hid (by unfold orderR; rw [hrt]; rfl)
    have HV := Lib.hid (checkV_no hrt)
    clear hrt h
    go_enter Try.func29, Try.ntmps29
    go_wp2_with (go_at_call 39; go_must (refine HCh.out.mono ?_; rintro e w2 ⟨rfl, hb2⟩; rw [HV.out]; have HM2 := Lib.hid (HM0.out.after hb2); clear hb2))
    go_ret
    rw [HX.out]
    exact listR_nil rfl HM2.out.bel
  | true =>
    have hR := rightM hrt
    have hn4 : n ≤ 4096 := by rw [← h.1]; exact hR.len
    have HX : Hid (orderR next nds = orderV nds) := Lib.hid (by unfold orderR; rw [hrt]; rfl)
    have HV := Lib.hid (checkV_yes hrt)
    rw [HX.out]
    have HRo : Hid (∀ X, Below w.heap.size w X → Calls Try.prog 83 #[.agg #[.int .i64 next, .slice A n c]] X (ListR X (rootsV nds))) := Lib.hid fun X hX => roots_any X hi next A n c nds (h.below (hX.mono hh)) (Nat.le_trans hh hX.size) hn4
    clear hrt
    go_enter Try.func29, Try.ntmps29
    go_upto_region 4 with (go_at_call 39; go_must (refine HCh.out.mono ?_; rintro e w2 ⟨rfl, hb2⟩; rw [HV.out]; have HM2 := Lib.hid (HM0.out.after hb2); clear hb2))
    have HM3 := Lib.hid ((HM2.out.after (below_more (Below.refl _ _) (.cells #[.slice none 0 0] 48))).after (below_drew1 _))
    have HB3 := Lib.hid ((Blk.new w2 48 #[.slice none 0 0]).after (below_drew1 _))
    have HG1 : Hid (w.heap.size ≤ w2.heap.size) := Lib.hid HM2.out.bel.size
    have HG0 : Hid (w2.heap.size < (w2.alloc (.cells #[.slice none 0 0] 48)).drew.heap.size) := Lib.hid HB3.out.lt
    obtain ⟨g0, hg0⟩ : ∃ g0, g0 = w2.heap.size := ⟨_, rfl⟩
    rw [← hg0] at HB3 HG1 HG0 ⊢
    have hg1 := HG1.out
    clear hg0
    generalize w2.alloc (.cells #[.slice none 0 0] 48) = X3 at HM3 HB3 HG0 ⊢
    have HSof : Hid (∀ X, M1 w next A n c X → X.cell? ⟨w.heap.size, 0, none⟩ = some (.int .i64 next) ∧ X.cell? ⟨w.heap.size, 1, none⟩ = some (.slice A n c)) := Lib.hid fun X hX => ⟨(hX.a.cell 0).trans rfl, (hX.a.cell 1).trans rfl⟩
    refine wp_region_held_tail 4 (fun w' => w'.cell? ⟨w.heap.size, 0, none⟩ = some (.int .i64 next) ∧ w'.cell? ⟨w.heap.size, 1, none⟩ = some (.slice A n c)) (by kernel_rfl) (by kernel_rfl) ?hSt (fun hHeld => ?qt0)
    case hSt => exact HSof.out _ HM3.out
    case qt0 =>
      simp only [List.take_succ_cons, List.take_zero, List.drop_succ_cons, List.drop_zero]
      refine wpAnyH_take (i := 0) (v := (.agg #[.int .i64 next, .slice A n c])) rfl (by kernel_rfl) (by kernel_rfl) (by kernel_rfl) (fun _ _ _ h => h) (Or.inl ⟨by rfl, ?yt_1⟩) (by assumption) ?qt_1
      case yt_1 => (intro w hSw; (try dsimp only at hSw); go_simp)
      case qt_1 =>
        (try simp only [Act.put]); (try simp only [List.setIfInBounds_toArray])
        refine wpAnyH_take (i := 1) (v := (.agg #[.int .i64 next, .slice A n c])) rfl (by kernel_rfl) (by kernel_rfl) (by kernel_rfl) (fun _ _ _ h => h) (Or.inl ⟨by rfl, ?yt_2⟩) (by assumption) ?qt_2
        case yt_2 => (intro w hSw; (try dsimp only at hSw); go_simp)
        case qt_2 =>
          (try simp only [Act.put]); (try simp only [List.setIfInBounds_toArray])
          refine wpAnyH_take (i := 3) (v := (.func (.func 84) #[] #[.pointer (some ⟨g0, 0, none⟩)])) rfl (by kernel_rfl) (by kernel_rfl) (by kernel_rfl) (fun _ _ _ h => h) (Or.inl ⟨by rfl, ?yt_3⟩) (by assumption) ?qt_3
          case yt_3 => (intro w hSw; (try dsimp only at hSw); go_simp)
          case qt_3 =>
            (try simp only [Act.put]); (try simp only [List.setIfInBounds_toArray])
            refine wpAnyH_ready (rs := [2]) (by kernel_rfl) (by simp) ?_
            refine AllReadyH.cons rfl (fun K hK => ?st_4) ?mt_4
            case st_4 =>
              (refine step_call _ (by rfl) 83 #[.agg #[.int .i64 next, .slice A n c]] (by go_simp) (HRo.out _ HM3.out.bel) ?_; rintro e Y ⟨vr, rfl, hvr, hbr⟩; refine ⟨_, rfl, ?_⟩; obtain ⟨Ar, cr, rfl⟩ := own_form hvr; have HVR := Lib.hid hvr; have HMY := Lib.hid (HM3.out.after hbr); have HBY := Lib.hid (HB3.out.after hbr); clear hvr hbr)
              refine hK.out _ _ ?kt_4 (fun hHeld => ?qt_4)
              case kt_4 => ((try dsimp only); first | exact HSof.out _ HMY.out | exact HSof.out _ HM3.out)
              case qt_4 =>
                clear hK K
                (try simp only [Act.put]); (try simp only [List.setIfInBounds_toArray])
                refine wpAnyH_done (by kernel_rfl) ?_ _
                clear hHeld
                have hNY := h.below (HMY.out.bel.mono hh)
                have hYs := Nat.le_trans hh HMY.out.bel.size
                have HOv := Lib.hid (over_any Y hi g0 4096 next A n c nds 84 #[.pointer (some ⟨g0, 0, none⟩)] _ (visit_list 84 (by intro args w; go_simp) (fun X b oi d id r h1 h2 h3 h4 h5 => visitOrder_any Y X g0 b oi d id r h1 h2 h3 h4 h5) hNY hYs (by omega)) hNY hYs (by omega) hR.rise hn4 (ids_start HBY.out) 64 (rootsV nds) Ar (rootsV nds).length cr (ok_of hR 64 1 _ (by omega) (roots_at hR)) (RowF.of (own_row HVR.out) (Nat.le_refl _) (.inl HG0.out)) (Nat.le_trans (pre_len hR (roots_nodup hR.rise) (roots_at hR)) hR.len) (by omega))
                rw [order_pre hR] at HOv
                show wpList _ _ _ _ _ _
                go_wp2_with (go_at_call 82; go_must (refine HOv.out.mono ?_; rintro e w5 ⟨rfl, hi5⟩; obtain ⟨A5, m5, c5, hc5, ho5, hb5⟩ := ids_end HMY.out.bel HG1.out hi5; have HO5 := Lib.hid ho5; have HB5 := Lib.hid hb5; clear hi5 ho5 hb5))
                go_ret
                exact ⟨_, rfl, HO5.out, HB5.out⟩
            case mt_4 =>
              exact AllReadyH.nil
end Go.Proofs.Ytmjkcbhkmkofjaa

/-
  WALKS: the roots; document order, what is below a node, who refers to it, as the program tells them.
  WALKS: what is below a node, who refers to it, as the program tells them.
  WALKS: how deep a node stands, its kids in a role, the node itself, as the program tells them.
  WALKS: the document's: what is below a node, by a stack.
  WALKS: Find of the program.
  WALKS: Users of the document.
-/
import Derived.Test.YtbkmdlfenbfdlaaGreatZC7
namespace Go.Proofs.YtbkmdlfenbfdlaaGreat
open Go Go.RowKit Go.Sort
set_option linter.unusedVariables false
attribute [local go_sem ↓] Go.wp_at_zero Go.wp_at_succ
/-- a new list of numbers is answered -/
def ListR (w : World) (r : List Int) (e : Ending) (w' : World) : Prop := ∃ v, e = .returned v ∧ w'.ownsRow w.heap.size 3 1 v r.length (intCells r) ∧ Below w.heap.size w w'
theorem listR_nil {w w' : World} {v : Value} (hv : v = .slice none 0 0) (hb : Below w.heap.size w w') : ListR w [] (.returned v) w' := ⟨_, rfl, by subst hv; exact ⟨rfl, .inl ⟨rfl, rfl⟩⟩, hb⟩
theorem roots_take {nds : List Nd} {j : Nat} {nd : Nd} (h : nds[j]? = some nd) : rootsV (nds.take (j + 1)) = rootsV (nds.take j) ++ if nd.par == 0 then [nd.id] else [] := by
  unfold rootsV
  rw [List.take_add_one, h, List.filter_append, List.map_append]
  cases hp : (nd.par == 0) <;> simp [hp]
theorem roots_len (nds : List Nd) (j : Nat) : (rootsV (nds.take j)).length ≤ j := by
  unfold rootsV
  rw [List.length_map]
  have := List.length_filter_le (fun nd : Nd => nd.par == 0) (nds.take j)
  rw [List.length_take] at this
  omega
set_option maxRecDepth 20000 in
set_option maxHeartbeats 3200000 in
theorem roots_any (w : World) (hi : Nat) (next : Int) (A : Option Addr) (n c : Nat) (nds : List Nd) (h : NodesIn w 0 hi A n c nds) (hh : hi ≤ w.heap.size) (hn : n ≤ 4096) :
    Calls Tryz.prog 32 #[.agg #[.int .i64 next, .slice A n c]] w (ListR w (rootsV nds)) := by
  have hc := h.2.2.1
  have hnc := h.2.1
  have HL := Lib.hid h.1
  unfold maxLen at hc
  obtain ⟨i0, hi0, hz0, hz1, hz2⟩ := info_parts intInfo
  have HM0 := Lib.hid (M1.start w next A n c)
  have a0 := (HM0.out.a.cell 1).trans (show _ = some (.slice A n c) from rfl)
  go_enter Tryz.func32, Tryz.ntmps32
  go_wp2_with fail
  go_loopw [3, 8] (fun ov v8 wr => ∃ (j : Nat), j ≤ n ∧ v8 = .int .i64 j ∧ KW w next A n c ov (rootsV (nds.take j)) wr) (fun _ v _ => n - (intOf v).toNat)
  case atStart => exact ⟨0, Nat.zero_le _, rfl, HM0.out, ⟨rfl, .inl ⟨rfl, rfl⟩⟩⟩
  case round =>
    clear HM0 a0
    obtain ⟨j, hj, rfl, W⟩ := hrel
    obtain ⟨fl, hfl⟩ : ∃ fl, rootsV (nds.take j) = fl := ⟨_, rfl⟩
    rw [hfl] at W
    have HFL := Lib.hid hfl
    have hlen : fl.length ≤ j := by rw [← hfl]; exact roots_len nds j
    have HW := Lib.hid W
    clear W hfl
    rename World => wr
    by_cases hlt : j < n
    · obtain ⟨b, o, hA, _, hb, V, hV⟩ := h.all (by omega)
      obtain ⟨nd, hnd⟩ : ∃ nd, nds[j]? = some nd := ⟨nds[j]'(by have := HL.out; omega), List.getElem?_eq_getElem _⟩
      have x2 := (HW.out.m.bel.cell (p := ⟨b, _, none⟩) (Nat.lt_of_lt_of_le hb hh)).trans (hV j nd hnd).1.c2
      have x0 := (HW.out.m.bel.cell (p := ⟨b, _, none⟩) (Nat.lt_of_lt_of_le hb hh)).trans (hV j nd hnd).1.c0
      subst hA
      have a1 := (HW.out.m.a.cell 1).trans (show _ = some (.slice (some ⟨b, o, none⟩) n c) from rfl)
      have hrt := roots_take hnd
      rw [HFL.out] at hrt
      have HRT := Lib.hid hrt
      clear hV hnd hrt
      cases d1 : (nd.par == 0) with
      | false =>
        have HN : Hid (rootsV (nds.take (j + 1)) = fl) := Lib.hid (by rw [HRT.out, d1]; simp)
        go_wp2_with fail
        go_roundw
        case measure => simp only [intOf]; omega
        case rel => exact ⟨j + 1, by omega, by simp, by rw [HN.out]; exact HW.out⟩
      | true =>
        have HN : Hid (rootsV (nds.take (j + 1)) = fl ++ [nd.id]) := Lib.hid (by rw [HRT.out, d1]; simp)
        go_wp2_with (at_builtin; go_must (refine wpList_app _ rfl (.tmp 18) (.tmp 25) _ rfl w.heap.size 3 i0 _ 1 8 Tryz.underlying33 hi0 hz0 hz1 hz2 rfl (by omega) u3 fl.length (intCells fl) rfl (own_after HW.out.own (below_more (Below.refl _ _) _)) wr.heap.size (wr.heap.size + 1) (some ⟨wr.heap.size, 0, none⟩) 1 1 [.int .i64 nd.id] rfl (row_blk (n := 1) (Blk.new' rfl) rfl (Nat.le_refl _) (by unfold maxLen; omega)) (by simp [Value.oneCell']) (by unfold maxLen; omega) (by omega) (Nat.le_trans HW.out.m.bel.size (by simp)) ?_); go_must (intro v7 w7 hown7 hg7 _; obtain ⟨G7, cap7, rfl, hca7, hcb7⟩ := own_slice hown7; have HW7 := Lib.hid ((HW.out.after (below_more (Below.refl _ _) _)).push hg7 hown7); clear hown7 hg7))
        go_roundw
        case measure => simp only [intOf]; omega
        case rel => exact ⟨j + 1, by omega, by simp, by rw [HN.out]; exact HW7.out⟩
    · have hjn : j = n := by omega
      subst hjn
      have hfin : fl = rootsV nds := by rw [← HFL.out, List.take_of_length_le (by have := HL.out; omega)]
      subst hfin
      obtain ⟨Ao, co, rfl⟩ := own_form HW.out.own
      clear h
      go_wp2_with fail
      go_ret
      exact ⟨_, rfl, HW.out.own, HW.out.m.bel⟩
theorem checkV_no {next : Int} {nds : List Nd} (h : rightB next nds = false) : checkV next nds = 29 := by unfold checkV; rw [h]; rfl
theorem checkV_yes {next : Int} {nds : List Nd} (h : rightB next nds = true) : checkV next nds = 0 := by unfold checkV; rw [h]; rfl
/-- behind the walk: the box's list -/
theorem ids_end {w Y X : World} {g0 : Nat} {r : List Int} (hb : Below w.heap.size w Y) (hg : w.heap.size ≤ g0) (h : IdsInv Y g0 r X) : ∃ A m c, X.cell? ⟨g0, 0, none⟩ = some (.slice A m c) ∧ X.ownsRow w.heap.size 3 1 (.slice A m c) r.length (intCells r) ∧ Below w.heap.size w X := by
  obtain ⟨ov, h⟩ := h
  obtain ⟨A, c, rfl⟩ := own_form h.own
  exact ⟨A, _, c, (h.e.bx.cell 0).trans rfl, own_mono h.own hb.size, Below.only hb h.e.gr hb.size hg⟩
/-- .. ahead of it: an empty one -/
theorem ids_start {Y : World} {g0 : Nat} (h : Blk Y g0 33 #[.slice none 0 0]) : IdsInv Y g0 [] Y := ⟨_, ⟨World.grownBy.refl _ _, h⟩, ⟨rfl, .inl ⟨rfl, rfl⟩⟩⟩
/-- a closure that lists all nodes -/
theorem visit_list {Y : World} {hi g0 : Nat} {A : Option Addr} {n c : Nat} {nds : List Nd} (F : FuncId) (hF : ∀ args w, Sem.run Tryz.prog (callFunc F args) w = .ok (.enter F args) w)
    (hcall : ∀ (X : World) (b oi d : Nat) (id : Int) (r : List Int), IdsInv Y g0 r X → r.length < 4096 → b < Y.heap.size → b ≠ g0 → Y.cell? ⟨b, oi, none⟩ = some (.int .i64 id) → Calls Tryz.prog F #[.pointer (some ⟨b, oi, none⟩), .int .i64 d, .pointer (some ⟨g0, 0, none⟩)] X fun e X' => e = .returned (.tuple #[]) ∧ IdsInv Y g0 (r ++ [id]) X' ∧ Keeps X X')
    (hN : NodesIn Y 0 hi A n c nds) (hh : hi ≤ Y.heap.size) (hg : hi ≤ g0) : Visit Y g0 4096 A nds F #[.pointer (some ⟨g0, 0, none⟩)] fun X l => IdsInv Y g0 (l.map (·.1)) X := by
  refine ⟨hF, fun X l h => ?_, fun X X' l h hb => h.after hb, fun X l i nd d b o h hl hnd hA _ => ?_⟩
  · obtain ⟨ov, h⟩ := h
    exact h.e.gr
  · obtain ⟨b', o', hA', _, hb, V, hV⟩ := hN.all (by have := (List.getElem?_eq_some_iff.1 hnd).1; have := hN.1; omega)
    rw [hA] at hA'
    injection hA' with hA'
    injection hA' with e1 e2
    subst e1 e2
    rw [List.map_append]
    exact hcall X b (o + i * 7) d nd.id _ h (by rw [List.length_map]; exact hl) (by omega) (by omega) (hV i nd hnd).1.c0
/-- document order, as it is answered -/
def orderR (next : Int) (nds : List Nd) : List Int := if rightB next nds = true then orderV nds else []
set_option maxRecDepth 100000 in
set_option maxHeartbeats 3200000 in
theorem order_any (w : World) (hi : Nat) (next : Int) (A : Option Addr) (n c : Nat) (nds : List Nd) (h : NodesIn w 0 hi A n c nds) (hh : hi ≤ w.heap.size) :
    Calls Tryz.prog 10 #[.agg #[.int .i64 next, .slice A n c]] w (ListR w (orderR next nds)) := by
  have HM0 := Lib.hid (M1.start w next A n c)
  have HCh := Lib.hid (check_any _ hi next A n c nds (h.below (HM0.out.bel.mono hh)) (Nat.le_trans hh HM0.out.bel.size))
  cases hrt : rightB next nds with
  | false =>
    have HX : Hid (orderR next nds = []) := Lib.hid (by unfold orderR; rw [hrt]; rfl)
    have HV := Lib.hid (checkV_no hrt)
    clear hrt h
    go_enter Tryz.func10, Tryz.ntmps10
    go_wp2_with (go_at_call 12; go_must (refine HCh.out.mono ?_; rintro e w2 ⟨rfl, hb2⟩; rw [HV.out]; have HM2 := Lib.hid (HM0.out.after hb2); clear hb2))
    go_ret
    rw [HX.out]
    exact listR_nil rfl HM2.out.bel
  | true =>
    have hR := rightM hrt
    have hn4 : n ≤ 4096 := by rw [← h.1]; exact hR.len
    have HX : Hid (orderR next nds = orderV nds) := Lib.hid (by unfold orderR; rw [hrt]; rfl)
    have HV := Lib.hid (checkV_yes hrt)
    rw [HX.out]
    have HRo : Hid (∀ X, Below w.heap.size w X → Calls Tryz.prog 32 #[.agg #[.int .i64 next, .slice A n c]] X (ListR X (rootsV nds))) := Lib.hid fun X hX => roots_any X hi next A n c nds (h.below (hX.mono hh)) (Nat.le_trans hh hX.size) hn4
    clear hrt
    go_enter Tryz.func10, Tryz.ntmps10
    go_upto_region 4 with (go_at_call 12; go_must (refine HCh.out.mono ?_; rintro e w2 ⟨rfl, hb2⟩; rw [HV.out]; have HM2 := Lib.hid (HM0.out.after hb2); clear hb2))
    have HM3 := Lib.hid ((HM2.out.after (below_more (Below.refl _ _) (.cells #[.slice none 0 0] 33))).after (below_drew1 _))
    have HB3 := Lib.hid ((Blk.new w2 33 #[.slice none 0 0]).after (below_drew1 _))
    have HG1 : Hid (w.heap.size ≤ w2.heap.size) := Lib.hid HM2.out.bel.size
    have HG0 : Hid (w2.heap.size < (w2.alloc (.cells #[.slice none 0 0] 33)).drew.heap.size) := Lib.hid HB3.out.lt
    obtain ⟨g0, hg0⟩ : ∃ g0, g0 = w2.heap.size := ⟨_, rfl⟩
    rw [← hg0] at HB3 HG1 HG0 ⊢
    have hg1 := HG1.out
    clear hg0
    generalize w2.alloc (.cells #[.slice none 0 0] 33) = X3 at HM3 HB3 HG0 ⊢
    have HSof : Hid (∀ X, M1 w next A n c X → X.cell? ⟨w.heap.size, 0, none⟩ = some (.int .i64 next) ∧ X.cell? ⟨w.heap.size, 1, none⟩ = some (.slice A n c)) := Lib.hid fun X hX => ⟨(hX.a.cell 0).trans rfl, (hX.a.cell 1).trans rfl⟩
    refine wp_region_held_tail 4 (fun w' => w'.cell? ⟨w.heap.size, 0, none⟩ = some (.int .i64 next) ∧ w'.cell? ⟨w.heap.size, 1, none⟩ = some (.slice A n c)) (by kernel_rfl) (by kernel_rfl) ?hSt (fun hHeld => ?qt0)
    case hSt => exact HSof.out _ HM3.out
    case qt0 =>
      simp only [List.take_succ_cons, List.take_zero, List.drop_succ_cons, List.drop_zero]
      refine wpAnyH_take (i := 0) (v := (.agg #[.int .i64 next, .slice A n c])) rfl (by kernel_rfl) (by kernel_rfl) (by kernel_rfl) (fun _ _ _ h => h) (Or.inl ⟨by rfl, ?yt_1⟩) (by assumption) ?qt_1
      case yt_1 => (intro w hSw; (try dsimp only at hSw); go_simp)
      case qt_1 =>
        (try simp only [Act.put]); (try simp only [List.setIfInBounds_toArray])
        refine wpAnyH_take (i := 1) (v := (.agg #[.int .i64 next, .slice A n c])) rfl (by kernel_rfl) (by kernel_rfl) (by kernel_rfl) (fun _ _ _ h => h) (Or.inl ⟨by rfl, ?yt_2⟩) (by assumption) ?qt_2
        case yt_2 => (intro w hSw; (try dsimp only at hSw); go_simp)
        case qt_2 =>
          (try simp only [Act.put]); (try simp only [List.setIfInBounds_toArray])
          refine wpAnyH_take (i := 3) (v := (.func (.func 33) #[] #[.pointer (some ⟨g0, 0, none⟩)])) rfl (by kernel_rfl) (by kernel_rfl) (by kernel_rfl) (fun _ _ _ h => h) (Or.inl ⟨by rfl, ?yt_3⟩) (by assumption) ?qt_3
          case yt_3 => (intro w hSw; (try dsimp only at hSw); go_simp)
          case qt_3 =>
            (try simp only [Act.put]); (try simp only [List.setIfInBounds_toArray])
            refine wpAnyH_ready (rs := [2]) (by kernel_rfl) (by simp) ?_
            refine AllReadyH.cons rfl (fun K hK => ?st_4) ?mt_4
            case st_4 =>
              (refine step_call _ (by rfl) 32 #[.agg #[.int .i64 next, .slice A n c]] (by go_simp) (HRo.out _ HM3.out.bel) ?_; rintro e Y ⟨vr, rfl, hvr, hbr⟩; refine ⟨_, rfl, ?_⟩; obtain ⟨Ar, cr, rfl⟩ := own_form hvr; have HVR := Lib.hid hvr; have HMY := Lib.hid (HM3.out.after hbr); have HBY := Lib.hid (HB3.out.after hbr); clear hvr hbr)
              refine hK.out _ _ ?kt_4 (fun hHeld => ?qt_4)
              case kt_4 => ((try dsimp only); first | exact HSof.out _ HMY.out | exact HSof.out _ HM3.out)
              case qt_4 =>
                clear hK K
                (try simp only [Act.put]); (try simp only [List.setIfInBounds_toArray])
                refine wpAnyH_done (by kernel_rfl) ?_ _
                clear hHeld
                have hNY := h.below (HMY.out.bel.mono hh)
                have hYs := Nat.le_trans hh HMY.out.bel.size
                have HOv := Lib.hid (over_any Y hi g0 4096 next A n c nds 33 #[.pointer (some ⟨g0, 0, none⟩)] _ (visit_list 33 (by intro args w; go_simp) (fun X b oi d id r h1 h2 h3 h4 h5 => visitOrder_any Y X g0 b oi d id r h1 h2 h3 h4 h5) hNY hYs (by omega)) hNY hYs (by omega) hR.rise hn4 (ids_start HBY.out) 64 (rootsV nds) Ar (rootsV nds).length cr (ok_of hR 64 1 _ (by omega) (roots_at hR)) (RowF.of (own_row HVR.out) (Nat.le_refl _) (.inl HG0.out)) (Nat.le_trans (pre_len hR (roots_nodup hR.rise) (roots_at hR)) hR.len) (by omega))
                rw [order_pre hR] at HOv
                show wpList _ _ _ _ _ _
                go_wp2_with (go_at_call 31; go_must (refine HOv.out.mono ?_; rintro e w5 ⟨rfl, hi5⟩; obtain ⟨A5, m5, c5, hc5, ho5, hb5⟩ := ids_end HMY.out.bel HG1.out hi5; have HO5 := Lib.hid ho5; have HB5 := Lib.hid hb5; clear hi5 ho5 hb5))
                go_ret
                exact ⟨_, rfl, HO5.out, HB5.out⟩
            case mt_4 =>
              exact AllReadyH.nil
end Go.Proofs.YtbkmdlfenbfdlaaGreat
namespace Go.Proofs.YtbkmdlfenbfdlaaGreat
open Go Go.RowKit Go.Sort
set_option linter.unusedVariables false
attribute [local go_sem ↓] Go.wp_at_zero Go.wp_at_succ
/-- what is below a node, as it is answered -/
def belowR (next : Int) (nds : List Nd) (id : Int) : List Int := if (rightB next nds && (ixOf nds id).isSome) = true then belowV nds id else []
set_option maxRecDepth 100000 in
set_option maxHeartbeats 3200000 in
theorem below_any (w : World) (hi : Nat) (next id : Int) (A : Option Addr) (n c : Nat) (nds : List Nd) (h : NodesIn w 0 hi A n c nds) (hh : hi ≤ w.heap.size) :
    Calls Tryz.prog 25 #[.agg #[.int .i64 next, .slice A n c], .int .i64 id] w (ListR w (belowR next nds id)) := by
  have HM0 := Lib.hid (M1.start w next A n c)
  have HCh := Lib.hid (check_any _ hi next A n c nds (h.below (HM0.out.bel.mono hh)) (Nat.le_trans hh HM0.out.bel.size))
  cases hrt : rightB next nds with
  | false =>
    have HX : Hid (belowR next nds id = []) := Lib.hid (by unfold belowR; rw [hrt]; rfl)
    have HV := Lib.hid (checkV_no hrt)
    clear hrt h
    go_enter Tryz.func25, Tryz.ntmps25
    go_wp2_with (go_at_call 12; go_must (refine HCh.out.mono ?_; rintro e w2 ⟨rfl, hb2⟩; rw [HV.out]; have HM2 := Lib.hid (HM0.out.after hb2); have a0 := (HM2.out.a.cell 0).trans (show _ = some (.int .i64 next) from rfl); have a1 := (HM2.out.a.cell 1).trans (show _ = some (.slice A n c) from rfl); clear hb2))
    go_ret
    rw [HX.out]
    exact listR_nil rfl HM2.out.bel
  | true =>
    have hR := rightM hrt
    have hn4 : n ≤ 4096 := by rw [← h.1]; exact hR.len
    have HV := Lib.hid (checkV_yes hrt)
    have HHa : Hid (∀ X, Below w.heap.size w X → Calls Tryz.prog 40 #[.agg #[.int .i64 next, .slice A n c], .int .i64 id] X (Ret X (.bool (ixOf nds id).isSome))) := Lib.hid fun X hX => has_any X hi next id A n c nds (h.below (hX.mono hh)) (Nat.le_trans hh hX.size) hR.rise hn4
    cases hix : ixOf nds id with
    | none =>
      have HX : Hid (belowR next nds id = []) := Lib.hid (by unfold belowR; rw [hix]; simp)
      have HIX : Hid ((ixOf nds id).isSome = false) := Lib.hid (by rw [hix]; rfl)
      clear hrt h hix
      go_enter Tryz.func25, Tryz.ntmps25
      go_wp2_with (first | (go_at_call 12; go_must (refine HCh.out.mono ?_; rintro e w2 ⟨rfl, hb2⟩; rw [HV.out]; have HM2 := Lib.hid (HM0.out.after hb2); have a0 := (HM2.out.a.cell 0).trans (show _ = some (.int .i64 next) from rfl); have a1 := (HM2.out.a.cell 1).trans (show _ = some (.slice A n c) from rfl); clear hb2)) | (go_at_call 40; go_must (refine (HHa.out _ HM2.out.bel).mono ?_; rintro e w3 ⟨rfl, hb3⟩; rw [HIX.out]; have HM3 := Lib.hid (HM2.out.after hb3); clear hb3)))
      go_ret
      rw [HX.out]
      exact listR_nil rfl HM3.out.bel
    | some i =>
      have HX : Hid (belowR next nds id = belowV nds id) := Lib.hid (by unfold belowR; rw [hrt, hix]; simp)
      have HIX : Hid ((ixOf nds id).isSome = true) := Lib.hid (by rw [hix]; rfl)
      rw [HX.out]
      obtain ⟨nd, hgi, hie⟩ := ixOf_some hix
      have hnd : ndOf nds id = some nd := by unfold ndOf; rw [hix]; exact hgi
      have hin := ixOf_lt hix
      rw [h.1] at hin
      obtain ⟨b, o, hA, _, hb, V, hV⟩ := h.all (by omega)
      have hat := (hV i nd hgi).1.c5
      have hlf := (hV i nd hgi).2
      generalize V i = L at hat hlf
      obtain ⟨_, ⟨Ak, nk, ck⟩, _⟩ := L
      have hkrow := hlf.k
      simp only at hat hkrow
      subst hA
      have HKR := Lib.hid hkrow
      have HNo : Hid (∀ X, Below w.heap.size w X → Calls Tryz.prog 42 #[.agg #[.int .i64 next, .slice (some ⟨b, o, none⟩) n c], .int .i64 id] X (Ret X (.pointer (some ⟨b, o + i * 7, none⟩)))) := Lib.hid fun X hX => node_any X hi next id (some ⟨b, o, none⟩) n c nds (h.below (hX.mono hh)) (Nat.le_trans hh hX.size) hR.rise hn4 _ (by rw [hix]; exact ⟨b, o, rfl, rfl⟩)
      have HSof : Hid (∀ X, M1 w next (some ⟨b, o, none⟩) n c X → X.cell? ⟨w.heap.size, 0, none⟩ = some (.int .i64 next) ∧ X.cell? ⟨w.heap.size, 1, none⟩ = some (.slice (some ⟨b, o, none⟩) n c) ∧ X.cell? ⟨b, o + i * 7 + 5, none⟩ = some (.slice Ak nk ck)) := Lib.hid fun X hX => ⟨(hX.a.cell 0).trans rfl, (hX.a.cell 1).trans rfl, (hX.bel.cell (p := ⟨b, _, none⟩) (Nat.lt_of_lt_of_le hb hh)).trans hat⟩
      have HND := Lib.hid hnd
      clear hrt hix hgi hie hnd hat hlf hkrow hV
      go_enter Tryz.func25, Tryz.ntmps25
      go_upto_region 4 with (first | (go_at_call 12; go_must (refine HCh.out.mono ?_; rintro e w2 ⟨rfl, hb2⟩; rw [HV.out]; have HM2 := Lib.hid (HM0.out.after hb2); have a0 := (HM2.out.a.cell 0).trans (show _ = some (.int .i64 next) from rfl); have a1 := (HM2.out.a.cell 1).trans (show _ = some (.slice (some ⟨b, o, none⟩) n c) from rfl); clear hb2)) | (go_at_call 40; go_must (refine (HHa.out _ HM2.out.bel).mono ?_; rintro e w3 ⟨rfl, hb3⟩; rw [HIX.out]; have HM3 := Lib.hid (HM2.out.after hb3); clear hb3)))
      clear a0 a1
      have HM4 := Lib.hid ((HM3.out.after (below_more (Below.refl _ _) (.cells #[.slice none 0 0] 33))).after (below_drew1 _))
      have HB4 := Lib.hid ((Blk.new w3 33 #[.slice none 0 0]).after (below_drew1 _))
      have HG1 : Hid (w.heap.size ≤ w3.heap.size) := Lib.hid HM3.out.bel.size
      obtain ⟨g0, hg0⟩ : ∃ g0, g0 = w3.heap.size := ⟨_, rfl⟩
      rw [← hg0] at HB4 HG1 ⊢
      have hg1 := HG1.out
      clear hg0
      generalize w3.alloc (.cells #[.slice none 0 0] 33) = X3 at HM4 HB4 ⊢
      refine wp_region_held_tail 8 (fun w' => w'.cell? ⟨w.heap.size, 0, none⟩ = some (.int .i64 next) ∧ w'.cell? ⟨w.heap.size, 1, none⟩ = some (.slice (some ⟨b, o, none⟩) n c) ∧ w'.cell? ⟨b, o + i * 7 + 5, none⟩ = some (.slice Ak nk ck)) (by kernel_rfl) (by kernel_rfl) ?hSt (fun hHeld => ?qt0)
      case hSt => exact HSof.out _ HM4.out
      case qt0 =>
        simp only [List.take_succ_cons, List.take_zero, List.drop_succ_cons, List.drop_zero]
        refine wpAnyH_take (i := 0) (v := (.agg #[.int .i64 next, .slice (some ⟨b, o, none⟩) n c])) rfl (by kernel_rfl) (by kernel_rfl) (by kernel_rfl) (fun _ _ _ h => h) (Or.inl ⟨by rfl, ?yt_1⟩) (by assumption) ?qt_1
        case yt_1 => (intro w hSw; (try dsimp only at hSw); go_simp)
        case qt_1 =>
          (try simp only [Act.put]); (try simp only [List.setIfInBounds_toArray])
          refine wpAnyH_take (i := 1) (v := (.agg #[.int .i64 next, .slice (some ⟨b, o, none⟩) n c])) rfl (by kernel_rfl) (by kernel_rfl) (by kernel_rfl) (fun _ _ _ h => h) (Or.inl ⟨by rfl, ?yt_2⟩) (by assumption) ?qt_2
          case yt_2 => (intro w hSw; (try dsimp only at hSw); go_simp)
          case qt_2 =>
            (try simp only [Act.put]); (try simp only [List.setIfInBounds_toArray])
            refine wpAnyH_take (i := 2) (v := (.int .i64 id)) rfl (by kernel_rfl) (by kernel_rfl) (by kernel_rfl) (fun _ _ _ h => h) (Or.inl ⟨by rfl, ?yt_3⟩) (by assumption) ?qt_3
            case yt_3 => (intro w hSw; (try dsimp only at hSw); go_simp)
            case qt_3 =>
              (try simp only [Act.put]); (try simp only [List.setIfInBounds_toArray])
              refine wpAnyH_take (i := 7) (v := (.func (.func 58) #[] #[.pointer (some ⟨g0, 0, none⟩)])) rfl (by kernel_rfl) (by kernel_rfl) (by kernel_rfl) (fun _ _ _ h => h) (Or.inl ⟨by rfl, ?yt_4⟩) (by assumption) ?qt_4
              case yt_4 => (intro w hSw; (try dsimp only at hSw); go_simp)
              case qt_4 =>
                (try simp only [Act.put]); (try simp only [List.setIfInBounds_toArray])
                refine wpAnyH_ready (rs := [3]) (by kernel_rfl) (by simp) ?_
                refine AllReadyH.cons rfl (fun K hK => ?st_5) ?mt_5
                case st_5 =>
                  (refine step_call _ (by rfl) 42 #[.agg #[.int .i64 next, .slice (some ⟨b, o, none⟩) n c], .int .i64 id] (by go_simp) (HNo.out _ HM4.out.bel) ?_; rintro e Y ⟨rfl, hbr⟩; refine ⟨_, rfl, ?_⟩; have HMY := Lib.hid (HM4.out.after hbr); have HBY := Lib.hid (HB4.out.after hbr); clear hbr)
                  refine hK.out _ _ ?kt_5 (fun hHeld => ?qt_5)
                  case kt_5 => ((try dsimp only); first | exact HSof.out _ HMY.out | exact HSof.out _ HM4.out)
                  case qt_5 =>
                    clear hK K
                    (try simp only [Act.put]); (try simp only [List.setIfInBounds_toArray])
                    refine wpAnyH_take (i := 4) (v := (.pointer (some ⟨b, o + i * 7, none⟩))) rfl (by kernel_rfl) (by kernel_rfl) (by kernel_rfl) (fun _ _ _ h => h) (Or.inl ⟨by rfl, ?yt_6⟩) (by assumption) ?qt_6
                    case yt_6 => (intro w hSw; (try dsimp only at hSw); go_simp)
                    case qt_6 =>
                      (try simp only [Act.put]); (try simp only [List.setIfInBounds_toArray])
                      refine wpAnyH_take (i := 5) (v := (.pointer (some ⟨b, o + i * 7 + 5, none⟩))) rfl (by kernel_rfl) (by kernel_rfl) (by kernel_rfl) (fun _ _ _ h => h) (Or.inl ⟨by rfl, ?yt_7⟩) (by assumption) ?qt_7
                      case yt_7 => (intro w hSw; (try dsimp only at hSw); go_simp)
                      case qt_7 =>
                        (try simp only [Act.put]); (try simp only [List.setIfInBounds_toArray])
                        refine wpAnyH_take (i := 6) (v := (.slice Ak nk ck)) rfl (by kernel_rfl) (by kernel_rfl) (by kernel_rfl) (fun _ _ _ h => h) (Or.inl ⟨by rfl, ?yt_8⟩) (by assumption) ?qt_8
                        case yt_8 => (intro w hSw; (try dsimp only at hSw); go_simp)
                        case qt_8 =>
                          (try simp only [Act.put]); (try simp only [List.setIfInBounds_toArray])
                          refine wpAnyH_done (by kernel_rfl) ?_ _
                          clear hHeld
                          have hNY := h.below (HMY.out.bel.mono hh)
                          have hYs := Nat.le_trans hh HMY.out.bel.size
                          have hD := hR.depth HND.out
                          have hK := AtD.kids hR (x := id) ⟨⟨nd, HND.out⟩, rfl⟩
                          rw [kidsV_of HND.out] at hK
                          have hKn : nd.kids.Nodup := by obtain ⟨i', _, hi', _⟩ := ndOf_some HND.out; exact (hR.kids (List.mem_of_getElem? hi')).2
                          have HOv := Lib.hid (over_any Y hi g0 4096 next (some ⟨b, o, none⟩) n c nds 58 #[.pointer (some ⟨g0, 0, none⟩)] _ (visit_list 58 (by intro args w; go_simp) (fun X b oi d id r h1 h2 h3 h4 h5 => visitBelow_any Y X g0 b oi d id r h1 h2 h3 h4 h5) hNY hYs (by omega)) hNY hYs (by omega) hR.rise hn4 (ids_start HBY.out) (64 - depthV nds id) nd.kids Ak nk ck (ok_of hR _ _ _ (by omega) hK) (RowF.of (HKR.out.below (HMY.out.bel.mono hh)) hYs (.inr (by omega))) (Nat.le_trans (pre_len hR hKn hK) hR.len) (by omega))
                          rw [below_pre hR HND.out] at HOv
                          clear hNY hYs hD hK hKn
                          show wpList _ _ _ _ _ _
                          go_wp2_with (go_at_call 31; go_must (refine HOv.out.mono ?_; rintro e w5 ⟨rfl, hi5⟩; obtain ⟨A5, m5, c5, hc5, ho5, hb5⟩ := ids_end HMY.out.bel HG1.out hi5; have HO5 := Lib.hid ho5; have HB5 := Lib.hid hb5; clear hi5 ho5 hb5))
                          go_ret
                          exact ⟨_, rfl, HO5.out, HB5.out⟩
                case mt_5 =>
                  exact AllReadyH.nil
/-- the boxes of a model and of a number -/
structure MI (w : World) (next : Int) (A : Option Addr) (n c : Nat) (z : Int) (X : World) : Prop where
  m : M1 w next A n c X
  i : Blk X (w.heap.size + 1) 3 #[.int .i64 z]
theorem MI.start (w : World) (next : Int) (A : Option Addr) (n c : Nat) (z : Int) : MI w next A n c z ((w.alloc (.cells #[.int .i64 next, .slice A n c] 26)).alloc (.cells #[.int .i64 z] 3)) :=
  ⟨⟨(Blk.new _ _ _).alloc _, below_more (below_more (Below.refl _ _) _) _⟩, Blk.new' (by simp)⟩
theorem MI.after {w X X' : World} {next z : Int} {A : Option Addr} {n c : Nat} (h : MI w next A n c z X) (hb : Below X.heap.size X X') : MI w next A n c z X' := ⟨h.m.after hb, h.i.after hb⟩
end Go.Proofs.YtbkmdlfenbfdlaaGreat
namespace Go.Proofs.YtbkmdlfenbfdlaaGreat
open Go Go.RowKit Go.Sort
set_option linter.unusedVariables false
attribute [local go_sem ↓] Go.wp_at_zero Go.wp_at_succ
def depthR (next : Int) (nds : List Nd) (id : Int) : Nat := if (rightB next nds && (ixOf nds id).isSome) = true then depthV nds id else 0
set_option maxRecDepth 20000 in
set_option maxHeartbeats 1600000 in
theorem depthQ_any (w : World) (hi : Nat) (next id : Int) (A : Option Addr) (n c : Nat) (nds : List Nd) (h : NodesIn w 0 hi A n c nds) (hh : hi ≤ w.heap.size) :
    Calls Tryz.prog 28 #[.agg #[.int .i64 next, .slice A n c], .int .i64 id] w (Ret w (.int .i64 (depthR next nds id))) := by
  have HM0 := Lib.hid (M1.start w next A n c)
  have HCh := Lib.hid (check_any _ hi next A n c nds (h.below (HM0.out.bel.mono hh)) (Nat.le_trans hh HM0.out.bel.size))
  cases hrt : rightB next nds with
  | false =>
    have HX : Hid ((depthR next nds id : Int) = 0) := Lib.hid (by unfold depthR; rw [hrt]; rfl)
    have HV := Lib.hid (checkV_no hrt)
    clear hrt h
    go_enter Tryz.func28, Tryz.ntmps28
    go_wp2_with (go_at_call 12; go_must (refine HCh.out.mono ?_; rintro e w2 ⟨rfl, hb2⟩; rw [HV.out]; have HM2 := Lib.hid (HM0.out.after hb2); have a0 := (HM2.out.a.cell 0).trans (show _ = some (.int .i64 next) from rfl); have a1 := (HM2.out.a.cell 1).trans (show _ = some (.slice A n c) from rfl); clear hb2))
    go_ret
    exact ret_i HX.out rfl HM2.out.bel
  | true =>
    have hR := rightM hrt
    have hn4 : n ≤ 4096 := by rw [← h.1]; exact hR.len
    have HV := Lib.hid (checkV_yes hrt)
    have HHa : Hid (∀ X, Below w.heap.size w X → Calls Tryz.prog 40 #[.agg #[.int .i64 next, .slice A n c], .int .i64 id] X (Ret X (.bool (ixOf nds id).isSome))) := Lib.hid fun X hX => has_any X hi next id A n c nds (h.below (hX.mono hh)) (Nat.le_trans hh hX.size) hR.rise hn4
    cases hix : ixOf nds id with
    | none =>
      have HX : Hid ((depthR next nds id : Int) = 0) := Lib.hid (by unfold depthR; rw [hix]; simp)
      have HIX : Hid ((ixOf nds id).isSome = false) := Lib.hid (by rw [hix]; rfl)
      clear hrt h hix
      go_enter Tryz.func28, Tryz.ntmps28
      go_wp2_with (first | (go_at_call 12; go_must (refine HCh.out.mono ?_; rintro e w2 ⟨rfl, hb2⟩; rw [HV.out]; have HM2 := Lib.hid (HM0.out.after hb2); have a0 := (HM2.out.a.cell 0).trans (show _ = some (.int .i64 next) from rfl); have a1 := (HM2.out.a.cell 1).trans (show _ = some (.slice A n c) from rfl); clear hb2)) | (go_at_call 40; go_must (refine (HHa.out _ HM2.out.bel).mono ?_; rintro e w3 ⟨rfl, hb3⟩; rw [HIX.out]; clear a0 a1; have HM3 := Lib.hid (HM2.out.after hb3); have b0 := (HM3.out.a.cell 0).trans (show _ = some (.int .i64 next) from rfl); have b1 := (HM3.out.a.cell 1).trans (show _ = some (.slice A n c) from rfl); clear hb3)))
      go_ret
      exact ret_i HX.out rfl HM3.out.bel
    | some i =>
      have HX : Hid ((depthR next nds id : Int) = depthV nds id) := Lib.hid (by unfold depthR; rw [hrt, hix]; simp)
      have HIX : Hid ((ixOf nds id).isSome = true) := Lib.hid (by rw [hix]; rfl)
      obtain ⟨nd, hgi, hie⟩ := ixOf_some hix
      have hnd : ndOf nds id = some nd := by unfold ndOf; rw [hix]; exact hgi
      have hD := hR.depth hnd
      have HDe : Hid (∀ X, Below w.heap.size w X → Calls Tryz.prog 60 #[.agg #[.int .i64 next, .slice A n c], .int .i64 id] X (Ret X (.int .i64 (depthV nds id)))) := Lib.hid fun X hX => depth_any X hi next id A n c nds (h.below (hX.mono hh)) (Nat.le_trans hh hX.size) hR.rise hn4 _ hD.1 (by omega)
      clear hrt h hix hgi hie hnd hD
      go_enter Tryz.func28, Tryz.ntmps28
      go_wp2_with (first | (go_at_call 12; go_must (refine HCh.out.mono ?_; rintro e w2 ⟨rfl, hb2⟩; rw [HV.out]; have HM2 := Lib.hid (HM0.out.after hb2); have a0 := (HM2.out.a.cell 0).trans (show _ = some (.int .i64 next) from rfl); have a1 := (HM2.out.a.cell 1).trans (show _ = some (.slice A n c) from rfl); clear hb2)) | (go_at_call 40; go_must (refine (HHa.out _ HM2.out.bel).mono ?_; rintro e w3 ⟨rfl, hb3⟩; rw [HIX.out]; clear a0 a1; have HM3 := Lib.hid (HM2.out.after hb3); have b0 := (HM3.out.a.cell 0).trans (show _ = some (.int .i64 next) from rfl); have b1 := (HM3.out.a.cell 1).trans (show _ = some (.slice A n c) from rfl); clear hb3)) | (go_at_call 60; go_must (refine (HDe.out _ HM3.out.bel).mono ?_; rintro e w4 ⟨rfl, hb4⟩; have HM4 := Lib.hid (HM3.out.after hb4); clear hb4)))
      go_ret
      exact ret_i HX.out rfl HM4.out.bel
def kidsR (next : Int) (nds : List Nd) (id : Int) (role : ByteArray) : List Int := if (rightB next nds && (ixOf nds id).isSome) = true then (kidsV nds id).filter (inRoleB nds role) else []
set_option maxRecDepth 20000 in
set_option maxHeartbeats 3200000 in
theorem kidsQ_any (w : World) (hi : Nat) (next id : Int) (role : ByteArray) (A : Option Addr) (n c : Nat) (nds : List Nd) (h : NodesIn w 0 hi A n c nds) (hh : hi ≤ w.heap.size) :
    Calls Tryz.prog 17 #[.agg #[.int .i64 next, .slice A n c], .int .i64 id, .string role] w (ListR w (kidsR next nds id role)) := by
  have HM0 := Lib.hid (M1.start w next A n c)
  have HCh := Lib.hid (check_any _ hi next A n c nds (h.below (HM0.out.bel.mono hh)) (Nat.le_trans hh HM0.out.bel.size))
  cases hrt : rightB next nds with
  | false =>
    have HX : Hid (kidsR next nds id role = []) := Lib.hid (by unfold kidsR; rw [hrt]; rfl)
    have HV := Lib.hid (checkV_no hrt)
    clear hrt h
    go_enter Tryz.func17, Tryz.ntmps17
    go_wp2_with (go_at_call 12; go_must (refine HCh.out.mono ?_; rintro e w2 ⟨rfl, hb2⟩; rw [HV.out]; have HM2 := Lib.hid (HM0.out.after hb2); have a0 := (HM2.out.a.cell 0).trans (show _ = some (.int .i64 next) from rfl); have a1 := (HM2.out.a.cell 1).trans (show _ = some (.slice A n c) from rfl); clear hb2))
    go_ret
    rw [HX.out]
    exact listR_nil rfl HM2.out.bel
  | true =>
    have hR := rightM hrt
    have hn4 : n ≤ 4096 := by rw [← h.1]; exact hR.len
    have HV := Lib.hid (checkV_yes hrt)
    have HHa : Hid (∀ X, Below w.heap.size w X → Calls Tryz.prog 40 #[.agg #[.int .i64 next, .slice A n c], .int .i64 id] X (Ret X (.bool (ixOf nds id).isSome))) := Lib.hid fun X hX => has_any X hi next id A n c nds (h.below (hX.mono hh)) (Nat.le_trans hh hX.size) hR.rise hn4
    cases hix : ixOf nds id with
    | none =>
      have HX : Hid (kidsR next nds id role = []) := Lib.hid (by unfold kidsR; rw [hix]; simp)
      have HIX : Hid ((ixOf nds id).isSome = false) := Lib.hid (by rw [hix]; rfl)
      clear hrt h hix
      go_enter Tryz.func17, Tryz.ntmps17
      go_wp2_with (first | (go_at_call 12; go_must (refine HCh.out.mono ?_; rintro e w2 ⟨rfl, hb2⟩; rw [HV.out]; have HM2 := Lib.hid (HM0.out.after hb2); have a0 := (HM2.out.a.cell 0).trans (show _ = some (.int .i64 next) from rfl); have a1 := (HM2.out.a.cell 1).trans (show _ = some (.slice A n c) from rfl); clear hb2)) | (go_at_call 40; go_must (refine (HHa.out _ HM2.out.bel).mono ?_; rintro e w3 ⟨rfl, hb3⟩; rw [HIX.out]; clear a0 a1; have HM3 := Lib.hid (HM2.out.after hb3); have b0 := (HM3.out.a.cell 0).trans (show _ = some (.int .i64 next) from rfl); have b1 := (HM3.out.a.cell 1).trans (show _ = some (.slice A n c) from rfl); clear hb3)))
      go_ret
      rw [HX.out]
      exact listR_nil rfl HM3.out.bel
    | some i =>
      have HX : Hid (kidsR next nds id role = (kidsV nds id).filter (inRoleB nds role)) := Lib.hid (by unfold kidsR; rw [hrt, hix]; simp)
      have HIX : Hid ((ixOf nds id).isSome = true) := Lib.hid (by rw [hix]; rfl)
      obtain ⟨nd, hgi, hie⟩ := ixOf_some hix
      have hnd : ndOf nds id = some nd := by unfold ndOf; rw [hix]; exact hgi
      rw [HX.out, kidsV_of hnd]
      have hKO := hR.kOk (List.mem_of_getElem? hgi)
      have hin := ixOf_lt hix
      rw [h.1] at hin
      have HL := Lib.hid h.1
      obtain ⟨b, o, hA, _, hb, V, hV⟩ := h.all (by omega)
      have hat := (hV i nd hgi).1.c5
      have hlf := (hV i nd hgi).2
      generalize V i = L at hat hlf
      obtain ⟨_, ⟨Ak, nk, ck⟩, _⟩ := L
      have hkrow := hlf.k
      have hkn : nk = nd.kids.length := hlf.kn
      simp only at hat hkrow
      have hck := hkrow.2.2.1
      have hnk := hkrow.2.1
      unfold maxLen at hck
      subst hA
      have HROW := Lib.hid hkrow
      have HKN := Lib.hid hkn
      have hnk4 : nk ≤ 4096 := by have := hKO.kl; omega
      have HKS := Lib.hid hKO.kids
      obtain ⟨i0, hi0, hz0, hz1, hz2⟩ := info_parts intInfo
      have HNs : Hid (∀ X, Below w.heap.size w X → ∀ y j, ixOf nds y = some j → Calls Tryz.prog 42 #[.agg #[.int .i64 next, .slice (some ⟨b, o, none⟩) n c], .int .i64 y] X (Ret X (.pointer (some ⟨b, o + j * 7, none⟩)))) := Lib.hid fun X hX y j hy => node_any X hi next y (some ⟨b, o, none⟩) n c nds (h.below (hX.mono hh)) (Nat.le_trans hh hX.size) hR.rise hn4 _ (by rw [hy]; exact ⟨b, o, rfl, rfl⟩)
      have HNo : Hid (∀ X, Below w.heap.size w X → Calls Tryz.prog 42 #[.agg #[.int .i64 next, .slice (some ⟨b, o, none⟩) n c], .int .i64 id] X (Ret X (.pointer (some ⟨b, o + i * 7, none⟩)))) := Lib.hid fun X hX => HNs.out X hX id i hix
      have HAT : Hid (∀ X, Below w.heap.size w X → X.cell? ⟨b, o + i * 7 + 5, none⟩ = some (.slice Ak nk ck)) := Lib.hid fun X hX => (hX.cell (p := ⟨b, _, none⟩) (Nat.lt_of_lt_of_le hb hh)).trans hat
      clear hrt hix hgi hie hnd hat hlf hkrow hkn hKO
      go_enter Tryz.func17, Tryz.ntmps17
      go_wp2_with (first | (go_at_call 12; go_must (refine HCh.out.mono ?_; rintro e w2 ⟨rfl, hb2⟩; rw [HV.out]; have HM2 := Lib.hid (HM0.out.after hb2); have a0 := (HM2.out.a.cell 0).trans (show _ = some (.int .i64 next) from rfl); have a1 := (HM2.out.a.cell 1).trans (show _ = some (.slice (some ⟨b, o, none⟩) n c) from rfl); clear hb2)) | (go_at_call 40; go_must (refine (HHa.out _ HM2.out.bel).mono ?_; rintro e w3 ⟨rfl, hb3⟩; rw [HIX.out]; clear a0 a1; have HM3 := Lib.hid (HM2.out.after hb3); have b0 := (HM3.out.a.cell 0).trans (show _ = some (.int .i64 next) from rfl); have b1 := (HM3.out.a.cell 1).trans (show _ = some (.slice (some ⟨b, o, none⟩) n c) from rfl); clear hb3)) | (go_at_call 42; go_must (refine (HNo.out _ HM3.out.bel).mono ?_; rintro e w4 ⟨rfl, hb4⟩; have HM4 := Lib.hid (HM3.out.after hb4); have h5 := HAT.out _ HM4.out.bel; clear hb4 b0 b1)))
      go_loopw [7, 26] (fun ov v9 wr => ∃ (j : Nat), j ≤ nk ∧ v9 = .int .i64 j ∧ KW w next (some ⟨b, o, none⟩) n c ov ((nd.kids.take j).filter (inRoleB nds role)) wr) (fun _ v _ => nk - (intOf v).toNat)
      case atStart => exact ⟨0, Nat.zero_le _, rfl, HM4.out, ⟨rfl, .inl ⟨rfl, rfl⟩⟩⟩
      case round =>
        clear h5 HM4 HM3 HM2 HM0 HCh HNo HAT
        obtain ⟨j, hj, rfl, W⟩ := hrel
        obtain ⟨fl, hfl⟩ : ∃ fl, (nd.kids.take j).filter (inRoleB nds role) = fl := ⟨_, rfl⟩
        rw [hfl] at W
        have HFL := Lib.hid hfl
        have HW := Lib.hid W
        clear W hfl
        rename World => wr
        by_cases hlt : j < nk
        · obtain ⟨kid, hkid⟩ : ∃ kid, nd.kids[j]? = some kid := ⟨nd.kids[j]'(by have := HKN.out; omega), List.getElem?_eq_getElem _⟩
          obtain ⟨bk, ok, rfl, _, hbk, hcells⟩ := HROW.out.at_ (by omega)
          have hkc := (HW.out.m.bel.cell (p := ⟨bk, _, none⟩) (Nat.lt_of_lt_of_le hbk hh)).trans (hcells j _ (intCells_get hkid))
          obtain ⟨x, hx⟩ := HKS.out kid (List.mem_of_getElem? hkid)
          obtain ⟨q, hqx, hgq⟩ := ixOf_of_ndOf hx
          have hqn := ixOf_lt hqx
          rw [HL.out] at hqn
          have HXR : Hid (∀ X, Below w.heap.size w X → X.cell? ⟨b, o + q * 7 + 3, none⟩ = some (.string x.role)) := Lib.hid fun X hX => (hX.cell (p := ⟨b, _, none⟩) (Nat.lt_of_lt_of_le hb hh)).trans (hV q x hgq).1.c3
          have HNq := Lib.hid (HNs.out wr HW.out.m.bel kid q hqx)
          have hf : inRoleB nds role kid = (x.role.toList == role.toList) := by unfold inRoleB; rw [hx]
          have htk : nd.kids.take (j + 1) = nd.kids.take j ++ [kid] := by rw [List.take_add_one, hkid]; rfl
          have a0 := (HW.out.m.a.cell 0).trans (show _ = some (.int .i64 next) from rfl)
          have a1 := (HW.out.m.a.cell 1).trans (show _ = some (.slice (some ⟨b, o, none⟩) n c) from rfl)
          have hlen : fl.length ≤ 4096 := by
            have h1 := HFL.out
            have h2 := List.length_filter_le (inRoleB nds role) (nd.kids.take j)
            rw [h1, List.length_take] at h2
            omega
          clear hkid hcells hx hqx hgq
          cases d1 : (x.role.toList == role.toList) with
          | false =>
            have HN : Hid ((nd.kids.take (j + 1)).filter (inRoleB nds role) = fl) := Lib.hid (by rw [htk, List.filter_append, HFL.out, List.filter_cons_of_neg (by rw [hf, d1]; simp), List.filter_nil, List.append_nil])
            clear hf htk
            go_wp2_with (go_at_call 42; go_must (refine HNq.out.mono ?_; rintro e w5 ⟨rfl, hb5⟩; have HW5 := Lib.hid (HW.out.after hb5); have h5 := HXR.out _ HW5.out.m.bel; clear hb5 a0 a1))
            go_roundw
            case measure => simp only [intOf]; omega
            case rel => exact ⟨j + 1, by omega, by simp, by rw [HN.out]; exact HW5.out⟩
          | true =>
            have HN : Hid ((nd.kids.take (j + 1)).filter (inRoleB nds role) = fl ++ [kid]) := Lib.hid (by rw [htk, List.filter_append, HFL.out, List.filter_cons_of_pos (by rw [hf, d1]), List.filter_nil])
            clear hf htk
            go_wp2_with (first | (go_at_call 42; go_must (refine HNq.out.mono ?_; rintro e w5 ⟨rfl, hb5⟩; have HW5 := Lib.hid (HW.out.after hb5); have h5 := HXR.out _ HW5.out.m.bel; clear hb5 a0 a1)) | (at_builtin; go_must (refine wpList_app _ rfl (.tmp 38) (.tmp 40) _ rfl w.heap.size 3 i0 _ 1 8 Tryz.underlying33 hi0 hz0 hz1 hz2 rfl (by omega) u7 fl.length (intCells fl) rfl (own_after HW5.out.own (below_more (Below.refl _ _) _)) w5.heap.size (w5.heap.size + 1) (some ⟨w5.heap.size, 0, none⟩) 1 1 [.int .i64 kid] rfl (row_blk (n := 1) (Blk.new' rfl) rfl (Nat.le_refl _) (by unfold maxLen; omega)) (by simp [Value.oneCell']) (by unfold maxLen; omega) (by omega) (Nat.le_trans HW5.out.m.bel.size (by simp)) ?_); go_must (intro v7 w7 hown7 hg7 _; obtain ⟨G7, cap7, rfl, hca7, hcb7⟩ := own_slice hown7; have HW7 := Lib.hid ((HW5.out.after (below_more (Below.refl _ _) _)).push hg7 hown7); clear hown7 hg7)))
            go_roundw
            case measure => simp only [intOf]; omega
            case rel => exact ⟨j + 1, by omega, by simp, by rw [HN.out]; exact HW7.out⟩
        · have hjn : j = nk := by omega
          subst hjn
          have hfin : fl = nd.kids.filter (inRoleB nds role) := by rw [← HFL.out, List.take_of_length_le (by have := HKN.out; omega)]
          subst hfin
          obtain ⟨Ao, co, rfl⟩ := own_form HW.out.own
          clear h
          go_wp2_with fail
          go_ret
          exact ⟨_, rfl, HW.out.own, HW.out.m.bel⟩
end Go.Proofs.YtbkmdlfenbfdlaaGreat
namespace Go.Proofs.YtbkmdlfenbfdlaaGreat
open Go Go.RowKit Go.Sort
set_option linter.unusedVariables false
attribute [local go_sem ↓] Go.wp_at_zero Go.wp_at_succ
/-- the box of a model, and two lists of numbers that grow -/
structure DW (w : World) (next : Int) (A : Option Addr) (n c : Nat) (ov : Value) (out : List Int) (sv : Value) (st : List Int) (X : World) : Prop where
  m : M1 w next A n c X
  o : X.ownsRow w.heap.size 3 1 ov out.length (intCells out)
  s : X.ownsRow w.heap.size 3 1 sv st.length (intCells st)
  ne : ov.ownBlock = none ∨ ov.ownBlock ≠ sv.ownBlock
section
variable {w X X' : World} {next : Int} {A : Option Addr} {n c : Nat} {ov sv : Value} {out st : List Int}
theorem own_lt {B size n : Nat} {e : TypeId} {v : Value} {xs : List Value} (h : X.ownsRow B e size v n xs) {g : Nat} (hg : v.ownBlock = some g) : g < X.heap.size := by
  rcases h.2 with ⟨rfl, _⟩ | ⟨g', cap, cur, rfl, _, hh, _⟩
  · simp [Value.ownBlock] at hg
  · have : g' = g := by simpa [Value.ownBlock] using hg
    subst this
    exact (Array.getElem?_eq_some_iff.1 hh).1
theorem DW.after (h : DW w next A n c ov out sv st X) (hb : Below X.heap.size X X') : DW w next A n c ov out sv st X' := ⟨h.m.after hb, own_after h.o hb, own_after h.s hb, h.ne⟩
end
end Go.Proofs.YtbkmdlfenbfdlaaGreat
namespace Go.Proofs.YtbkmdlfenbfdlaaGreat
open Go Go.RowKit Go.Sort
set_option linter.unusedVariables false
attribute [local go_sem ↓] Go.wp_at_zero Go.wp_at_succ
def zeroNd : Nd := ⟨0, ⟨#[]⟩, 0, ⟨#[]⟩, [], [], []⟩
def nilLeaf : Leaf := ⟨⟨none, 0, 0⟩, ⟨none, 0, 0⟩, ⟨none, 0, 0⟩⟩
theorem leafZ (w : World) (B : Nat) : OwnLeaf w B zeroNd nilLeaf :=
  ⟨rfl, rfl, rfl, ⟨by simp [zeroNd, propCells, nilLeaf], .inl ⟨rfl, rfl⟩⟩, ⟨by simp [zeroNd, intCells, nilLeaf], .inl ⟨rfl, rfl⟩⟩, ⟨by simp [zeroNd, refCells, nilLeaf], .inl ⟨rfl, rfl⟩⟩, ⟨by simp [zeroNd, ByteArray.size, maxLen], by simp [zeroNd, ByteArray.size, maxLen], by simp [zeroNd], by simp [zeroNd]⟩⟩
/-- the node with a number, and whether there is one -/
def findV (next : Int) (nds : List Nd) (id : Int) : Nd × Bool := if (rightB next nds && (ixOf nds id).isSome) = true then ((ndOf nds id).getD zeroNd, true) else (zeroNd, false)
def FindIs (w : World) (r : Nd × Bool) (e : Ending) (w' : World) : Prop := ∃ M : Leaf, e = .returned (.tuple #[.agg #[.int .i64 r.1.id, .string r.1.con, .int .i64 r.1.par, .string r.1.role, .slice M.p.A M.p.n M.p.c, .slice M.k.A M.k.n M.k.c, .slice M.r.A M.r.n M.r.c], .bool r.2]) ∧ OwnLeaf w' w.heap.size r.1 M ∧ Below w.heap.size w w'
/-- the boxes of a model and of a node -/
structure FB (w : World) (next : Int) (A : Option Addr) (n c : Nat) (X : World) : Prop where
  m : Blk X w.heap.size 26 #[.int .i64 next, .slice A n c]
  r : ∃ cs, cs.size = 7 ∧ Blk X (w.heap.size + 1) 41 cs
  bel : Below w.heap.size w X
section
variable {w X X' : World} {next : Int} {A : Option Addr} {n c : Nat}
theorem FB.start (w : World) (next : Int) (A : Option Addr) (n c : Nat) : FB w next A n c ((w.alloc (.cells #[.int .i64 next, .slice A n c] 26)).alloc (.cells #[.int .i64 0, .string ⟨#[]⟩, .int .i64 0, .string ⟨#[]⟩, .slice none 0 0, .slice none 0 0, .slice none 0 0] 41)) :=
  ⟨(Blk.new _ _ _).alloc _, ⟨_, by simp, Blk.new' (by simp)⟩, below_more (below_more (Below.refl _ _) _) _⟩
theorem FB.after (h : FB w next A n c X) (hb : Below X.heap.size X X') : FB w next A n c X' := by
  obtain ⟨h1, ⟨cs, h0, h2⟩, h3⟩ := h
  exact ⟨h1.after hb, ⟨cs, h0, h2.after hb⟩, h3.trans (hb.mono h3.size)⟩
theorem FB.room (h : FB w next A n c X) (j : Nat) (hj : j < 7) : (∃ u, X.cell? ⟨w.heap.size + 1, j, none⟩ = some u) ∧ X.frozen? ⟨w.heap.size + 1, j, none⟩ = false := by
  obtain ⟨h1, ⟨cs, h0, h2⟩, h3⟩ := h
  exact ⟨⟨cs[j]'(by omega), (h2.cell j).trans (Array.getElem?_eq_getElem (by omega))⟩, h2.frozen j⟩
theorem FB.set (h : FB w next A n c X) (i : Nat) (u : Value) : FB w next A n c (X.setCell ⟨w.heap.size + 1, i, none⟩ u) := by
  obtain ⟨h1, ⟨cs, h0, h2⟩, h3⟩ := h
  exact ⟨h1.far (p := ⟨w.heap.size + 1, i, none⟩) (by simp) u, ⟨_, by simpa using h0, h2.set_ i u⟩, h3.setCell (p := ⟨w.heap.size + 1, i, none⟩) (by simp) u⟩
theorem FB.leaf (h : FB w next A n c X) {nd : Nd} {M : Leaf} (hl : OwnLeaf X w.heap.size nd M) (i : Nat) (u : Value) : OwnLeaf (X.setCell ⟨w.heap.size + 1, i, none⟩ u) w.heap.size nd M := by
  obtain ⟨h1, ⟨cs, h0, h2⟩, h3⟩ := h
  exact hl.other h2 (by decide) (by decide) (by decide) i u
/-- a node is laid into the box -/
theorem FB.lay (h : FB w next A n c X) {nd : Nd} {M : Leaf} (hl : OwnLeaf X w.heap.size nd M) (u0 u1 u2 u3 u4 u5 u6 : Value) :
    OwnLeaf (((((((X.setCell ⟨w.heap.size + 1, 0, none⟩ u0).setCell ⟨w.heap.size + 1, 1, none⟩ u1).setCell ⟨w.heap.size + 1, 2, none⟩ u2).setCell ⟨w.heap.size + 1, 3, none⟩ u3).setCell ⟨w.heap.size + 1, 4, none⟩ u4).setCell ⟨w.heap.size + 1, 5, none⟩ u5).setCell ⟨w.heap.size + 1, 6, none⟩ u6) w.heap.size nd M ∧
    Below w.heap.size w (((((((X.setCell ⟨w.heap.size + 1, 0, none⟩ u0).setCell ⟨w.heap.size + 1, 1, none⟩ u1).setCell ⟨w.heap.size + 1, 2, none⟩ u2).setCell ⟨w.heap.size + 1, 3, none⟩ u3).setCell ⟨w.heap.size + 1, 4, none⟩ u4).setCell ⟨w.heap.size + 1, 5, none⟩ u5).setCell ⟨w.heap.size + 1, 6, none⟩ u6) :=
  ⟨((((((h.set 0 u0).set 1 u1).set 2 u2).set 3 u3).set 4 u4).set 5 u5).leaf ((((((h.set 0 u0).set 1 u1).set 2 u2).set 3 u3).set 4 u4).leaf (((((h.set 0 u0).set 1 u1).set 2 u2).set 3 u3).leaf ((((h.set 0 u0).set 1 u1).set 2 u2).leaf (((h.set 0 u0).set 1 u1).leaf ((h.set 0 u0).leaf (h.leaf hl 0 u0) 1 u1) 2 u2) 3 u3) 4 u4) 5 u5) 6 u6,
    (((((((h.set 0 u0).set 1 u1).set 2 u2).set 3 u3).set 4 u4).set 5 u5).set 6 u6).bel⟩
end
set_option maxRecDepth 20000 in
set_option maxHeartbeats 3200000 in
theorem find_any' (w : World) (hi : Nat) (next id : Int) (A : Option Addr) (n c : Nat) (nds : List Nd) (h : NodesIn w 0 hi A n c nds) (hh : hi ≤ w.heap.size) (hf : ∀ nd ∈ nds, Fits 1 nd) :
    Calls Tryz.prog 13 #[.agg #[.int .i64 next, .slice A n c], .int .i64 id] w (FindIs w (findV next nds id)) := by
  have HM0 := Lib.hid (FB.start w next A n c)
  have HCh := Lib.hid (check_any _ hi next A n c nds (h.below (HM0.out.bel.mono hh)) (Nat.le_trans hh HM0.out.bel.size))
  cases hrt : rightB next nds with
  | false =>
    have HX : Hid (findV next nds id = (zeroNd, false)) := Lib.hid (by unfold findV; rw [hrt]; rfl)
    have HV := Lib.hid (checkV_no hrt)
    clear hrt h
    go_enter Tryz.func13, Tryz.ntmps13
    go_wp2_with (go_at_call 12; go_must (refine HCh.out.mono ?_; rintro e w2 ⟨rfl, hb2⟩; rw [HV.out]; have HM2 := Lib.hid (HM0.out.after hb2); have a0 := (HM2.out.m.cell 0).trans (show _ = some (.int .i64 next) from rfl); have a1 := (HM2.out.m.cell 1).trans (show _ = some (.slice A n c) from rfl); obtain ⟨⟨u0, z0⟩, y0⟩ := HM2.out.room 0 (by omega); obtain ⟨⟨u1, z1⟩, y1⟩ := HM2.out.room 1 (by omega); obtain ⟨⟨u2, z2⟩, y2⟩ := HM2.out.room 2 (by omega); obtain ⟨⟨u3, z3⟩, y3⟩ := HM2.out.room 3 (by omega); obtain ⟨⟨u4, z4⟩, y4⟩ := HM2.out.room 4 (by omega); obtain ⟨⟨u5, z5⟩, y5⟩ := HM2.out.room 5 (by omega); obtain ⟨⟨u6, z6⟩, y6⟩ := HM2.out.room 6 (by omega); clear hb2))
    (try rw [Exit.noGoto_ret])
    (try simp only [Exit.inBlock, Exit.then])
    have hres : Tryz.f13.results = #[.cell 4 41, .tmp 5] := by kernel_rfl
    refine bodyPost_ret (v := .tuple #[.agg #[.int .i64 0, .string ⟨#[]⟩, .int .i64 0, .string ⟨#[]⟩, .slice none 0 0, .slice none 0 0, .slice none 0 0], .bool false]) ?hr rfl ?_
    case hr =>
      simp only [results, hres]
      go_simp
    rw [HX.out]
    have hE := HM2.out.lay (leafZ w2 w.heap.size) (.int .i64 0) (.string ⟨#[]⟩) (.int .i64 0) (.string ⟨#[]⟩) (.slice none 0 0) (.slice none 0 0) (.slice none 0 0)
    exact ⟨nilLeaf, rfl, hE.1, hE.2⟩
  | true =>
    have hR := rightM hrt
    have hn4 : n ≤ 4096 := by rw [← h.1]; exact hR.len
    have HV := Lib.hid (checkV_yes hrt)
    have HHa : Hid (∀ X, Below w.heap.size w X → Calls Tryz.prog 40 #[.agg #[.int .i64 next, .slice A n c], .int .i64 id] X (Ret X (.bool (ixOf nds id).isSome))) := Lib.hid fun X hX => has_any X hi next id A n c nds (h.below (hX.mono hh)) (Nat.le_trans hh hX.size) hR.rise hn4
    cases hix : ixOf nds id with
    | none =>
      have HX : Hid (findV next nds id = (zeroNd, false)) := Lib.hid (by unfold findV; rw [hix]; simp)
      have HIX : Hid ((ixOf nds id).isSome = false) := Lib.hid (by rw [hix]; rfl)
      clear hrt h hix
      go_enter Tryz.func13, Tryz.ntmps13
      go_wp2_with (first | (go_at_call 12; go_must (refine HCh.out.mono ?_; rintro e w2 ⟨rfl, hb2⟩; rw [HV.out]; have HM2 := Lib.hid (HM0.out.after hb2); have a0 := (HM2.out.m.cell 0).trans (show _ = some (.int .i64 next) from rfl); have a1 := (HM2.out.m.cell 1).trans (show _ = some (.slice A n c) from rfl); clear hb2)) | (go_at_call 40; go_must (refine (HHa.out _ HM2.out.bel).mono ?_; rintro e w3 ⟨rfl, hb3⟩; rw [HIX.out]; clear a0 a1; have HM3 := Lib.hid (HM2.out.after hb3); have b0 := (HM3.out.m.cell 0).trans (show _ = some (.int .i64 next) from rfl); have b1 := (HM3.out.m.cell 1).trans (show _ = some (.slice A n c) from rfl); obtain ⟨⟨u0, z0⟩, y0⟩ := HM3.out.room 0 (by omega); obtain ⟨⟨u1, z1⟩, y1⟩ := HM3.out.room 1 (by omega); obtain ⟨⟨u2, z2⟩, y2⟩ := HM3.out.room 2 (by omega); obtain ⟨⟨u3, z3⟩, y3⟩ := HM3.out.room 3 (by omega); obtain ⟨⟨u4, z4⟩, y4⟩ := HM3.out.room 4 (by omega); obtain ⟨⟨u5, z5⟩, y5⟩ := HM3.out.room 5 (by omega); obtain ⟨⟨u6, z6⟩, y6⟩ := HM3.out.room 6 (by omega); clear hb3)))
      (try rw [Exit.noGoto_ret])
      (try simp only [Exit.inBlock, Exit.then])
      have hres : Tryz.f13.results = #[.cell 4 41, .tmp 5] := by kernel_rfl
      refine bodyPost_ret (v := .tuple #[.agg #[.int .i64 0, .string ⟨#[]⟩, .int .i64 0, .string ⟨#[]⟩, .slice none 0 0, .slice none 0 0, .slice none 0 0], .bool false]) ?hr2 rfl ?_
      case hr2 =>
        simp only [results, hres]
        go_simp
      rw [HX.out]
      have hE := HM3.out.lay (leafZ w3 w.heap.size) (.int .i64 0) (.string ⟨#[]⟩) (.int .i64 0) (.string ⟨#[]⟩) (.slice none 0 0) (.slice none 0 0) (.slice none 0 0)
      exact ⟨nilLeaf, rfl, hE.1, hE.2⟩
    | some i =>
      have HIX : Hid ((ixOf nds id).isSome = true) := Lib.hid (by rw [hix]; rfl)
      obtain ⟨nd, hgi, hie⟩ := ixOf_some hix
      have hnd : ndOf nds id = some nd := by unfold ndOf; rw [hix]; exact hgi
      have HX : Hid (findV next nds id = (nd, true)) := Lib.hid (by unfold findV; rw [hrt, hix, hnd]; simp)
      have hin := ixOf_lt hix
      rw [h.1] at hin
      obtain ⟨b, o, hA, _, hb, V, hV⟩ := h.all (by omega)
      have hat := (hV i nd hgi).1
      have hlf := (hV i nd hgi).2
      generalize V i = L at hat hlf
      subst hA
      have hfi := hf nd (List.mem_of_getElem? hgi)
      have HNo : Hid (∀ X, Below w.heap.size w X → Calls Tryz.prog 42 #[.agg #[.int .i64 next, .slice (some ⟨b, o, none⟩) n c], .int .i64 id] X (Ret X (.pointer (some ⟨b, o + i * 7, none⟩)))) := Lib.hid fun X hX => node_any X hi next id (some ⟨b, o, none⟩) n c nds (h.below (hX.mono hh)) (Nat.le_trans hh hX.size) hR.rise hn4 _ (by rw [hix]; exact ⟨b, o, rfl, rfl⟩)
      have HON : Hid (∀ X, Below w.heap.size w X → Calls Tryz.prog 41 #[.agg #[.int .i64 nd.id, .string nd.con, .int .i64 nd.par, .string nd.role, .slice L.p.A L.p.n L.p.c, .slice L.k.A L.k.n L.k.c, .slice L.r.A L.r.n L.r.c]] X fun e w' => ∃ M : Leaf, e = .returned (.agg #[.int .i64 nd.id, .string nd.con, .int .i64 nd.par, .string nd.role, .slice M.p.A M.p.n M.p.c, .slice M.k.A M.k.n M.k.c, .slice M.r.A M.r.n M.r.c]) ∧ OwnLeaf w' X.heap.size nd M ∧ Below X.heap.size X w') := Lib.hid fun X hX => ownNode_any X hi nd L (hlf.below (hX.mono hh)) (Nat.le_trans hh hX.size) hfi
      have HAT : Hid (∀ X, Below w.heap.size w X → NodeAt X b (o + i * 7) nd L) := Lib.hid fun X hX => hat.below (hX.mono hh) hb
      obtain ⟨⟨Ap, np, cp⟩, ⟨Ak, nk, ck⟩, ⟨Ar, nr, cr⟩⟩ := L
      clear hrt h hix hgi hie hnd hat hlf hV hf hfi
      go_enter Tryz.func13, Tryz.ntmps13
      go_wp2_with (first | (go_at_call 12; go_must (refine HCh.out.mono ?_; rintro e w2 ⟨rfl, hb2⟩; rw [HV.out]; have HM2 := Lib.hid (HM0.out.after hb2); have a0 := (HM2.out.m.cell 0).trans (show _ = some (.int .i64 next) from rfl); have a1 := (HM2.out.m.cell 1).trans (show _ = some (.slice (some ⟨b, o, none⟩) n c) from rfl); clear hb2)) | (go_at_call 40; go_must (refine (HHa.out _ HM2.out.bel).mono ?_; rintro e w3 ⟨rfl, hb3⟩; rw [HIX.out]; clear a0 a1; have HM3 := Lib.hid (HM2.out.after hb3); have b0 := (HM3.out.m.cell 0).trans (show _ = some (.int .i64 next) from rfl); have b1 := (HM3.out.m.cell 1).trans (show _ = some (.slice (some ⟨b, o, none⟩) n c) from rfl); clear hb3)) | (go_at_call 42; go_must (refine (HNo.out _ HM3.out.bel).mono ?_; rintro e w4 ⟨rfl, hb4⟩; have HM4 := Lib.hid (HM3.out.after hb4); obtain ⟨k0, k1, k2, k3, k4, k5, k6⟩ := HAT.out _ HM4.out.bel; simp only at k4 k5 k6; clear hb4 b0 b1)) | (go_at_call 41; go_must (refine (HON.out _ HM4.out.bel).mono ?_; rintro e w5 ⟨⟨⟨A1, n1, c1⟩, ⟨A2, n2, c2⟩, ⟨A3, n3, c3⟩⟩, rfl, hl5, hb5⟩; have HM5 := Lib.hid (HM4.out.after hb5); have HL5 := Lib.hid (hl5.mono HM4.out.bel.size); clear k0 k1 k2 k3 k4 k5 k6; obtain ⟨⟨u0, z0⟩, y0⟩ := HM5.out.room 0 (by omega); obtain ⟨⟨u1, z1⟩, y1⟩ := HM5.out.room 1 (by omega); obtain ⟨⟨u2, z2⟩, y2⟩ := HM5.out.room 2 (by omega); obtain ⟨⟨u3, z3⟩, y3⟩ := HM5.out.room 3 (by omega); obtain ⟨⟨u4, z4⟩, y4⟩ := HM5.out.room 4 (by omega); obtain ⟨⟨u5, z5⟩, y5⟩ := HM5.out.room 5 (by omega); obtain ⟨⟨u6, z6⟩, y6⟩ := HM5.out.room 6 (by omega); clear hb5 hl5)))
      (try rw [Exit.noGoto_ret])
      (try simp only [Exit.inBlock, Exit.then])
      have hres : Tryz.f13.results = #[.cell 4 41, .tmp 5] := by kernel_rfl
      refine bodyPost_ret (v := .tuple #[.agg #[.int .i64 nd.id, .string nd.con, .int .i64 nd.par, .string nd.role, .slice A1 n1 c1, .slice A2 n2 c2, .slice A3 n3 c3], .bool true]) ?hr3 rfl ?_
      case hr3 =>
        simp only [results, hres]
        go_simp
      rw [HX.out]
      have hE := HM5.out.lay HL5.out (.int .i64 nd.id) (.string nd.con) (.int .i64 nd.par) (.string nd.role) (.slice A1 n1 c1) (.slice A2 n2 c2) (.slice A3 n3 c3)
      exact ⟨⟨⟨A1, n1, c1⟩, ⟨A2, n2, c2⟩, ⟨A3, n3, c3⟩⟩, rfl, hE.1, hE.2⟩
end Go.Proofs.YtbkmdlfenbfdlaaGreat
namespace Go.Proofs.YtbkmdlfenbfdlaaGreat
open Go Go.RowKit Go.Sort
set_option linter.unusedVariables false
attribute [local go_sem ↓] Go.wp_at_zero Go.wp_at_succ
section
variable {w X X' : World} {next : Int} {A : Option Addr} {n c : Nat} {ov sv : Value} {out st : List Int}
theorem DW.node_set (h : DW w next A n c ov out sv st X) {g : Nat} {cs : Array Value} (hB : Blk X g 41 cs) (hg : w.heap.size ≤ g) (i : Nat) (u : Value) : DW w next A n c ov out sv st (X.setCell ⟨g, i, none⟩ u) :=
  ⟨⟨h.m.a.far (p := ⟨g, i, none⟩) (h.m.a.ne_ hB (by decide)) u, h.m.bel.setCell (p := ⟨g, i, none⟩) hg u⟩, own_other h.o hB (by decide) i u, own_other h.s hB (by decide) i u, h.ne⟩
/-- .. and the box of a node -/
structure UB (w : World) (next : Int) (A : Option Addr) (n c : Nat) (ov : Value) (out : List Int) (sv : Value) (st : List Int) (g : Nat) (cs : Array Value) (X : World) : Prop where
  d : DW w next A n c ov out sv st X
  b : Blk X g 41 cs
  le : w.heap.size ≤ g
theorem UB.after {g : Nat} {cs : Array Value} (h : UB w next A n c ov out sv st g cs X) (hb : Below X.heap.size X X') : UB w next A n c ov out sv st g cs X' := ⟨h.d.after hb, h.b.after hb, h.le⟩
theorem UB.set {g : Nat} {cs : Array Value} (h : UB w next A n c ov out sv st g cs X) (i : Nat) (u : Value) : UB w next A n c ov out sv st g (cs.setIfInBounds i u) (X.setCell ⟨g, i, none⟩ u) := ⟨h.d.node_set h.b h.le i u, h.b.set_ i u, h.le⟩
theorem UB.lay {g : Nat} {a0 a1 a2 a3 a4 a5 a6 : Value} (h : UB w next A n c ov out sv st g #[a0, a1, a2, a3, a4, a5, a6] X) (u0 u1 u2 u3 u4 u5 u6 : Value) :
    UB w next A n c ov out sv st g #[u0, u1, u2, u3, u4, u5, u6] (((((((X.setCell ⟨g, 0, none⟩ u0).setCell ⟨g, 1, none⟩ u1).setCell ⟨g, 2, none⟩ u2).setCell ⟨g, 3, none⟩ u3).setCell ⟨g, 4, none⟩ u4).setCell ⟨g, 5, none⟩ u5).setCell ⟨g, 6, none⟩ u6) := by
  have := ((((((h.set 0 u0).set 1 u1).set 2 u2).set 3 u3).set 4 u4).set 5 u5).set 6 u6
  simpa using this
end
end Go.Proofs.YtbkmdlfenbfdlaaGreat

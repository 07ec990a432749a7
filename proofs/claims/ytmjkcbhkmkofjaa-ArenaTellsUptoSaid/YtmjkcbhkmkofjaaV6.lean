/-
  WALKS: what is below a node, who refers to it, as the program tells them.
-/
import Derived.Test.YtmjkcbhkmkofjaaV5
namespace Go.Proofs.Ytmjkcbhkmkofjaa
open Go Go.RowKit Go.Sort
set_option linter.unusedVariables false
attribute [local go_sem ↓] Go.wp_at_zero Go.wp_at_succ

/-- what is below a node, as it is answered -/
def belowR (next : Int) (nds : List Nd) (id : Int) : List Int := if (rightB next nds && (ixOf nds id).isSome) = true then belowV nds id else []
set_option maxRecDepth 100000 in
set_option maxHeartbeats 3200000 in
theorem below_any (w : World) (hi : Nat) (next id : Int) (A : Option Addr) (n c : Nat) (nds : List Nd) (h : NodesIn w 0 hi A n c nds) (hh : hi ≤ w.heap.size) :
    Calls Try.prog 30 #[.agg #[.int .i64 next, .slice A n c], .int .i64 id] w (ListR w (belowR next nds id)) := by
  have HM0 := Lib.hid (M1.start w next A n c)
  have HCh := Lib.hid (check_any _ hi next A n c nds (h.below (HM0.out.bel.mono hh)) (Nat.le_trans hh HM0.out.bel.size))
  cases hrt : rightB next nds with
  | false =>
    have HX : Hid (belowR next nds id = []) := Lib.hid (by unfold belowR; rw [hrt]; rfl)
    have HV := Lib.hid (checkV_no hrt)
    clear hrt h
    go_enter Try.func30, Try.ntmps30
    go_wp2_with (go_at_call 39; go_must (refine HCh.out.mono ?_; rintro e w2 ⟨rfl, hb2⟩; rw [HV.out]; have HM2 := Lib.hid (HM0.out.after hb2); have a0 := (HM2.out.a.cell 0).trans (show _ = some (.int .i64 next) from rfl); have a1 := (HM2.out.a.cell 1).trans (show _ = some (.slice A n c) from rfl); clear hb2))
    go_ret
    rw [HX.out]
    exact listR_nil rfl HM2.out.bel
  | true =>
    have hR := rightM hrt
    have hn4 : n ≤ 4096 := by rw [← h.1]; exact hR.len
    have HV := Lib.hid (checkV_yes hrt)
    have HHa : Hid (∀ X, Below w.heap.size w X → Calls Try.prog 41 #[.agg #[.int .i64 next, .slice A n c], .int .i64 id] X (Ret X (.bool (ixOf nds id).isSome))) := Lib.hid fun X hX => has_any X hi next id A n c nds (h.below (hX.mono hh)) (Nat.le_trans hh hX.size) hR.rise hn4
    cases hix : ixOf nds id with
    | none =>
      have HX : Hid (belowR next nds id = []) := Lib.hid (by unfold belowR; rw [hix]; simp)
      have HIX : Hid ((ixOf nds id).isSome = false) := Lib.hid (by rw [hix]; rfl)
      clear hrt h hix
      go_enter Try.func30, Try.ntmps30
      go_wp2_with (first | (go_at_call 39; go_must (refine HCh.out.mono ?_; rintro e w2 ⟨rfl, hb2⟩; rw [HV.out]; have HM2 := Lib.hid (HM0.out.after hb2); have a0 := (HM2.out.a.cell 0).trans (show _ = some (.int .i64 next) from rfl); have a1 := (HM2.out.a.cell 1).trans (show _ = some (.slice A n c) from rfl); clear hb2)) | (go_at_call 41; go_must (refine (HHa.out _ HM2.out.bel).mono ?_; rintro e w3 ⟨rfl, hb3⟩; rw [HIX.out]; have HM3 := Lib.hid (HM2.out.after hb3); clear hb3)))
      go_ret
      rw [HX.out]
      exact listR_nil rfl HM3.out.bel
    | some i =>
      have HX : Hid (belowR next nds id = belowV nds id) := Lib.hid (by unfold belowR; rw [hrt, hix]; simp)
      have HIX : Hid ((ixOf nds id).isSome = true) := Lib.hid (by rw [hix]; rfl)
      rw [HX.out]
      obtain ⟨nd, hgi, hie⟩ := ixOf_some hix
      have hnd : ndOf nds id = some nd := by unfold ndOf; rw [hix]; exact hgi
      have hin := ixOf_lt hix
      rw [h.1] at hin
      obtain ⟨b, o, hA, _, hb, V, hV⟩ := h.all (by omega)
      have hat := (hV i nd hgi).1.c5
      have hlf := (hV i nd hgi).2
      generalize V i = L at hat hlf
      obtain ⟨_, ⟨Ak, nk, ck⟩, _⟩ := L
      have hkrow := hlf.k
      simp only at hat hkrow
      subst hA
      have HKR := Lib.hid hkrow
      have HNo : Hid (∀ X, Below w.heap.size w X → Calls Try.prog 79 #[.agg #[.int .i64 next, .slice (some ⟨b, o, none⟩) n c], .int .i64 id] X (Ret X (.pointer (some ⟨b, o + i * 7, none⟩)))) := Lib.hid fun X hX => node_any X hi next id (some ⟨b, o, none⟩) n c nds (h.below (hX.mono hh)) (Nat.le_trans hh hX.size) hR.rise hn4 _ (by rw [hix]; exact ⟨b, o, rfl, rfl⟩)
      have HSof : Hid (∀ X, M1 w next (some ⟨b, o, none⟩) n c X → X.cell? ⟨w.heap.size, 0, none⟩ = some (.int .i64 next) ∧ X.cell? ⟨w.heap.size, 1, none⟩ = some (.slice (some ⟨b, o, none⟩) n c) ∧ X.cell? ⟨b, o + i * 7 + 5, none⟩ = some (.slice Ak nk ck)) := Lib.hid fun X hX => ⟨(hX.a.cell 0).trans rfl, (hX.a.cell 1).trans rfl, (hX.bel.cell (p := ⟨b, _, none⟩) (Nat.lt_of_lt_of_le hb hh)).trans hat⟩
      have HND := Lib.hid hnd
      clear hrt hix hgi hie hnd hat hlf hkrow hV
      go_enter Try.func30, Try.ntmps30
      go_upto_region 4 with (first | (go_at_call 39; go_must (refine HCh.out.mono ?_; rintro e w2 ⟨rfl, hb2⟩; rw [HV.out]; have HM2 := Lib.hid (HM0.out.after hb2); have a0 := (HM2.out.a.cell 0).trans (show _ = some (.int .i64 next) from rfl); have a1 := (HM2.out.a.cell 1).trans (show _ = some (.slice (some ⟨b, o, none⟩) n c) from rfl); clear hb2)) | (go_at_call 41; go_must (refine (HHa.out _ HM2.out.bel).mono ?_; rintro e w3 ⟨rfl, hb3⟩; rw [HIX.out]; have HM3 := Lib.hid (HM2.out.after hb3); clear hb3)))
      clear a0 a1
      have HM4 := Lib.hid ((HM3.out.after (below_more (Below.refl _ _) (.cells #[.slice none 0 0] 48))).after (below_drew1 _))
      have HB4 := Lib.hid ((Blk.new w3 48 #[.slice none 0 0]).after (below_drew1 _))
      have HG1 : Hid (w.heap.size ≤ w3.heap.size) := Lib.hid HM3.out.bel.size
      obtain ⟨g0, hg0⟩ : ∃ g0, g0 = w3.heap.size := ⟨_, rfl⟩
      rw [← hg0] at HB4 HG1 ⊢
      have hg1 := HG1.out
      clear hg0
      generalize w3.alloc (.cells #[.slice none 0 0] 48) = X3 at HM4 HB4 ⊢
      refine wp_region_held_tail 8 (fun w' => w'.cell? ⟨w.heap.size, 0, none⟩ = some (.int .i64 next) ∧ w'.cell? ⟨w.heap.size, 1, none⟩ = some (.slice (some ⟨b, o, none⟩) n c) ∧ w'.cell? ⟨b, o + i * 7 + 5, none⟩ = some (.slice Ak nk ck)) (by kernel_rfl) (by kernel_rfl) ?hSt (fun hHeld => ?qt0)
      case hSt => exact HSof.out _ HM4.out
      case qt0 =>
        simp only [List.take_succ_cons, List.take_zero, List.drop_succ_cons, List.drop_zero]
        refine wpAnyH_take (i := 0) (v := (.agg #[.int .i64 next, .slice (some ⟨b, o, none⟩) n c])) rfl (by kernel_rfl) (by kernel_rfl) (by kernel_rfl) (fun _ _ _ h => h) (Or.inl ⟨by rfl, ?yt_1⟩) (by assumption) ?qt_1
        case yt_1 => (intro w hSw; (try dsimp only at hSw); go_simp)
        case qt_1 =>
          (try simp only [Act.put]); (try simp only [List.setIfInBounds_toArray])
          refine wpAnyH_take (i := 1) (v := (.agg #[.int .i64 next, .slice (some ⟨b, o, none⟩) n c])) rfl (by kernel_rfl) (by kernel_rfl) (by kernel_rfl) (fun _ _ _ h => h) (Or.inl ⟨by rfl, ?yt_2⟩) (by assumption) ?qt_2
          case yt_2 => (intro w hSw; (try dsimp only at hSw); go_simp)
          case qt_2 =>
            (try simp only [Act.put]); (try simp only [List.setIfInBounds_toArray])
            refine wpAnyH_take (i := 2) (v := (.int .i64 id)) rfl (by kernel_rfl) (by kernel_rfl) (by kernel_rfl) (fun _ _ _ h => h) (Or.inl ⟨by rfl, ?yt_3⟩) (by assumption) ?qt_3
            case yt_3 => (intro w hSw; (try dsimp only at hSw); go_simp)
            case qt_3 =>
              (try simp only [Act.put]); (try simp only [List.setIfInBounds_toArray])
              refine wpAnyH_take (i := 7) (v := (.func (.func 85) #[] #[.pointer (some ⟨g0, 0, none⟩)])) rfl (by kernel_rfl) (by kernel_rfl) (by kernel_rfl) (fun _ _ _ h => h) (Or.inl ⟨by rfl, ?yt_4⟩) (by assumption) ?qt_4
              case yt_4 => (intro w hSw; (try dsimp only at hSw); go_simp)
              case qt_4 =>
                (try simp only [Act.put]); (try simp only [List.setIfInBounds_toArray])
                refine wpAnyH_ready (rs := [3]) (by kernel_rfl) (by simp) ?_
                refine AllReadyH.cons rfl (fun K hK => ?st_5) ?mt_5
                case st_5 =>
                  (refine step_call _ (by rfl) 79 #[.agg #[.int .i64 next, .slice (some ⟨b, o, none⟩) n c], .int .i64 id] (by go_simp) (HNo.out _ HM4.out.bel) ?_; rintro e Y ⟨rfl, hbr⟩; refine ⟨_, rfl, ?_⟩; have HMY := Lib.hid (HM4.out.after hbr); have HBY := Lib.hid (HB4.out.after hbr); clear hbr)
                  refine hK.out _ _ ?kt_5 (fun hHeld => ?qt_5)
                  case kt_5 => ((try dsimp only); first | exact HSof.out _ HMY.out | exact HSof.out _ HM4.out)
                  case qt_5 =>
                    clear hK K
                    (try simp only [Act.put]); (try simp only [List.setIfInBounds_toArray])
                    refine wpAnyH_take (i := 4) (v := (.pointer (some ⟨b, o + i * 7, none⟩))) rfl (by kernel_rfl) (by kernel_rfl) (by kernel_rfl) (fun _ _ _ h => h) (Or.inl ⟨by rfl, ?yt_6⟩) (by assumption) ?qt_6
                    case yt_6 => (intro w hSw; (try dsimp only at hSw); go_simp)
                    case qt_6 =>
                      (try simp only [Act.put]); (try simp only [List.setIfInBounds_toArray])
                      refine wpAnyH_take (i := 5) (v := (.pointer (some ⟨b, o + i * 7 + 5, none⟩))) rfl (by kernel_rfl) (by kernel_rfl) (by kernel_rfl) (fun _ _ _ h => h) (Or.inl ⟨by rfl, ?yt_7⟩) (by assumption) ?qt_7
                      case yt_7 => (intro w hSw; (try dsimp only at hSw); go_simp)
                      case qt_7 =>
                        (try simp only [Act.put]); (try simp only [List.setIfInBounds_toArray])
                        refine wpAnyH_take (i := 6) (v := (.slice Ak nk ck)) rfl (by kernel_rfl) (by kernel_rfl) (by kernel_rfl) (fun _ _ _ h => h) (Or.inl ⟨by rfl, ?yt_8⟩) (by assumption) ?qt_8
                        case yt_8 => (intro w hSw; (try dsimp only at hSw); go_simp)
                        case qt_8 =>
                          (try simp only [Act.put]); (try simp only [List.setIfInBounds_toArray])
                          refine wpAnyH_done (by kernel_rfl) ?_ _
                          clear hHeld
                          have hNY := h.below (HMY.out.bel.mono hh)
                          have hYs := Nat.le_trans hh HMY.out.bel.size
                          have hD := hR.depth HND.out
                          have hK := AtD.kids hR (x := id) ⟨⟨nd, HND.out⟩, rfl⟩
                          rw [kidsV_of HND.out] at hK
                          have hKn : nd.kids.Nodup := by obtain ⟨i', _, hi', _⟩ := ndOf_some HND.out; exact (hR.kids (List.mem_of_getElem? hi')).2
                          have HOv := Lib.hid (over_any Y hi g0 4096 next (some ⟨b, o, none⟩) n c nds 85 #[.pointer (some ⟨g0, 0, none⟩)] _ (visit_list 85 (by intro args w; go_simp) (fun X b oi d id r h1 h2 h3 h4 h5 => visitBelow_any Y X g0 b oi d id r h1 h2 h3 h4 h5) hNY hYs (by omega)) hNY hYs (by omega) hR.rise hn4 (ids_start HBY.out) (64 - depthV nds id) nd.kids Ak nk ck (ok_of hR _ _ _ (by omega) hK) (RowF.of (HKR.out.below (HMY.out.bel.mono hh)) hYs (.inr (by omega))) (Nat.le_trans (pre_len hR hKn hK) hR.len) (by omega))
                          rw [below_pre hR HND.out] at HOv
                          clear hNY hYs hD hK hKn
                          show wpList _ _ _ _ _ _
                          go_wp2_with (go_at_call 82; go_must (refine HOv.out.mono ?_; rintro e w5 ⟨rfl, hi5⟩; obtain ⟨A5, m5, c5, hc5, ho5, hb5⟩ := ids_end HMY.out.bel HG1.out hi5; have HO5 := Lib.hid ho5; have HB5 := Lib.hid hb5; clear hi5 ho5 hb5))
                          go_ret
                          exact ⟨_, rfl, HO5.out, HB5.out⟩
                case mt_5 =>
                  exact AllReadyH.nil

/-- does a node refer to another one? -/
def refsToB (nds : List Nd) (z x : Int) : Bool := match ndOf nds x with
  | some nd => nd.refs.any (fun p => p.2 == z)
  | none => false
def usersR (next : Int) (nds : List Nd) (z : Int) : List Int := if rightB next nds = true then (orderV nds).filter (refsToB nds z) else []
theorem visit_users {Y : World} {hi g0 gi : Nat} {A : Option Addr} {n c : Nat} {nds : List Nd} {z : Int} (hN : NodesIn Y 0 hi A n c nds) (hh : hi ≤ Y.heap.size) (hg : hi ≤ g0) (hr : Rise nds) (hgi : gi < Y.heap.size) (hgn : gi ≠ g0) (hz : Y.cell? ⟨gi, 0, none⟩ = some (.int .i64 z)) :
    Visit Y g0 4096 A nds 86 #[.pointer (some ⟨gi, 0, none⟩), .pointer (some ⟨g0, 0, none⟩)] fun X l => IdsInv Y g0 ((l.map (·.1)).filter (refsToB nds z)) X := by
  refine ⟨by intro args w; go_simp, fun X l h => ?_, fun X X' l h hb => h.after hb, fun X l i nd d b o h hl hnd hA _ => ?_⟩
  · obtain ⟨ov, h⟩ := h
    exact h.e.gr
  · obtain ⟨b', o', hA', _, hb, V, hV⟩ := hN.all (by have := (List.getElem?_eq_some_iff.1 hnd).1; have := hN.1; omega)
    rw [hA] at hA'
    injection hA' with hA'
    injection hA' with e1 e2
    subst e1 e2
    have hq := hV i nd hnd
    have hf : refsToB nds z nd.id = nd.refs.any (fun p => p.2 == z) := by unfold refsToB; rw [ndOf_is hr hnd]
    have hl2 := List.length_filter_le (refsToB nds z) (l.map (·.1))
    rw [List.length_map] at hl2
    have := visitUsers_any Y X hi g0 gi b (o + i * 7) d nd.id z (V i).r.A (V i).r.n (V i).r.c nd.refs _ h (by omega) (by omega) (by omega) hq.1.c0 hq.1.c6 hq.2.r hh hg hgi hgn hz
    rw [List.map_append, List.filter_append]
    rw [← hf] at this
    refine this.mono fun e X' ⟨h1, h2, h3⟩ => ⟨h1, ?_, h3⟩
    cases hx : refsToB nds z nd.id <;> simpa [hx] using h2

/-- the boxes of a model and of a number -/
structure MI (w : World) (next : Int) (A : Option Addr) (n c : Nat) (z : Int) (X : World) : Prop where
  m : M1 w next A n c X
  i : Blk X (w.heap.size + 1) 3 #[.int .i64 z]
theorem MI.start (w : World) (next : Int) (A : Option Addr) (n c : Nat) (z : Int) : MI w next A n c z ((w.alloc (.cells #[.int .i64 next, .slice A n c] 24)).alloc (.cells #[.int .i64 z] 3)) :=
  ⟨⟨(Blk.new _ _ _).alloc _, below_more (below_more (Below.refl _ _) _) _⟩, Blk.new' (by simp)⟩
theorem MI.after {w X X' : World} {next z : Int} {A : Option Addr} {n c : Nat} (h : MI w next A n c z X) (hb : Below X.heap.size X X') : MI w next A n c z X' := ⟨h.m.after hb, h.i.after hb⟩

set_option maxRecDepth 100000 in
set_option maxHeartbeats 3200000 in
theorem users_any (w : World) (hi : Nat) (next z : Int) (A : Option Addr) (n c : Nat) (nds : List Nd) (h : NodesIn w 0 hi A n c nds) (hh : hi ≤ w.heap.size) :
    Calls Try.prog 32 #[.agg #[.int .i64 next, .slice A n c], .int .i64 z] w (ListR w (usersR next nds z)) := by
  have HM0 := Lib.hid (MI.start w next A n c z)
  have HCh := Lib.hid (check_any _ hi next A n c nds (h.below (HM0.out.m.bel.mono hh)) (Nat.le_trans hh HM0.out.m.bel.size))
  have a0 := (HM0.out.m.a.cell 0).trans (show _ = some (.int .i64 next) from rfl)
  have a1 := (HM0.out.m.a.cell 1).trans (show _ = some (.slice A n c) from rfl)
  cases hrt : rightB next nds with
  | false =>
    have HX : Hid (usersR next nds z = []) := Lib.hid (by unfold usersR; rw [hrt]; rfl)
    have HV := Lib.hid (checkV_no hrt)
    clear hrt h
    go_enter Try.func32, Try.ntmps32
    go_wp2_with (go_at_call 39; go_must (refine HCh.out.mono ?_; rintro e w2 ⟨rfl, hb2⟩; rw [HV.out]; have HM2 := Lib.hid (HM0.out.after hb2); clear hb2))
    go_ret
    rw [HX.out]
    exact listR_nil rfl HM2.out.m.bel
  | true =>
    have hR := rightM hrt
    have hn4 : n ≤ 4096 := by rw [← h.1]; exact hR.len
    have HX : Hid (usersR next nds z = (orderV nds).filter (refsToB nds z)) := Lib.hid (by unfold usersR; rw [hrt]; rfl)
    have HV := Lib.hid (checkV_yes hrt)
    rw [HX.out]
    have HRo : Hid (∀ X, Below w.heap.size w X → Calls Try.prog 83 #[.agg #[.int .i64 next, .slice A n c]] X (ListR X (rootsV nds))) := Lib.hid fun X hX => roots_any X hi next A n c nds (h.below (hX.mono hh)) (Nat.le_trans hh hX.size) hn4
    clear hrt
    go_enter Try.func32, Try.ntmps32
    go_upto_region 4 with (go_at_call 39; go_must (refine HCh.out.mono ?_; rintro e w2 ⟨rfl, hb2⟩; rw [HV.out]; have HM2 := Lib.hid (HM0.out.after hb2); clear hb2))
    clear a0 a1
    have HM3 := Lib.hid ((HM2.out.after (below_more (Below.refl _ _) (.cells #[.slice none 0 0] 48))).after (below_drew1 _))
    have HB3 := Lib.hid ((Blk.new w2 48 #[.slice none 0 0]).after (below_drew1 _))
    have HG1 : Hid (w.heap.size + 1 < w2.heap.size) := Lib.hid HM2.out.i.lt
    have HG0 : Hid (w2.heap.size < (w2.alloc (.cells #[.slice none 0 0] 48)).drew.heap.size) := Lib.hid HB3.out.lt
    obtain ⟨g0, hg0⟩ : ∃ g0, g0 = w2.heap.size := ⟨_, rfl⟩
    rw [← hg0] at HB3 HG1 HG0 ⊢
    have hg1 := HG1.out
    clear hg0
    generalize w2.alloc (.cells #[.slice none 0 0] 48) = X3 at HM3 HB3 HG0 ⊢
    have HSof : Hid (∀ X, MI w next A n c z X → X.cell? ⟨w.heap.size, 0, none⟩ = some (.int .i64 next) ∧ X.cell? ⟨w.heap.size, 1, none⟩ = some (.slice A n c)) := Lib.hid fun X hX => ⟨(hX.m.a.cell 0).trans rfl, (hX.m.a.cell 1).trans rfl⟩
    refine wp_region_held_tail 4 (fun w' => w'.cell? ⟨w.heap.size, 0, none⟩ = some (.int .i64 next) ∧ w'.cell? ⟨w.heap.size, 1, none⟩ = some (.slice A n c)) (by kernel_rfl) (by kernel_rfl) ?hSt (fun hHeld => ?qt0)
    case hSt => exact HSof.out _ HM3.out
    case qt0 =>
      simp only [List.take_succ_cons, List.take_zero, List.drop_succ_cons, List.drop_zero]
      refine wpAnyH_take (i := 0) (v := (.agg #[.int .i64 next, .slice A n c])) rfl (by kernel_rfl) (by kernel_rfl) (by kernel_rfl) (fun _ _ _ h => h) (Or.inl ⟨by rfl, ?yt_1⟩) (by assumption) ?qt_1
      case yt_1 => (intro w hSw; (try dsimp only at hSw); go_simp)
      case qt_1 =>
        (try simp only [Act.put]); (try simp only [List.setIfInBounds_toArray])
        refine wpAnyH_take (i := 1) (v := (.agg #[.int .i64 next, .slice A n c])) rfl (by kernel_rfl) (by kernel_rfl) (by kernel_rfl) (fun _ _ _ h => h) (Or.inl ⟨by rfl, ?yt_2⟩) (by assumption) ?qt_2
        case yt_2 => (intro w hSw; (try dsimp only at hSw); go_simp)
        case qt_2 =>
          (try simp only [Act.put]); (try simp only [List.setIfInBounds_toArray])
          refine wpAnyH_take (i := 3) (v := (.func (.func 86) #[] #[.pointer (some ⟨w.heap.size + 1, 0, none⟩), .pointer (some ⟨g0, 0, none⟩)])) rfl (by kernel_rfl) (by kernel_rfl) (by kernel_rfl) (fun _ _ _ h => h) (Or.inl ⟨by rfl, ?yt_3⟩) (by assumption) ?qt_3
          case yt_3 => (intro w hSw; (try dsimp only at hSw); go_simp)
          case qt_3 =>
            (try simp only [Act.put]); (try simp only [List.setIfInBounds_toArray])
            refine wpAnyH_ready (rs := [2]) (by kernel_rfl) (by simp) ?_
            refine AllReadyH.cons rfl (fun K hK => ?st_4) ?mt_4
            case st_4 =>
              (refine step_call _ (by rfl) 83 #[.agg #[.int .i64 next, .slice A n c]] (by go_simp) (HRo.out _ HM3.out.m.bel) ?_; rintro e Y ⟨vr, rfl, hvr, hbr⟩; refine ⟨_, rfl, ?_⟩; obtain ⟨Ar, cr, rfl⟩ := own_form hvr; have HVR := Lib.hid hvr; have HMY := Lib.hid (HM3.out.after hbr); have HBY := Lib.hid (HB3.out.after hbr); clear hvr hbr)
              refine hK.out _ _ ?kt_4 (fun hHeld => ?qt_4)
              case kt_4 => ((try dsimp only); first | exact HSof.out _ HMY.out | exact HSof.out _ HM3.out)
              case qt_4 =>
                clear hK K
                (try simp only [Act.put]); (try simp only [List.setIfInBounds_toArray])
                refine wpAnyH_done (by kernel_rfl) ?_ _
                clear hHeld
                have hNY := h.below (HMY.out.m.bel.mono hh)
                have hYs := Nat.le_trans hh HMY.out.m.bel.size
                have HOv := Lib.hid (over_any Y hi g0 4096 next A n c nds 86 #[.pointer (some ⟨w.heap.size + 1, 0, none⟩), .pointer (some ⟨g0, 0, none⟩)] _ (visit_users hNY hYs (by omega) hR.rise HMY.out.i.lt (by omega) ((HMY.out.i.cell 0).trans rfl)) hNY hYs (by omega) hR.rise hn4 (ids_start HBY.out) 64 (rootsV nds) Ar (rootsV nds).length cr (ok_of hR 64 1 _ (by omega) (roots_at hR)) (RowF.of (own_row HVR.out) (Nat.le_refl _) (.inl HG0.out)) (Nat.le_trans (pre_len hR (roots_nodup hR.rise) (roots_at hR)) hR.len) (by omega))
                rw [order_pre hR] at HOv
                clear hNY hYs
                show wpList _ _ _ _ _ _
                go_wp2_with (go_at_call 82; go_must (refine HOv.out.mono ?_; rintro e w5 ⟨rfl, hi5⟩; obtain ⟨A5, m5, c5, hc5, ho5, hb5⟩ := ids_end HMY.out.m.bel (by omega) hi5; have HO5 := Lib.hid ho5; have HB5 := Lib.hid hb5; clear hi5 ho5 hb5))
                go_ret
                exact ⟨_, rfl, HO5.out, HB5.out⟩
            case mt_4 =>
              exact AllReadyH.nil
end Go.Proofs.Ytmjkcbhkmkofjaa

/-
  WALKS: who refers to a node: the closures of Users.
-/
import Derived.Test.YtmjkcbhkmkofjaaV3
namespace Go.Proofs.Ytmjkcbhkmkofjaa
open Go Go.RowKit Go.Sort
set_option linter.unusedVariables false
attribute [local go_sem ↓] Go.wp_at_zero Go.wp_at_succ

set_option maxHeartbeats 400000 in
theorem isUser_any (w : World) (s : ByteArray) (x id : Int) (gi : Nat) (hc : w.cell? ⟨gi, 0, none⟩ = some (.int .i64 id)) (hg : gi < w.heap.size) :
    Calls Try.prog 88 #[.agg #[.string s, .int .i64 x], .pointer (some ⟨gi, 0, none⟩)] w (Ret w (.bool (x == id))) := by
  have hc2 := cell_alloc hc hg (.cells #[.string s, .int .i64 x] 65)
  have HB := Lib.hid (below_box w (.cells #[.string s, .int .i64 x] 65))
  clear hc
  go_enter Try.func88, Try.ntmps88
  go_wp2_with fail
  go_ret
  exact ret_v rfl HB.out

/-- the place of the first reference to a node; -1: there is none -/
def refIx (l : List (ByteArray × Int)) (id : Int) : Int := match l.findIdx? (fun p => p.2 == id) with
  | some i => i
  | none => -1
theorem refIx_any (l : List (ByteArray × Int)) (id : Int) : decide (0 ≤ refIx l id) = l.any (fun p => p.2 == id) := by
  unfold refIx
  cases h : l.findIdx? (fun p => p.2 == id) with
  | none =>
    rw [List.findIdx?_eq_none_iff] at h
    have : l.any (fun p => p.2 == id) = false := by
      rw [List.any_eq_false]
      intro x hx
      rw [h x hx]; simp
    rw [this]; rfl
  | some i =>
    obtain ⟨hi, hp, _⟩ := List.findIdx?_eq_some_iff_getElem.1 h
    have : l.any (fun p => p.2 == id) = true := List.any_eq_true.2 ⟨l[i], List.getElem_mem hi, hp⟩
    rw [this]
    simp
theorem refIx_at {l : List (ByteArray × Int)} {id : Int} {k : Nat} {p : ByteArray × Int} (h : (l.take k).all (fun p => p.2 != id) = true) (hp : l[k]? = some p) (he : (p.2 == id) = true) : refIx l id = k := by
  unfold refIx
  have : l.findIdx? (fun p => p.2 == id) = some k := by
    rw [List.findIdx?_eq_some_iff_getElem]
    obtain ⟨hk, rfl⟩ := List.getElem?_eq_some_iff.1 hp
    refine ⟨hk, he, fun j hj => ?_⟩
    have := List.all_eq_true.1 h (l[j]'(by omega)) (List.mem_iff_getElem?.2 ⟨j, by rw [List.getElem?_take_of_lt hj]; exact List.getElem?_eq_getElem _⟩)
    simpa using this
  rw [this]
theorem refIx_none {l : List (ByteArray × Int)} {id : Int} (h : l.all (fun p => p.2 != id) = true) : refIx l id = -1 := by
  unfold refIx
  have : l.findIdx? (fun p => p.2 == id) = none := by
    rw [List.findIdx?_eq_none_iff]
    intro x hx
    have := List.all_eq_true.1 h x hx
    simpa using this
  rw [this]

set_option maxRecDepth 20000 in
set_option maxHeartbeats 1600000 in
theorem indexRef_any (w : World) (hi : Nat) (A : Option Addr) (n c : Nat) (l : List (ByteArray × Int)) (h : Row w 0 hi 2 A n c (refCells l)) (hh : hi ≤ w.heap.size) (id : Int) (gi : Nat) (hid : w.cell? ⟨gi, 0, none⟩ = some (.int .i64 id)) (hg : gi < w.heap.size) :
    Calls Try.prog 121 #[.slice A n c, .func (.func 88) #[] #[.pointer (some ⟨gi, 0, none⟩)]] w (Ret w (.int .i64 (refIx l id))) := by
  have hc := h.2.2.1
  have hnc := h.2.1
  have hln : l.length = n := by have := h.1; rw [refCells_length] at this; omega
  have HL := Lib.hid hln
  unfold maxLen at hc
  have HIU : Hid (∀ X, Below w.heap.size w X → ∀ s x, Calls Try.prog 88 #[.agg #[.string s, .int .i64 x], .pointer (some ⟨gi, 0, none⟩)] X (Ret X (.bool (x == id)))) := Lib.hid fun X hX s x => isUser_any X s x id gi ((hX.cell (p := ⟨gi, 0, none⟩) hg).trans hid) (Nat.lt_of_lt_of_le hg hX.size)
  clear hln hid
  go_enter Try.func121, Try.ntmps121
  go_wp2_with fail
  go_loopw [8] (fun i wr => ∃ k : Nat, k ≤ n ∧ i = .int .i64 k ∧ Hid (Below w.heap.size w wr) ∧ Hid ((l.take k).all (fun p => p.2 != id) = true)) (fun i _ => n - (intOf i).toNat)
  case atStart => exact ⟨0, Nat.zero_le _, rfl, Lib.hid (Below.refl _ _), Lib.hid (by simp)⟩
  case round =>
    obtain ⟨k, hk, rfl, HB, HT⟩ := hrel
    rename World => wr
    by_cases hlt : k < n
    · obtain ⟨b, o, rfl, _, hb, hcell⟩ := h.at_ (by omega)
      obtain ⟨q, hq⟩ : ∃ q, l[k]? = some q := ⟨l[k]'(by have := HL.out; omega), List.getElem?_eq_getElem _⟩
      have hg2 := refCells_get hq
      have c0 := (HB.out.cell (p := ⟨b, _, none⟩) (Nat.lt_of_lt_of_le hb hh)).trans (hcell _ _ hg2.1)
      have c1 := (HB.out.cell (p := ⟨b, _, none⟩) (Nat.lt_of_lt_of_le hb hh)).trans (hcell _ _ hg2.2)
      have e1 : o + (k * 2 + 1) = o + k * 2 + 1 := by omega
      rw [e1] at c1
      have HQ := Lib.hid hq
      have htk : l.take (k + 1) = l.take k ++ [q] := by rw [List.take_add_one, hq]; rfl
      have HTK := Lib.hid htk
      obtain ⟨s, x⟩ := q
      clear hcell hg2 hq htk e1
      cases d1 : (x == id) with
      | true =>
        have HX : Hid (refIx l id = k) := Lib.hid (refIx_at HT.out HQ.out d1)
        have HD := Lib.hid d1
        clear d1 h
        go_wp2_with (go_at_call 88; go_must (refine (HIU.out _ HB.out s x).mono ?_; rintro e w2 ⟨rfl, hb2⟩; rw [HD.out]; have HB2 := Lib.hid (HB.out.trans (hb2.mono HB.out.size)); clear hb2))
        go_ret
        exact ret_i HX.out rfl HB2.out
      | false =>
        have HX : Hid ((l.take (k + 1)).all (fun p => p.2 != id) = true) := Lib.hid (by rw [HTK.out, List.all_append, HT.out]; simp [bne, d1])
        have HD := Lib.hid d1
        clear d1
        go_wp2_with (go_at_call 88; go_must (refine (HIU.out _ HB.out s x).mono ?_; rintro e w2 ⟨rfl, hb2⟩; rw [HD.out]; have HB2 := Lib.hid (HB.out.trans (hb2.mono HB.out.size)); clear hb2))
        go_roundw
        case measure => simp only [intOf]; omega
        case rel => exact ⟨k + 1, by omega, by simp, HB2, HX⟩
    · have hkn : k = n := by omega
      subst hkn
      have HX : Hid (refIx l id = -1) := Lib.hid (refIx_none (by have := HT.out; rwa [List.take_of_length_le (by have := HL.out; omega)] at this))
      clear h
      go_wp2_with fail
      go_ret
      exact ret_i HX.out rfl HB.out

set_option maxHeartbeats 400000 in
theorem containsRef_any (w : World) (hi : Nat) (A : Option Addr) (n c : Nat) (l : List (ByteArray × Int)) (h : Row w 0 hi 2 A n c (refCells l)) (hh : hi ≤ w.heap.size) (id : Int) (gi : Nat) (hid : w.cell? ⟨gi, 0, none⟩ = some (.int .i64 id)) (hg : gi < w.heap.size) :
    Calls Try.prog 87 #[.slice A n c, .func (.func 88) #[] #[.pointer (some ⟨gi, 0, none⟩)]] w (Ret w (.bool (l.any (fun p => p.2 == id)))) := by
  have HI := Lib.hid (indexRef_any w hi A n c l h hh id gi hid hg)
  have HX := Lib.hid (refIx_any l id)
  generalize refIx l id = v at HI HX
  clear h hid
  go_enter Try.func87, Try.ntmps87
  go_wp2_with (go_at_call 121; go_must (refine HI.out.mono ?_; rintro e w2 ⟨rfl, hb2⟩; have HB2 := Lib.hid hb2; clear hb2))
  go_ret
  exact ret_b HX.out.symm rfl HB2.out

set_option maxRecDepth 100000 in
set_option maxHeartbeats 3200000 in
theorem visitUsers_any (w0 X : World) (hi g0 gi b oi d : Nat) (id z : Int) (Ar : Option Addr) (nr cr : Nat) (rl : List (ByteArray × Int)) (r : List Int) (h : IdsInv w0 g0 r X) (hl : r.length < 4096) (hb : b < w0.heap.size) (hne : b ≠ g0) (hc : w0.cell? ⟨b, oi, none⟩ = some (.int .i64 id))
    (hc6 : w0.cell? ⟨b, oi + 6, none⟩ = some (.slice Ar nr cr)) (hrow : Row w0 0 hi 2 Ar nr cr (refCells rl)) (hh : hi ≤ w0.heap.size) (hhg : hi ≤ g0) (hgi : gi < w0.heap.size) (hgn : gi ≠ g0) (hz : w0.cell? ⟨gi, 0, none⟩ = some (.int .i64 z)) :
    Calls Try.prog 86 #[.pointer (some ⟨b, oi, none⟩), .int .i64 d, .pointer (some ⟨gi, 0, none⟩), .pointer (some ⟨g0, 0, none⟩)] X fun e X' => e = .returned (.tuple #[]) ∧ IdsInv w0 g0 (r ++ if rl.any (fun p => p.2 == z) then [id] else []) X' ∧ Keeps X X' := by
  obtain ⟨ov, h⟩ := h
  have hcr := hrow.2.1
  have HSof : Hid (∀ Y, IE w0 g0 ov Y → Y.cell? ⟨g0, 0, none⟩ = some ov ∧ Y.cell? ⟨b, oi, none⟩ = some (.int .i64 id)) := Lib.hid fun Y hY => ⟨(hY.bx.cell 0).trans rfl, (grown_cell hY.gr hb hne).trans hc⟩
  have HCo := Lib.hid (containsRef_any X hi Ar nr cr rl (hrow.keep fun b o hb => only_cell h.e.gr (by omega) (by omega)) (Nat.le_trans hh h.e.gr.size) z gi ((grown_cell h.e.gr hgi hgn).trans hz) (Nat.lt_of_lt_of_le hgi h.e.gr.size))
  have x6 := (grown_cell h.e.gr hb hne).trans hc6
  obtain ⟨i0, hi0, hz0, hz1, hz2⟩ := info_parts intInfo
  have HX0 := Lib.hid h
  clear h hc hc6 hrow hz
  cases hv : rl.any (fun p => p.2 == z) with
  | false =>
    have HVV := Lib.hid hv
    clear hv
    go_enter Try.func86, Try.ntmps86
    go_wp2_with (go_at_call 87; go_must (refine HCo.out.mono ?_; rintro e X2 ⟨rfl, hb2⟩; rw [HVV.out]; have HX := Lib.hid (HX0.out.after hb2); have HK2 := Lib.hid (Keeps.of hb2); clear hb2))
    (try simp only [Exit.inBlock, Exit.then])
    first | refine bodyPost_ret (results_none (by kernel_rfl) _ _ _) rfl ?_ | refine bodyPost_end (results_none (by kernel_rfl) _ _ _) rfl ?_
    exact ⟨rfl, ⟨ov, by simpa using HX.out⟩, HK2.out⟩
  | true =>
    have HVV := Lib.hid hv
    clear hv
    go_enter Try.func86, Try.ntmps86
    go_upto_region 1 with (go_at_call 87; go_must (refine HCo.out.mono ?_; rintro e X2 ⟨rfl, hb2⟩; rw [HVV.out]; have HX := Lib.hid (HX0.out.after (hb2.trans ((below_drew1 X2).mono hb2.size))); have HK2 := Lib.hid (Keeps.of hb2); clear hb2))
    refine wp_region_held_tail 7 (fun w' => w'.cell? ⟨g0, 0, none⟩ = some ov ∧ w'.cell? ⟨b, oi, none⟩ = some (.int .i64 id)) (by kernel_rfl) (by kernel_rfl) ?hSt (fun hHeld => ?qt0)
    case hSt => exact HSof.out _ HX.out.e
    case qt0 =>
      simp only [List.take_succ_cons, List.take_zero, List.drop_succ_cons, List.drop_zero]
      refine wpAnyH_take (i := 0) (v := ov) rfl (by kernel_rfl) (by kernel_rfl) (by kernel_rfl) (fun _ _ _ h => h) (Or.inl ⟨by rfl, ?yt_1⟩) (by assumption) ?qt_1
      case yt_1 => (intro w hSw; (try dsimp only at hSw); go_simp)
      case qt_1 =>
        (try simp only [Act.put]); (try simp only [List.setIfInBounds_toArray])
        refine wpAnyH_take (i := 1) (v := (.pointer (some ⟨b, oi, none⟩))) rfl (by kernel_rfl) (by kernel_rfl) (by kernel_rfl) (fun _ _ _ h => h) (Or.inl ⟨by rfl, ?yt_2⟩) (by assumption) ?qt_2
        case yt_2 => (intro w hSw; (try dsimp only at hSw); go_simp)
        case qt_2 =>
          (try simp only [Act.put]); (try simp only [List.setIfInBounds_toArray])
          refine wpAnyH_take (i := 2) (v := (.pointer (some ⟨b, oi, none⟩))) rfl (by kernel_rfl) (by kernel_rfl) (by kernel_rfl) (fun _ _ _ h => h) (Or.inl ⟨by rfl, ?yt_3⟩) (by assumption) ?qt_3
          case yt_3 => (intro w hSw; (try dsimp only at hSw); go_simp)
          case qt_3 =>
            (try simp only [Act.put]); (try simp only [List.setIfInBounds_toArray])
            refine wpAnyH_take (i := 3) (v := (.pointer (some ⟨b, oi, none⟩))) rfl (by kernel_rfl) (by kernel_rfl) (by kernel_rfl) (fun _ _ _ h => h) (Or.inl ⟨by rfl, ?yt_4⟩) (by assumption) ?qt_4
            case yt_4 => (intro w hSw; (try dsimp only at hSw); go_simp)
            case qt_4 =>
              (try simp only [Act.put]); (try simp only [List.setIfInBounds_toArray])
              refine wpAnyH_take (i := 4) (v := (.int .i64 id)) rfl (by kernel_rfl) (by kernel_rfl) (by kernel_rfl) (fun _ _ _ h => h) (Or.inl ⟨by rfl, ?yt_5⟩) (by assumption) ?qt_5
              case yt_5 => (intro w hSw; (try dsimp only at hSw); go_simp)
              case qt_5 =>
                (try simp only [Act.put]); (try simp only [List.setIfInBounds_toArray])
                refine wpAnyH_ready (rs := [5]) (by kernel_rfl) (by simp) ?_
                refine AllReadyH.cons rfl (fun K hK => ?st_6) ?mt_6
                case st_6 =>
                  (go_simp; have HXa := Lib.hid (HX.out.after (below_more (Below.refl _ _) (.cells #[.int .i64 id] 3))); have HNb := Lib.hid (Blk.new X2.drew 3 #[.int .i64 id]); have hgm : X2.drew.heap.size < (X2.drew.alloc (.cells #[.int .i64 id] 3)).heap.size := HNb.out.lt)
                  refine hK.out _ _ ?kt_6 (fun hHeld => ?qt_6)
                  case kt_6 => ((try dsimp only); first | exact HSof.out _ HX2.out | exact HSof.out _ HXa.out.e | exact HSof.out _ HX.out.e)
                  case qt_6 =>
                    clear hK K
                    (try simp only [Act.put]); (try simp only [List.setIfInBounds_toArray])
                    refine wpAnyH_ready (rs := [6]) (by kernel_rfl) (by simp) ?_
                    refine AllReadyH.cons rfl (fun K hK => ?st_7) ?mt_7
                    case st_7 =>
                      (refine step_app_mark _ (by rfl) (.tmp 12) (.tmp 17) _ (by rfl) w0.heap.size 3 i0 _ 1 8 Try.underlying48 hi0 hz0 hz1 hz2 rfl (by omega) ov r.length (intCells r) (by rfl) HXa.out.own _ [.int .i64 id] (by rfl) HNb.out rfl (by simp [Value.oneCell']) (by unfold maxLen; omega) (by omega) HXa.out.e.gr.size ?_; intro G1 cap1 w2 hown2 _ hca1 hca2 hgr2; have HX2 := Lib.hid (HXa.out.e.kept HXa.out.own hgr2))
                      refine hK.out _ _ ?kt_7 (fun hHeld => ?qt_7)
                      case kt_7 => ((try dsimp only); first | exact HSof.out _ HX2.out | exact HSof.out _ HXa.out.e | exact HSof.out _ HX.out.e)
                      case qt_7 =>
                        clear hK K
                        (try simp only [Act.put]); (try simp only [List.setIfInBounds_toArray])
                        refine wpAnyH_done (by kernel_rfl) ?_ _
                        have k0 := (HX2.out.bx.cell 0).trans (show _ = some ov from rfl)
                        have k1 := HX2.out.bx.frozen 0
                        have HO2 := Lib.hid hown2
                        have HG2 := Lib.hid hgr2
                        clear hown2 hgr2 hHeld
                        show wpList _ _ _ _ _ _
                        go_wp2_with fail
                        (try simp only [Exit.inBlock, Exit.then])
                        first | refine bodyPost_ret (results_none (by kernel_rfl) _ _ _) rfl ?_ | refine bodyPost_end (results_none (by kernel_rfl) _ _ _) rfl ?_
                        exact ⟨rfl, ⟨_, HXa.out.push HG2.out HO2.out⟩, HK2.out.trans ((Keeps.of (below_more (below_drew1 _) _)).trans (HXa.out.keeps HG2.out))⟩
                    case mt_7 =>
                      exact AllReadyH.nil
                case mt_6 =>
                  exact AllReadyH.nil
end Go.Proofs.Ytmjkcbhkmkofjaa

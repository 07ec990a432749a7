/-
  WALKS: Put and Aim.
  PLAIN: names that rise; the list that the document's loops lay, and the one with a name laid on or taken away.
  WALKS: the document's: a model in memory of its own.
  WALKS: may a branch stand at a spot?
-/
import Derived.Test.YtbkmdlfenbfdlaaGreatZC13
namespace Go.Proofs.YtbkmdlfenbfdlaaGreat
open Go Go.RowKit Go.Sort
set_option linter.unusedVariables false
attribute [local go_sem ↓] Go.wp_at_zero Go.wp_at_succ
/-- the errors that Put and Aim tell ahead -/
def putE (next : Int) (nds : List Nd) (name val : ByteArray) : Int := if nameE next nds name = 0 then (if 4096 < val.size then 3 else 0) else nameE next nds name
def aimE (next : Int) (nds : List Nd) (name : ByteArray) (target : Int) : Int := if nameE next nds name = 0 then (if (ixOf nds target).isSome = true then 0 else 20) else nameE next nds name
theorem put_change (w : World) (n : Nat) (nd : Nd) (bn bv : Nat) (name : ByteArray) (val : ByteArray) (hv : val.size ≤ maxLen) (hb : Blk w bn 9 #[.string name]) (hbv : Blk w bv 9 #[.string val]) (hs : SortS (nd.props.map (·.1))) (hfit : Fits 1 nd) (hsn : name.size ≤ maxLen) :
    Change w n 63 #[.pointer (some ⟨bn, 0, none⟩), .pointer (some ⟨bv, 0, none⟩)] nd (putN nd name val) := by
  cases hfd : foundS (nd.props.map (·.1)) name with
  | true => exact put_found w n nd bn bv name val hv hb hbv hs hfit hfd
  | false => exact put_new w n nd bn bv name val hv hb hbv hs hfit hfd hsn
theorem putE_zero {next : Int} {nds : List Nd} {name : ByteArray} {val : ByteArray} (h : putE next nds name val = 0) : rightB next nds = true := by
  unfold putE at h
  split at h
  · exact nameE_zero (by assumption)
  · contradiction
set_option maxRecDepth 20000 in
set_option maxHeartbeats 3200000 in
theorem arenaPut_any (w : World) (hi : Nat) (next id : Int) (A : Option Addr) (n c : Nat) (nds : List Nd) (name : ByteArray) (val : ByteArray) (hv : val.size ≤ maxLen) (h : NodesIn w 0 hi A n c nds) (hh : hi ≤ w.heap.size) (hsn : name.size ≤ maxLen)
    (hr : rightB next nds = true → Rise nds ∧ n ≤ 4096 ∧ (∀ nd ∈ nds, Fits 1 nd) ∧ ∀ nd ∈ nds, SortS (nd.props.map (·.1))) :
    Calls Tryz.prog 29 #[.agg #[.int .i64 next, .slice A n c], .int .i64 id, .string name, .string val] w (SetPost w next (chE (putE next nds name val) nds id) (chL nds id (fun nd => putN nd name val))) := by
  have hB0 : Below w.heap.size w ((((w.alloc (.cells #[.int .i64 next, .slice A n c] 26)).alloc (.cells #[.string name] 9)).alloc (.cells #[.string val] 9)).alloc (.cells #[.int .i64 0, .slice none 0 0] 26)) := below_more (below_more (below_more (below_more (Below.refl _ _) _) _) _) _
  have hM0 : Blk ((((w.alloc (.cells #[.int .i64 next, .slice A n c] 26)).alloc (.cells #[.string name] 9)).alloc (.cells #[.string val] 9)).alloc (.cells #[.int .i64 0, .slice none 0 0] 26)) w.heap.size 26 #[.int .i64 next, .slice A n c] := (((Blk.new _ _ _).alloc _).alloc _).alloc _
  have hS0 : Blk ((((w.alloc (.cells #[.int .i64 next, .slice A n c] 26)).alloc (.cells #[.string name] 9)).alloc (.cells #[.string val] 9)).alloc (.cells #[.int .i64 0, .slice none 0 0] 26)) (w.heap.size + 1) 9 #[.string name] := ((Blk.new' (by simp)).alloc _).alloc _
  have hV0 : Blk ((((w.alloc (.cells #[.int .i64 next, .slice A n c] 26)).alloc (.cells #[.string name] 9)).alloc (.cells #[.string val] 9)).alloc (.cells #[.int .i64 0, .slice none 0 0] 26)) (w.heap.size + 1 + 1) 9 #[.string val] := (Blk.new' (by simp)).alloc _
  have hR0 : Blk ((((w.alloc (.cells #[.int .i64 next, .slice A n c] 26)).alloc (.cells #[.string name] 9)).alloc (.cells #[.string val] 9)).alloc (.cells #[.int .i64 0, .slice none 0 0] 26)) (w.heap.size + 1 + 1 + 1) 26 #[.int .i64 0, .slice none 0 0] := Blk.new' (by simp)
  have HH := Lib.hid h
  have HRR := Lib.hid hr
  have HE : Hid (putE next nds name val = putE next nds name val) := Lib.hid rfl
  clear h hr
  go_enter Tryz.func29, Tryz.ntmps29
  go_upto_region 1 with fail
  generalize ((((w.alloc (.cells #[.int .i64 next, .slice A n c] 26)).alloc (.cells #[.string name] 9)).alloc (.cells #[.string val] 9)).alloc (.cells #[.int .i64 0, .slice none 0 0] 26)) = W at hB0 hM0 hS0 hV0 hR0 ⊢
  have HSS : Hid (∀ Y, Below W.heap.size W Y → Y.cell? ⟨w.heap.size, 0, none⟩ = some (.int .i64 next) ∧ Y.cell? ⟨w.heap.size, 1, none⟩ = some (.slice A n c) ∧ Y.cell? ⟨w.heap.size + 1, 0, none⟩ = some (.string name) ∧ Y.cell? ⟨w.heap.size + 1 + 1, 0, none⟩ = some (.string val) ∧ Y.cell? ⟨w.heap.size + 1 + 1 + 1, 0, none⟩ = some (.int .i64 0) ∧ Y.cell? ⟨w.heap.size + 1 + 1 + 1, 1, none⟩ = some (.slice none 0 0) ∧ Y.frozen? ⟨w.heap.size + 1 + 1 + 1, 0, none⟩ = false ∧ Y.frozen? ⟨w.heap.size + 1 + 1 + 1, 1, none⟩ = false) :=
    Lib.hid fun Y hY => ⟨((hM0.after hY).cell 0).trans rfl, ((hM0.after hY).cell 1).trans rfl, ((hS0.after hY).cell 0).trans rfl, ((hV0.after hY).cell 0).trans rfl, ((hR0.after hY).cell 0).trans rfl, ((hR0.after hY).cell 1).trans rfl, (hR0.after hY).frozen 0, (hR0.after hY).frozen 1⟩
  have HNm := Lib.hid (nameable_any W hi next name A n c nds (HH.out.below (hB0.mono hh)) (Nat.le_trans hh hB0.size) hsn)
  have HCg := Lib.hid fun (Y : World) (hY : Below W.heap.size W Y) => changed_post Y hi next id (putE next nds name val) A n c nds 63 #[.pointer (some ⟨w.heap.size + 1, 0, none⟩), .pointer (some ⟨w.heap.size + 1 + 1, 0, none⟩)] (fun nd => putN nd name val) (HH.out.below ((hB0.trans (hY.mono hB0.size)).mono hh)) (Nat.le_trans hh (hB0.trans (hY.mono hB0.size)).size)
    (fun h0 => ⟨(HRR.out (putE_zero h0)).1, (HRR.out (putE_zero h0)).2.1, (HRR.out (putE_zero h0)).2.2.1⟩) (fun _ _ => rfl) (fun h0 nd hnd => put_change Y n nd (w.heap.size + 1) (w.heap.size + 1 + 1) name val hv (hS0.after hY) (hV0.after hY) ((HRR.out (putE_zero h0)).2.2.2 nd hnd) ((HRR.out (putE_zero h0)).2.2.1 nd hnd) hsn)
  obtain ⟨b1, b2, b3, b4, b5, b6, b7, b8⟩ := HSS.out W (Below.refl _ _)
  have HB0 := Lib.hid hB0
  have HR0 := Lib.hid hR0
  clear hB0 hM0 hS0 hV0 hR0 HE
  by_cases h0 : nameE next nds name = 0
  · have hrt := nameE_zero h0
    rw [h0] at HNm
    by_cases h4 : 4096 < val.size
    · have hE : putE next nds name val = 3 := by unfold putE; rw [if_pos h0, if_pos h4]
      rw [hE] at HCg
      have h5 : (4096 : Int) < (val.size : Int) := by omega
      have HEE := Lib.hid hE
      clear h0 h4 hE hrt
      go_wp2_with (first | (go_at_call 61; go_must (refine HNm.out.mono ?_; rintro e Y2 ⟨rfl, hb2⟩; have HBW := Lib.hid hb2; obtain ⟨r1, r2, r3, r4, r5, r6, r7, r8⟩ := HSS.out _ hb2; clear hb2)) | (go_at_call 62; go_must (refine (HCg.out _ HBW.out).mono ?_; rintro e Y6 ⟨nx6, A6, n6, c6, rfl, hb6, hne6, hok6⟩; have HZ := Lib.hid HBW.out.size; replace HBW := Lib.hid (HBW.out.trans (hb6.mono HBW.out.size)); have HNE := Lib.hid hne6; have HOK := Lib.hid hok6; obtain ⟨t1, t2, t3, t4, t5, t6, t7, t8⟩ := HSS.out _ HBW.out; clear hb6 hne6 hok6)))
      (try rw [Exit.noGoto_ret])
      (try simp only [Exit.inBlock, Exit.then])
      have hres : Tryz.f29.results = #[.cell 8 26, .tmp 9] := by kernel_rfl
      refine bodyPost_ret (v := .tuple #[.agg #[.int .i64 nx6, .slice A6 n6 c6], .int .i64 (chE 3 nds id)]) ?hr rfl ?_
      case hr =>
        simp only [results, hres]
        go_simp
      have hR := HR0.out.after HBW.out
      have hzz : w.heap.size ≤ W.heap.size := HB0.out.size
      show SetPost _ _ _ _ _ _
      rw [HEE.out]
      refine ⟨nx6, A6, n6, c6, rfl, ?_, HNE.out, fun h0 => ?_⟩
      · exact ((HB0.out.trans (HBW.out.mono hzz)).setCell (p := ⟨w.heap.size + 1 + 1 + 1, 0, none⟩) (by simp only; omega) _).setCell (p := ⟨w.heap.size + 1 + 1 + 1, 1, none⟩) (by simp only; omega) _
      · obtain ⟨h1, l, h2, h3, h4⟩ := HOK.out h0
        exact ⟨h1, l, ((h2.mono (Nat.le_trans hzz HZ.out)).other hR 0 _).other (hR.set_ 0 _) 1 _, h3, h4⟩
    · have hE : putE next nds name val = 0 := by unfold putE; rw [if_pos h0, if_neg h4]
      rw [hE] at HCg
      have h5 : ¬ (4096 : Int) < (val.size : Int) := by omega
      have h6 : (val.size : Int) ≤ 4096 := by omega
      have HEE := Lib.hid hE
      clear h0 h4 hE hrt
      go_wp2_with (first | (go_at_call 61; go_must (refine HNm.out.mono ?_; rintro e Y2 ⟨rfl, hb2⟩; have HBW := Lib.hid hb2; obtain ⟨r1, r2, r3, r4, r5, r6, r7, r8⟩ := HSS.out _ hb2; clear hb2)) | (go_at_call 62; go_must (refine (HCg.out _ HBW.out).mono ?_; rintro e Y6 ⟨nx6, A6, n6, c6, rfl, hb6, hne6, hok6⟩; have HZ := Lib.hid HBW.out.size; replace HBW := Lib.hid (HBW.out.trans (hb6.mono HBW.out.size)); have HNE := Lib.hid hne6; have HOK := Lib.hid hok6; obtain ⟨t1, t2, t3, t4, t5, t6, t7, t8⟩ := HSS.out _ HBW.out; clear hb6 hne6 hok6)))
      (try rw [Exit.noGoto_ret])
      (try simp only [Exit.inBlock, Exit.then])
      have hres : Tryz.f29.results = #[.cell 8 26, .tmp 9] := by kernel_rfl
      refine bodyPost_ret (v := .tuple #[.agg #[.int .i64 nx6, .slice A6 n6 c6], .int .i64 (chE 0 nds id)]) ?hr rfl ?_
      case hr =>
        simp only [results, hres]
        go_simp
      have hR := HR0.out.after HBW.out
      have hzz : w.heap.size ≤ W.heap.size := HB0.out.size
      show SetPost _ _ _ _ _ _
      rw [HEE.out]
      refine ⟨nx6, A6, n6, c6, rfl, ?_, HNE.out, fun h0 => ?_⟩
      · exact ((HB0.out.trans (HBW.out.mono hzz)).setCell (p := ⟨w.heap.size + 1 + 1 + 1, 0, none⟩) (by simp only; omega) _).setCell (p := ⟨w.heap.size + 1 + 1 + 1, 1, none⟩) (by simp only; omega) _
      · obtain ⟨h1, l, h2, h3, h4⟩ := HOK.out h0
        exact ⟨h1, l, ((h2.mono (Nat.le_trans hzz HZ.out)).other hR 0 _).other (hR.set_ 0 _) 1 _, h3, h4⟩
  · have hE : putE next nds name val = nameE next nds name := by unfold putE; rw [if_neg h0]
    rw [hE] at HCg
    generalize nameE next nds name = e0 at HNm HCg h0 hE
    have HEE := Lib.hid hE
    have d0 : (e0 == 0) = false := by rw [beq_eq_false_iff_ne]; exact h0
    clear hE
    go_wp2_with (first | (go_at_call 61; go_must (refine HNm.out.mono ?_; rintro e Y2 ⟨rfl, hb2⟩; have HBW := Lib.hid hb2; obtain ⟨r1, r2, r3, r4, r5, r6, r7, r8⟩ := HSS.out _ hb2; clear hb2)) | (go_at_call 62; go_must (refine (HCg.out _ HBW.out).mono ?_; rintro e Y6 ⟨nx6, A6, n6, c6, rfl, hb6, hne6, hok6⟩; have HZ := Lib.hid HBW.out.size; replace HBW := Lib.hid (HBW.out.trans (hb6.mono HBW.out.size)); have HNE := Lib.hid hne6; have HOK := Lib.hid hok6; obtain ⟨t1, t2, t3, t4, t5, t6, t7, t8⟩ := HSS.out _ HBW.out; clear hb6 hne6 hok6)))
    (try rw [Exit.noGoto_ret])
    (try simp only [Exit.inBlock, Exit.then])
    have hres : Tryz.f29.results = #[.cell 8 26, .tmp 9] := by kernel_rfl
    refine bodyPost_ret (v := .tuple #[.agg #[.int .i64 nx6, .slice A6 n6 c6], .int .i64 (chE e0 nds id)]) ?hr rfl ?_
    case hr =>
      simp only [results, hres]
      go_simp
    have hR := HR0.out.after HBW.out
    have hzz : w.heap.size ≤ W.heap.size := HB0.out.size
    show SetPost _ _ _ _ _ _
    rw [HEE.out]
    refine ⟨nx6, A6, n6, c6, rfl, ?_, HNE.out, fun h0 => ?_⟩
    · exact ((HB0.out.trans (HBW.out.mono hzz)).setCell (p := ⟨w.heap.size + 1 + 1 + 1, 0, none⟩) (by simp only; omega) _).setCell (p := ⟨w.heap.size + 1 + 1 + 1, 1, none⟩) (by simp only; omega) _
    · obtain ⟨h1, l, h2, h3, h4⟩ := HOK.out h0
      exact ⟨h1, l, ((h2.mono (Nat.le_trans hzz HZ.out)).other hR 0 _).other (hR.set_ 0 _) 1 _, h3, h4⟩
theorem aim_change (w : World) (n : Nat) (nd : Nd) (bn bv : Nat) (name : ByteArray) (val : Int)  (hb : Blk w bn 9 #[.string name]) (hbv : Blk w bv 3 #[.int .i64 val]) (hs : SortS (nd.refs.map (·.1))) (hfit : Fits 1 nd) (hsn : name.size ≤ maxLen) :
    Change w n 66 #[.pointer (some ⟨bn, 0, none⟩), .pointer (some ⟨bv, 0, none⟩)] nd (aimN nd name val) := by
  cases hfd : foundS (nd.refs.map (·.1)) name with
  | true => exact aim_found w n nd bn bv name val  hb hbv hs hfit hfd
  | false => exact aim_new w n nd bn bv name val  hb hbv hs hfit hfd hsn
theorem aimE_zero {next : Int} {nds : List Nd} {name : ByteArray} {val : Int} (h : aimE next nds name val = 0) : rightB next nds = true := by
  unfold aimE at h
  split at h
  · exact nameE_zero (by assumption)
  · contradiction
set_option maxRecDepth 20000 in
set_option maxHeartbeats 3200000 in
theorem aim_any (w : World) (hi : Nat) (next id : Int) (A : Option Addr) (n c : Nat) (nds : List Nd) (name : ByteArray) (val : Int)  (h : NodesIn w 0 hi A n c nds) (hh : hi ≤ w.heap.size) (hsn : name.size ≤ maxLen)
    (hr : rightB next nds = true → Rise nds ∧ n ≤ 4096 ∧ (∀ nd ∈ nds, Fits 1 nd) ∧ ∀ nd ∈ nds, SortS (nd.refs.map (·.1))) :
    Calls Tryz.prog 30 #[.agg #[.int .i64 next, .slice A n c], .int .i64 id, .string name, .int .i64 val] w (SetPost w next (chE (aimE next nds name val) nds id) (chL nds id (fun nd => aimN nd name val))) := by
  have hB0 : Below w.heap.size w ((((w.alloc (.cells #[.int .i64 next, .slice A n c] 26)).alloc (.cells #[.string name] 9)).alloc (.cells #[.int .i64 val] 3)).alloc (.cells #[.int .i64 0, .slice none 0 0] 26)) := below_more (below_more (below_more (below_more (Below.refl _ _) _) _) _) _
  have hM0 : Blk ((((w.alloc (.cells #[.int .i64 next, .slice A n c] 26)).alloc (.cells #[.string name] 9)).alloc (.cells #[.int .i64 val] 3)).alloc (.cells #[.int .i64 0, .slice none 0 0] 26)) w.heap.size 26 #[.int .i64 next, .slice A n c] := (((Blk.new _ _ _).alloc _).alloc _).alloc _
  have hS0 : Blk ((((w.alloc (.cells #[.int .i64 next, .slice A n c] 26)).alloc (.cells #[.string name] 9)).alloc (.cells #[.int .i64 val] 3)).alloc (.cells #[.int .i64 0, .slice none 0 0] 26)) (w.heap.size + 1) 9 #[.string name] := ((Blk.new' (by simp)).alloc _).alloc _
  have hV0 : Blk ((((w.alloc (.cells #[.int .i64 next, .slice A n c] 26)).alloc (.cells #[.string name] 9)).alloc (.cells #[.int .i64 val] 3)).alloc (.cells #[.int .i64 0, .slice none 0 0] 26)) (w.heap.size + 1 + 1) 3 #[.int .i64 val] := (Blk.new' (by simp)).alloc _
  have hR0 : Blk ((((w.alloc (.cells #[.int .i64 next, .slice A n c] 26)).alloc (.cells #[.string name] 9)).alloc (.cells #[.int .i64 val] 3)).alloc (.cells #[.int .i64 0, .slice none 0 0] 26)) (w.heap.size + 1 + 1 + 1) 26 #[.int .i64 0, .slice none 0 0] := Blk.new' (by simp)
  have HH := Lib.hid h
  have HRR := Lib.hid hr
  have HE : Hid (aimE next nds name val = aimE next nds name val) := Lib.hid rfl
  clear h hr
  go_enter Tryz.func30, Tryz.ntmps30
  go_upto_region 1 with fail
  generalize ((((w.alloc (.cells #[.int .i64 next, .slice A n c] 26)).alloc (.cells #[.string name] 9)).alloc (.cells #[.int .i64 val] 3)).alloc (.cells #[.int .i64 0, .slice none 0 0] 26)) = W at hB0 hM0 hS0 hV0 hR0 ⊢
  have HSS : Hid (∀ Y, Below W.heap.size W Y → Y.cell? ⟨w.heap.size, 0, none⟩ = some (.int .i64 next) ∧ Y.cell? ⟨w.heap.size, 1, none⟩ = some (.slice A n c) ∧ Y.cell? ⟨w.heap.size + 1, 0, none⟩ = some (.string name) ∧ Y.cell? ⟨w.heap.size + 1 + 1, 0, none⟩ = some (.int .i64 val) ∧ Y.cell? ⟨w.heap.size + 1 + 1 + 1, 0, none⟩ = some (.int .i64 0) ∧ Y.cell? ⟨w.heap.size + 1 + 1 + 1, 1, none⟩ = some (.slice none 0 0) ∧ Y.frozen? ⟨w.heap.size + 1 + 1 + 1, 0, none⟩ = false ∧ Y.frozen? ⟨w.heap.size + 1 + 1 + 1, 1, none⟩ = false) :=
    Lib.hid fun Y hY => ⟨((hM0.after hY).cell 0).trans rfl, ((hM0.after hY).cell 1).trans rfl, ((hS0.after hY).cell 0).trans rfl, ((hV0.after hY).cell 0).trans rfl, ((hR0.after hY).cell 0).trans rfl, ((hR0.after hY).cell 1).trans rfl, (hR0.after hY).frozen 0, (hR0.after hY).frozen 1⟩
  have HNm := Lib.hid (nameable_any W hi next name A n c nds (HH.out.below (hB0.mono hh)) (Nat.le_trans hh hB0.size) hsn)
  have HCg := Lib.hid fun (Y : World) (hY : Below W.heap.size W Y) => changed_post Y hi next id (aimE next nds name val) A n c nds 66 #[.pointer (some ⟨w.heap.size + 1, 0, none⟩), .pointer (some ⟨w.heap.size + 1 + 1, 0, none⟩)] (fun nd => aimN nd name val) (HH.out.below ((hB0.trans (hY.mono hB0.size)).mono hh)) (Nat.le_trans hh (hB0.trans (hY.mono hB0.size)).size)
    (fun h0 => ⟨(HRR.out (aimE_zero h0)).1, (HRR.out (aimE_zero h0)).2.1, (HRR.out (aimE_zero h0)).2.2.1⟩) (fun _ _ => rfl) (fun h0 nd hnd => aim_change Y n nd (w.heap.size + 1) (w.heap.size + 1 + 1) name val  (hS0.after hY) (hV0.after hY) ((HRR.out (aimE_zero h0)).2.2.2 nd hnd) ((HRR.out (aimE_zero h0)).2.2.1 nd hnd) hsn)
  have HHas := Lib.hid fun (Y : World) (hY : Below W.heap.size W Y) (hq : rightB next nds = true) => has_any Y hi next val A n c nds (HH.out.below ((hB0.trans (hY.mono hB0.size)).mono hh)) (Nat.le_trans hh (hB0.trans (hY.mono hB0.size)).size) (HRR.out hq).1 (HRR.out hq).2.1
  obtain ⟨b1, b2, b3, b4, b5, b6, b7, b8⟩ := HSS.out W (Below.refl _ _)
  have HB0 := Lib.hid hB0
  have HR0 := Lib.hid hR0
  clear hB0 hM0 hS0 hV0 hR0 HE
  by_cases h0 : nameE next nds name = 0
  · have hrt := nameE_zero h0
    rw [h0] at HNm
    replace HHas := Lib.hid fun (Y : World) (hY : Below W.heap.size W Y) => HHas.out Y hY hrt
    cases h4 : (ixOf nds val).isSome with
    | false =>
      have hE : aimE next nds name val = 20 := by unfold aimE; rw [if_pos h0, h4]; rfl
      rw [hE] at HCg
      have HIS := Lib.hid h4
      have HEE := Lib.hid hE
      clear h0 h4 hE hrt
      go_wp2_with (first | (go_at_call 61; go_must (refine HNm.out.mono ?_; rintro e Y2 ⟨rfl, hb2⟩; have HBW := Lib.hid hb2; obtain ⟨r1, r2, r3, r4, r5, r6, r7, r8⟩ := HSS.out _ hb2; clear hb2)) | (go_at_call 40; go_must (refine (HHas.out _ HBW.out).mono ?_; rintro e Y3 ⟨rfl, hb3⟩; rw [HIS.out]; replace HBW := Lib.hid (HBW.out.trans (hb3.mono HBW.out.size)); obtain ⟨s1, s2, s3, s4, s5, s6, s7, s8⟩ := HSS.out _ HBW.out; clear hb3)) | (go_at_call 62; go_must (refine (HCg.out _ HBW.out).mono ?_; rintro e Y6 ⟨nx6, A6, n6, c6, rfl, hb6, hne6, hok6⟩; have HZ := Lib.hid HBW.out.size; replace HBW := Lib.hid (HBW.out.trans (hb6.mono HBW.out.size)); have HNE := Lib.hid hne6; have HOK := Lib.hid hok6; obtain ⟨t1, t2, t3, t4, t5, t6, t7, t8⟩ := HSS.out _ HBW.out; clear hb6 hne6 hok6)))
      (try rw [Exit.noGoto_ret])
      (try simp only [Exit.inBlock, Exit.then])
      have hres : Tryz.f30.results = #[.cell 8 26, .tmp 9] := by kernel_rfl
      refine bodyPost_ret (v := .tuple #[.agg #[.int .i64 nx6, .slice A6 n6 c6], .int .i64 (chE 20 nds id)]) ?hr rfl ?_
      case hr =>
        simp only [results, hres]
        go_simp
      have hR := HR0.out.after HBW.out
      have hzz : w.heap.size ≤ W.heap.size := HB0.out.size
      show SetPost _ _ _ _ _ _
      rw [HEE.out]
      refine ⟨nx6, A6, n6, c6, rfl, ?_, HNE.out, fun h0 => ?_⟩
      · exact ((HB0.out.trans (HBW.out.mono hzz)).setCell (p := ⟨w.heap.size + 1 + 1 + 1, 0, none⟩) (by simp only; omega) _).setCell (p := ⟨w.heap.size + 1 + 1 + 1, 1, none⟩) (by simp only; omega) _
      · obtain ⟨h1, l, h2, h3, h4⟩ := HOK.out h0
        exact ⟨h1, l, ((h2.mono (Nat.le_trans hzz HZ.out)).other hR 0 _).other (hR.set_ 0 _) 1 _, h3, h4⟩
    | true =>
      have hE : aimE next nds name val = 0 := by unfold aimE; rw [if_pos h0, h4]; rfl
      rw [hE] at HCg
      have HIS := Lib.hid h4
      have HEE := Lib.hid hE
      clear h0 h4 hE hrt
      go_wp2_with (first | (go_at_call 61; go_must (refine HNm.out.mono ?_; rintro e Y2 ⟨rfl, hb2⟩; have HBW := Lib.hid hb2; obtain ⟨r1, r2, r3, r4, r5, r6, r7, r8⟩ := HSS.out _ hb2; clear hb2)) | (go_at_call 40; go_must (refine (HHas.out _ HBW.out).mono ?_; rintro e Y3 ⟨rfl, hb3⟩; rw [HIS.out]; replace HBW := Lib.hid (HBW.out.trans (hb3.mono HBW.out.size)); obtain ⟨s1, s2, s3, s4, s5, s6, s7, s8⟩ := HSS.out _ HBW.out; clear hb3)) | (go_at_call 62; go_must (refine (HCg.out _ HBW.out).mono ?_; rintro e Y6 ⟨nx6, A6, n6, c6, rfl, hb6, hne6, hok6⟩; have HZ := Lib.hid HBW.out.size; replace HBW := Lib.hid (HBW.out.trans (hb6.mono HBW.out.size)); have HNE := Lib.hid hne6; have HOK := Lib.hid hok6; obtain ⟨t1, t2, t3, t4, t5, t6, t7, t8⟩ := HSS.out _ HBW.out; clear hb6 hne6 hok6)))
      (try rw [Exit.noGoto_ret])
      (try simp only [Exit.inBlock, Exit.then])
      have hres : Tryz.f30.results = #[.cell 8 26, .tmp 9] := by kernel_rfl
      refine bodyPost_ret (v := .tuple #[.agg #[.int .i64 nx6, .slice A6 n6 c6], .int .i64 (chE 0 nds id)]) ?hr rfl ?_
      case hr =>
        simp only [results, hres]
        go_simp
      have hR := HR0.out.after HBW.out
      have hzz : w.heap.size ≤ W.heap.size := HB0.out.size
      show SetPost _ _ _ _ _ _
      rw [HEE.out]
      refine ⟨nx6, A6, n6, c6, rfl, ?_, HNE.out, fun h0 => ?_⟩
      · exact ((HB0.out.trans (HBW.out.mono hzz)).setCell (p := ⟨w.heap.size + 1 + 1 + 1, 0, none⟩) (by simp only; omega) _).setCell (p := ⟨w.heap.size + 1 + 1 + 1, 1, none⟩) (by simp only; omega) _
      · obtain ⟨h1, l, h2, h3, h4⟩ := HOK.out h0
        exact ⟨h1, l, ((h2.mono (Nat.le_trans hzz HZ.out)).other hR 0 _).other (hR.set_ 0 _) 1 _, h3, h4⟩
  · have hE : aimE next nds name val = nameE next nds name := by unfold aimE; rw [if_neg h0]
    rw [hE] at HCg
    generalize nameE next nds name = e0 at HNm HCg h0 hE
    have HEE := Lib.hid hE
    have d0 : (e0 == 0) = false := by rw [beq_eq_false_iff_ne]; exact h0
    clear hE
    go_wp2_with (first | (go_at_call 61; go_must (refine HNm.out.mono ?_; rintro e Y2 ⟨rfl, hb2⟩; have HBW := Lib.hid hb2; obtain ⟨r1, r2, r3, r4, r5, r6, r7, r8⟩ := HSS.out _ hb2; clear hb2)) | (go_at_call 62; go_must (refine (HCg.out _ HBW.out).mono ?_; rintro e Y6 ⟨nx6, A6, n6, c6, rfl, hb6, hne6, hok6⟩; have HZ := Lib.hid HBW.out.size; replace HBW := Lib.hid (HBW.out.trans (hb6.mono HBW.out.size)); have HNE := Lib.hid hne6; have HOK := Lib.hid hok6; obtain ⟨t1, t2, t3, t4, t5, t6, t7, t8⟩ := HSS.out _ HBW.out; clear hb6 hne6 hok6)))
    (try rw [Exit.noGoto_ret])
    (try simp only [Exit.inBlock, Exit.then])
    have hres : Tryz.f30.results = #[.cell 8 26, .tmp 9] := by kernel_rfl
    refine bodyPost_ret (v := .tuple #[.agg #[.int .i64 nx6, .slice A6 n6 c6], .int .i64 (chE e0 nds id)]) ?hr rfl ?_
    case hr =>
      simp only [results, hres]
      go_simp
    have hR := HR0.out.after HBW.out
    have hzz : w.heap.size ≤ W.heap.size := HB0.out.size
    show SetPost _ _ _ _ _ _
    rw [HEE.out]
    refine ⟨nx6, A6, n6, c6, rfl, ?_, HNE.out, fun h0 => ?_⟩
    · exact ((HB0.out.trans (HBW.out.mono hzz)).setCell (p := ⟨w.heap.size + 1 + 1 + 1, 0, none⟩) (by simp only; omega) _).setCell (p := ⟨w.heap.size + 1 + 1 + 1, 1, none⟩) (by simp only; omega) _
    · obtain ⟨h1, l, h2, h3, h4⟩ := HOK.out h0
      exact ⟨h1, l, ((h2.mono (Nat.le_trans hzz HZ.out)).other hR 0 _).other (hR.set_ 0 _) 1 _, h3, h4⟩
end Go.Proofs.YtbkmdlfenbfdlaaGreat
namespace Go.Proofs.YtbkmdlfenbfdlaaGreat
open Go Go.RowKit Go.Sort
set_option linter.unusedVariables false
theorem sort_cons {k : ByteArray} {ks : List ByteArray} (h : SortS (k :: ks)) : SortS ks ∧ ∀ x ∈ ks, ltS k x = true :=
  ⟨fun i j a b hij ha hb => h (i + 1) (j + 1) a b (by omega) (by simpa using ha) (by simpa using hb), fun x hx => by
    obtain ⟨j, hj⟩ := List.getElem?_of_mem hx
    exact h 0 (j + 1) k x (by omega) rfl (by simpa using hj)⟩
theorem cons_sort {k : ByteArray} {ks : List ByteArray} (h : SortS ks) (hk : ∀ x ∈ ks, ltS k x = true) : SortS (k :: ks) := by
  intro i j a b hij ha hb
  cases j with
  | zero => omega
  | succ j =>
    have hb' : ks[j]? = some b := by simpa using hb
    cases i with
    | zero => cases ha; exact hk b (List.mem_of_getElem? hb')
    | succ i => exact h i j a b (by omega) (by simpa using ha) hb'
theorem props_sort : ∀ (l : List (ByteArray × ByteArray)) (q : Option ByteArray), propsB q l = true → SortS (l.map (·.1)) ∧ ∀ q', q = some q' → ∀ k ∈ l.map (·.1), ltS q' k = true := by
  intro l
  induction l with
  | nil => intro q _; exact ⟨fun i j a b _ ha => by simp at ha, fun _ _ k hk => by simp at hk⟩
  | cons p r ih =>
    intro q h
    simp only [propsB, Bool.and_eq_true] at h
    obtain ⟨h1, h2⟩ := ih (some p.1) h.2
    have h3 := h2 p.1 rfl
    refine ⟨cons_sort h1 h3, ?_⟩
    rintro q' rfl k hk
    have h4 : ltS q' p.1 = true := h.1.2
    rcases List.mem_cons.1 hk with rfl | hk
    · exact h4
    · exact less_trans h4 (h3 k hk)
theorem refs_sort {next : Int} : ∀ (l : List (ByteArray × Int)) (q : Option ByteArray), refsB next q l = true → SortS (l.map (·.1)) ∧ ∀ q', q = some q' → ∀ k ∈ l.map (·.1), ltS q' k = true := by
  intro l
  induction l with
  | nil => intro q _; exact ⟨fun i j a b _ ha => by simp at ha, fun _ _ k hk => by simp at hk⟩
  | cons p r ih =>
    intro q h
    simp only [refsB, Bool.and_eq_true] at h
    obtain ⟨h1, h2⟩ := ih (some p.1) h.2
    have h3 := h2 p.1 rfl
    refine ⟨cons_sort h1 h3, ?_⟩
    rintro q' rfl k hk
    have h4 : ltS q' p.1 = true := h.1.2
    rcases List.mem_cons.1 hk with rfl | hk
    · exact h4
    · exact less_trans h4 (h3 k hk)
theorem right_sorts {next : Int} {nds : List Nd} (h : rightB next nds = true) : ∀ nd ∈ nds, SortS (nd.props.map (·.1)) ∧ SortS (nd.refs.map (·.1)) := by
  intro nd hnd
  have h1 := (rightM h).plain nd hnd
  unfold plainB at h1
  simp only [Bool.and_eq_true] at h1
  exact ⟨(props_sort _ _ h1.1.1.2).1, (refs_sort _ _ h1.1.2).1⟩
section
variable {β : Type}
/-- the list that the document lays -/
def layV (name : ByteArray) (v : β) : Bool → List (ByteArray × β) → List (ByteArray × β)
  | laid, [] => if laid = true then [] else [(name, v)]
  | laid, p :: r => (if laid = false ∧ ltS p.1 name = false then [(name, v)] else []) ++ ((if (p.1.toList == name.toList) = true then [] else [p]) ++ layV name v (laid || !ltS p.1 name) r)
theorem lt_ne {a b : ByteArray} (h : ltS a b = true) : (a.toList == b.toList) = false := by
  rw [beq_eq_false_iff_ne]
  intro e
  unfold ltS at h
  rw [e, less_irrefl] at h
  cases h
/-- behind a name that isn't below, none is -/
theorem beyond {name k : ByteArray} {ks : List ByteArray} (hk : ∀ x ∈ ks, ltS k x = true) (h : ltS k name = false) : rankS ks name = 0 ∧ ∀ x ∈ ks, (x.toList == name.toList) = false := by
  refine ⟨?_, fun x hx => ?_⟩
  · unfold rankS
    rw [List.countP_eq_zero]
    intro x hx hlt
    have := less_trans (hk x hx) hlt
    unfold ltS at h
    rw [this] at h; cases h
  · rw [beq_eq_false_iff_ne]
    intro e
    have h1 := hk x hx
    unfold ltS at h1 h
    rw [e, h] at h1; cases h1
theorem layV_laid (name : ByteArray) (v : β) : ∀ (l : List (ByteArray × β)), (∀ p ∈ l, (p.1.toList == name.toList) = false) → layV name v true l = l := by
  intro l
  induction l with
  | nil => intro _; rfl
  | cons p r ih =>
    intro h
    simp only [layV, h p (List.mem_cons_self ..), Bool.true_or, ih (fun x hx => h x (List.mem_cons_of_mem _ hx))]
    simp
theorem layV_eq (name : ByteArray) (v : β) : ∀ (l : List (ByteArray × β)), SortS (l.map (·.1)) →
    layV name v false l = if foundS (l.map (·.1)) name = true then l.modify (rankS (l.map (·.1)) name) (fun x => (x.1, v)) else insL l (rankS (l.map (·.1)) name) (name, v) := by
  intro l
  induction l with
  | nil => intro _; rfl
  | cons p r ih =>
    intro hs
    have hs' : SortS (p.1 :: r.map (·.1)) := hs
    obtain ⟨h1, h2⟩ := sort_cons hs'
    cases hlt : ltS p.1 name with
    | true =>
      have hne := lt_ne hlt
      have hr : rankS ((p :: r).map (·.1)) name = rankS (r.map (·.1)) name + 1 := by
        unfold rankS
        rw [List.map_cons, List.countP_cons_of_pos (p := fun k => ltS k name) (a := p.1) hlt]
      have hf : foundS ((p :: r).map (·.1)) name = foundS (r.map (·.1)) name := by
        unfold foundS
        rw [List.map_cons, List.any_cons, hne, Bool.false_or]
      rw [hr, hf]
      have hL : layV name v false (p :: r) = p :: layV name v false r := by simp [layV, hlt, hne]
      rw [hL, ih h1]
      by_cases hfr : foundS (r.map (·.1)) name = true
      · rw [if_pos hfr, if_pos hfr, List.modify_succ_cons]
      · rw [if_neg hfr, if_neg hfr]; simp [insL]
    | false =>
      obtain ⟨h3, h4⟩ := beyond h2 hlt
      have hr : rankS ((p :: r).map (·.1)) name = 0 := by
        unfold rankS at h3 ⊢
        rw [List.map_cons, List.countP_cons_of_neg (by rw [hlt]; decide)]
        exact h3
      have hl := layV_laid name v r (fun x hx => h4 x.1 (List.mem_map_of_mem hx))
      have hfr : foundS (r.map (·.1)) name = false := by
        unfold foundS
        rw [List.any_eq_false]
        intro x hx
        rw [h4 x hx]; decide
      cases he : (p.1.toList == name.toList) with
      | true =>
        have hf : foundS ((p :: r).map (·.1)) name = true := by
          unfold foundS
          rw [List.map_cons, List.any_cons, he, Bool.true_or]
        have hpn : p.1 = name := str_eq.1 (by simpa using he)
        rw [hr, if_pos hf]
        simp only [layV, hlt, he, Bool.not_false, Bool.or_true, hl]
        simp [hpn]
      | false =>
        have hf : foundS ((p :: r).map (·.1)) name = false := by
          unfold foundS at hfr ⊢
          rw [List.map_cons, List.any_cons, he, Bool.false_or]; exact hfr
        rw [hr, if_neg (by rw [hf]; decide)]
        simp only [layV, hlt, he, Bool.not_false, Bool.or_true, hl]
        simp [insL]
end
end Go.Proofs.YtbkmdlfenbfdlaaGreat
namespace Go.Proofs.YtbkmdlfenbfdlaaGreat
open Go Go.RowKit Go.Sort
set_option linter.unusedVariables false
attribute [local go_sem ↓] Go.wp_at_zero Go.wp_at_succ
/-- what holds while a model is made, but for the list that grows -/
structure TE (w : World) (next : Int) (A : Option Addr) (n c : Nat) (ov : Value) (wr : World) : Prop where
  md : Blk wr w.heap.size 26 #[.int .i64 next, .slice A n c]
  rs : Blk wr (w.heap.size + 1) 26 #[.int .i64 0, .slice none 0 0]
  out : Blk wr (w.heap.size + 2) 26 #[.int .i64 next, ov]
  bel : Below w.heap.size w wr
structure TW (w : World) (next : Int) (A : Option Addr) (n c : Nat) (ov : Value) (l : List (Nd × Leaf)) (wr : World) : Prop where
  e : TE w next A n c ov wr
  own : OwnM wr w.heap.size ov l
section
variable {w : World} {next : Int} {A : Option Addr} {n c : Nat} {ov : Value} {l : List (Nd × Leaf)} {X X' : World}
theorem TE.after (h : TE w next A n c ov X) (hb : Below X.heap.size X X') : TE w next A n c ov X' := ⟨h.md.after hb, h.rs.after hb, h.out.after hb, h.bel.trans (hb.mono h.bel.size)⟩
theorem TW.after (h : TW w next A n c ov l X) (hb : Below X.heap.size X X') : TW w next A n c ov l X' := ⟨h.e.after hb, h.own.after hb⟩
theorem TE.kept (h : TE w next A n c ov X) (hown : OwnN X w.heap.size ov l) (hg : X.grownBy X' ov.ownBlock) : TE w next A n c ov X' :=
  ⟨h.md.grown hg (Ne.symm (own_blk_ne hown h.md (by decide))), h.rs.grown hg (Ne.symm (own_blk_ne hown h.rs (by decide))), h.out.grown hg (Ne.symm (own_blk_ne hown h.out (by decide))), below_grows h.bel hg hown (Nat.le_refl _)⟩
theorem TE.out_set (h : TE w next A n c ov X) (u : Value) : TE w next A n c u (X.setCell ⟨w.heap.size + 2, 1, none⟩ u) :=
  ⟨h.md.far (by simp) u, h.rs.far (by simp) u, by simpa using h.out.set_ 1 u, h.bel.setCell (p := ⟨w.heap.size + 2, 1, none⟩) (by simp) u⟩
theorem TW.push {p : Nd × Leaf} {v' : Value} (h : TW w next A n c ov l X) (hg : X.grownBy X' ov.ownBlock) (hown : X'.ownsRow w.heap.size 41 7 v' (l.length + 1) (allCells l ++ ndCells p))
    (hp : OwnLeaf X w.heap.size p.1 p.2) : TW w next A n c v' (l ++ [p]) (X'.setCell ⟨w.heap.size + 2, 1, none⟩ v') := by
  have h1 := h.e.kept h.own.own hg
  have h2 := hp.kept h.own.own hg
  have hm : OwnM X' w.heap.size v' (l ++ [p]) := by
    refine ⟨?_, fun q hq => ?_⟩
    · unfold OwnN
      have e : allCells (l ++ [p]) = allCells l ++ ndCells p := by simp [allCells]
      rw [e, List.length_append, List.length_singleton]
      exact hown
    · rcases List.mem_append.1 hq with hq | hq
      · exact (h.own.leaf q hq).kept h.own.own hg
      · obtain rfl : q = p := by simpa using hq
        exact h2
  exact ⟨h1.out_set v', hm.other h1.out 1 v'⟩
end
end Go.Proofs.YtbkmdlfenbfdlaaGreat
namespace Go.Proofs.YtbkmdlfenbfdlaaGreat
open Go Go.RowKit Go.Sort
set_option linter.unusedVariables false
attribute [local go_sem ↓] Go.wp_at_zero Go.wp_at_succ
set_option maxHeartbeats 800000 in
theorem named_any (w : World) (parent at_ : Int) (role : ByteArray) (hs : role.size ≤ maxLen) (v : Bool) (hv : (parent == 0 || wordB role) = v) :
    Calls Tryz.prog 44 #[.agg #[.int .i64 parent, .string role, .int .i64 at_]] w (Ret w (.bool v)) := by
  have HB := Lib.hid (below_box w (.cells #[.int .i64 parent, .string role, .int .i64 at_] 78))
  cases d0 : (parent == 0) with
  | true =>
    have HX : Hid (v = true) := Lib.hid (by rw [← hv, d0]; rfl)
    clear hv hs
    go_enter Tryz.func44, Tryz.ntmps44
    go_wp2_with fail
    go_ret
    exact ret_b HX.out rfl HB.out
  | false =>
    have HX : Hid (wordB role = v) := Lib.hid (by rw [← hv, d0]; rfl)
    have HS := Lib.hid hs
    clear hv hs
    go_enter Tryz.func44, Tryz.ntmps44
    go_wp2_with (go_at_call 43; go_must (refine (word_is _ _ _ HS.out HX.out).mono ?_; rintro e w' ⟨rfl, rfl⟩))
    go_ret
    exact ret_b rfl rfl HB.out
set_option maxHeartbeats 1600000 in
/-- where the parent is no node -/
theorem admits_none (w : World) (hi : Nat) (next parent at_ : Int) (role : ByteArray) (L M : Nat) (A : Option Addr) (n c : Nat) (nds : List Nd) (h : NodesIn w 0 hi A n c nds) (hh : hi ≤ w.heap.size) (hr : Rise nds) (hn : n ≤ 4096) (hp : ndOf nds parent = none) (h0 : parent ≠ 0) :
    Calls Tryz.prog 45 #[.agg #[.int .i64 parent, .string role, .int .i64 at_], .agg #[.int .i64 next, .slice A n c], .int .i64 L, .int .i64 M] w (Ret w (.tuple #[.int .i64 0, .int .i64 20])) := by
  have HM0 := Lib.hid (SM.start w parent role at_ next A n c)
  have hx : (ixOf nds parent).isSome = false := by
    cases hx : ixOf nds parent with
    | none => rfl
    | some i =>
      obtain ⟨nd, h1, _⟩ := ixOf_some hx
      unfold ndOf at hp
      rw [hx] at hp
      rw [show (some i).bind (fun x => nds[x]?) = nds[i]? from rfl, h1] at hp
      cases hp
  have hha := has_any _ hi next parent A n c nds (h.below (HM0.out.bel.mono hh)) (Nat.le_trans hh HM0.out.bel.size) hr hn
  rw [hx] at hha
  have HHas := Lib.hid hha
  have d0 : (parent != 0) = true := by rw [bne_iff_ne]; exact h0
  clear h hx hp h0 hha
  go_enter Tryz.func45, Tryz.ntmps45
  go_wp2_with (go_at_call 40; go_must (refine HHas.out.mono ?_; rintro e w1 ⟨rfl, hb1⟩; have HM1 := Lib.hid (HM0.out.after hb1); clear hb1))
  go_ret2
  exact ret_mk rfl HM1.out.bel
set_option maxRecDepth 20000 in
set_option maxHeartbeats 3200000 in
/-- .. where it is one, or where a root is to stand -/
theorem admits_some (w : World) (next parent at_ : Int) (role : ByteArray) (L M K : Nat) (A : Option Addr) (n c : Nat) (hc : c ≤ maxLen) (hn : n ≤ 4096) (hn1 : 1 ≤ next) (hn2 : next ≤ 1048577) (hL : L ≤ 65) (hM : M ≤ 8192) (hK : K ≤ 64) (a : Int) (ok : Bool)
    (HHas : Hid (∀ X, Below w.heap.size w X → Calls Tryz.prog 40 #[.agg #[.int .i64 next, .slice A n c], .int .i64 parent] X (Ret X (.bool (parent != 0)))))
    (HAm : Hid (∀ X, Below w.heap.size w X → Calls Tryz.prog 83 #[.agg #[.int .i64 parent, .string role, .int .i64 at_], .agg #[.int .i64 next, .slice A n c]] X (Ret X (.tuple #[.int .i64 a, .bool ok]))))
    (HDe : Hid (∀ X, Below w.heap.size w X → Calls Tryz.prog 60 #[.agg #[.int .i64 next, .slice A n c], .int .i64 parent] X (Ret X (.int .i64 K))))
    (r : Int × Int) (hr : (if ok = false then (0, 22) else if 64 < K + L then (0, 23) else if 4096 < n + M then (0, 4) else if 1048576 < next - 1 + M then (0, 4) else (a, 0)) = r) :
    Calls Tryz.prog 45 #[.agg #[.int .i64 parent, .string role, .int .i64 at_], .agg #[.int .i64 next, .slice A n c], .int .i64 L, .int .i64 M] w (Ret w (.tuple #[.int .i64 r.1, .int .i64 r.2])) := by
  unfold maxLen at hc
  have HM0 := Lib.hid (SM.start w parent role at_ next A n c)
  cases d0 : (parent != 0) with
  | true =>
    rw [d0] at HHas
    cases hok : ok with
    | false =>
      have HE : Hid ((0, 22) = r) := Lib.hid (by rw [← hr, hok]; rfl)
      subst hok
      clear hr
      go_enter Tryz.func45, Tryz.ntmps45
      go_wp2_with (first | (go_at_call 40; go_must (refine (HHas.out _ HM0.out.bel).mono ?_; rintro e w1 ⟨rfl, hb1⟩; have hm1 := HM0.out.after hb1; have s10 := hm1.s.cell 0; have s11 := hm1.s.cell 1; have s12 := hm1.s.cell 2; have m10 := hm1.m.cell 0; have m11 := hm1.m.cell 1; simp at s10 s11 s12 m10 m11; have HM1 := Lib.hid hm1; clear hm1 hb1)) | (go_at_call 83; go_must (refine (HAm.out _ HM1.out.bel).mono ?_; rintro e w2 ⟨rfl, hb2⟩; have hm2 := HM1.out.after hb2; have s20 := hm2.s.cell 0; have s21 := hm2.s.cell 1; have s22 := hm2.s.cell 2; have m20 := hm2.m.cell 0; have m21 := hm2.m.cell 1; simp at s20 s21 s22 m20 m21; have HM2 := Lib.hid hm2; clear hm2 hb2)))
      go_ret2
      obtain rfl := HE.out
      exact ret_mk rfl HM2.out.bel
    | true =>
      subst hok
      by_cases e3 : 64 < K + L
      · have HE : Hid ((0, 23) = r) := Lib.hid (by rw [← hr]; simp [e3])
        have d3 : decide ((64 : Int) < (K : Int) + (L : Int)) = true := by rw [decide_eq_true_eq]; omega
        clear hr
        go_enter Tryz.func45, Tryz.ntmps45
        go_wp2_with (first | (go_at_call 40; go_must (refine (HHas.out _ HM0.out.bel).mono ?_; rintro e w1 ⟨rfl, hb1⟩; have hm1 := HM0.out.after hb1; have s10 := hm1.s.cell 0; have s11 := hm1.s.cell 1; have s12 := hm1.s.cell 2; have m10 := hm1.m.cell 0; have m11 := hm1.m.cell 1; simp at s10 s11 s12 m10 m11; have HM1 := Lib.hid hm1; clear hm1 hb1)) | (go_at_call 83; go_must (refine (HAm.out _ HM1.out.bel).mono ?_; rintro e w2 ⟨rfl, hb2⟩; have hm2 := HM1.out.after hb2; have s20 := hm2.s.cell 0; have s21 := hm2.s.cell 1; have s22 := hm2.s.cell 2; have m20 := hm2.m.cell 0; have m21 := hm2.m.cell 1; simp at s20 s21 s22 m20 m21; have HM2 := Lib.hid hm2; clear hm2 hb2)) | (go_at_call 60; go_must (refine (HDe.out _ HM2.out.bel).mono ?_; rintro e w3 ⟨rfl, hb3⟩; have hm3 := HM2.out.after hb3; have s30 := hm3.s.cell 0; have s31 := hm3.s.cell 1; have s32 := hm3.s.cell 2; have m30 := hm3.m.cell 0; have m31 := hm3.m.cell 1; simp at s30 s31 s32 m30 m31; have HM3 := Lib.hid hm3; clear hm3 hb3)))
        go_ret2
        obtain rfl := HE.out
        exact ret_mk rfl HM3.out.bel
      · have d3 : decide ((64 : Int) < (K : Int) + (L : Int)) = false := by rw [decide_eq_false_iff_not]; omega
        by_cases e4 : 4096 < n + M
        · have HE : Hid ((0, 4) = r) := Lib.hid (by rw [← hr]; simp [e3, e4])
          have d4 : decide ((4096 : Int) < (n : Int) + (M : Int)) = true := by rw [decide_eq_true_eq]; omega
          clear hr
          go_enter Tryz.func45, Tryz.ntmps45
          go_wp2_with (first | (go_at_call 40; go_must (refine (HHas.out _ HM0.out.bel).mono ?_; rintro e w1 ⟨rfl, hb1⟩; have hm1 := HM0.out.after hb1; have s10 := hm1.s.cell 0; have s11 := hm1.s.cell 1; have s12 := hm1.s.cell 2; have m10 := hm1.m.cell 0; have m11 := hm1.m.cell 1; simp at s10 s11 s12 m10 m11; have HM1 := Lib.hid hm1; clear hm1 hb1)) | (go_at_call 83; go_must (refine (HAm.out _ HM1.out.bel).mono ?_; rintro e w2 ⟨rfl, hb2⟩; have hm2 := HM1.out.after hb2; have s20 := hm2.s.cell 0; have s21 := hm2.s.cell 1; have s22 := hm2.s.cell 2; have m20 := hm2.m.cell 0; have m21 := hm2.m.cell 1; simp at s20 s21 s22 m20 m21; have HM2 := Lib.hid hm2; clear hm2 hb2)) | (go_at_call 60; go_must (refine (HDe.out _ HM2.out.bel).mono ?_; rintro e w3 ⟨rfl, hb3⟩; have hm3 := HM2.out.after hb3; have s30 := hm3.s.cell 0; have s31 := hm3.s.cell 1; have s32 := hm3.s.cell 2; have m30 := hm3.m.cell 0; have m31 := hm3.m.cell 1; simp at s30 s31 s32 m30 m31; have HM3 := Lib.hid hm3; clear hm3 hb3)))
          go_ret2
          obtain rfl := HE.out
          exact ret_mk rfl HM3.out.bel
        · have d4 : decide ((4096 : Int) < (n : Int) + (M : Int)) = false := by rw [decide_eq_false_iff_not]; omega
          by_cases e5 : 1048576 < next - 1 + M
          · have HE : Hid ((0, 4) = r) := Lib.hid (by rw [← hr]; simp [e3, e4, e5])
            have d5 : decide ((1048576 : Int) < next - 1 + (M : Int)) = true := by rw [decide_eq_true_eq]; omega
            clear hr
            go_enter Tryz.func45, Tryz.ntmps45
            go_wp2_with (first | (go_at_call 40; go_must (refine (HHas.out _ HM0.out.bel).mono ?_; rintro e w1 ⟨rfl, hb1⟩; have hm1 := HM0.out.after hb1; have s10 := hm1.s.cell 0; have s11 := hm1.s.cell 1; have s12 := hm1.s.cell 2; have m10 := hm1.m.cell 0; have m11 := hm1.m.cell 1; simp at s10 s11 s12 m10 m11; have HM1 := Lib.hid hm1; clear hm1 hb1)) | (go_at_call 83; go_must (refine (HAm.out _ HM1.out.bel).mono ?_; rintro e w2 ⟨rfl, hb2⟩; have hm2 := HM1.out.after hb2; have s20 := hm2.s.cell 0; have s21 := hm2.s.cell 1; have s22 := hm2.s.cell 2; have m20 := hm2.m.cell 0; have m21 := hm2.m.cell 1; simp at s20 s21 s22 m20 m21; have HM2 := Lib.hid hm2; clear hm2 hb2)) | (go_at_call 60; go_must (refine (HDe.out _ HM2.out.bel).mono ?_; rintro e w3 ⟨rfl, hb3⟩; have hm3 := HM2.out.after hb3; have s30 := hm3.s.cell 0; have s31 := hm3.s.cell 1; have s32 := hm3.s.cell 2; have m30 := hm3.m.cell 0; have m31 := hm3.m.cell 1; simp at s30 s31 s32 m30 m31; have HM3 := Lib.hid hm3; clear hm3 hb3)))
            go_ret2
            obtain rfl := HE.out
            exact ret_mk rfl HM3.out.bel
          · have HE : Hid ((a, 0) = r) := Lib.hid (by rw [← hr]; simp [e3, e4, e5])
            have d5 : decide ((1048576 : Int) < next - 1 + (M : Int)) = false := by rw [decide_eq_false_iff_not]; omega
            clear hr
            go_enter Tryz.func45, Tryz.ntmps45
            go_wp2_with (first | (go_at_call 40; go_must (refine (HHas.out _ HM0.out.bel).mono ?_; rintro e w1 ⟨rfl, hb1⟩; have hm1 := HM0.out.after hb1; have s10 := hm1.s.cell 0; have s11 := hm1.s.cell 1; have s12 := hm1.s.cell 2; have m10 := hm1.m.cell 0; have m11 := hm1.m.cell 1; simp at s10 s11 s12 m10 m11; have HM1 := Lib.hid hm1; clear hm1 hb1)) | (go_at_call 83; go_must (refine (HAm.out _ HM1.out.bel).mono ?_; rintro e w2 ⟨rfl, hb2⟩; have hm2 := HM1.out.after hb2; have s20 := hm2.s.cell 0; have s21 := hm2.s.cell 1; have s22 := hm2.s.cell 2; have m20 := hm2.m.cell 0; have m21 := hm2.m.cell 1; simp at s20 s21 s22 m20 m21; have HM2 := Lib.hid hm2; clear hm2 hb2)) | (go_at_call 60; go_must (refine (HDe.out _ HM2.out.bel).mono ?_; rintro e w3 ⟨rfl, hb3⟩; have hm3 := HM2.out.after hb3; have s30 := hm3.s.cell 0; have s31 := hm3.s.cell 1; have s32 := hm3.s.cell 2; have m30 := hm3.m.cell 0; have m31 := hm3.m.cell 1; simp at s30 s31 s32 m30 m31; have HM3 := Lib.hid hm3; clear hm3 hb3)))
            go_ret2
            obtain rfl := HE.out
            exact ret_mk rfl HM3.out.bel
  | false =>
    clear HHas
    cases hok : ok with
    | false =>
      have HE : Hid ((0, 22) = r) := Lib.hid (by rw [← hr, hok]; rfl)
      subst hok
      clear hr
      go_enter Tryz.func45, Tryz.ntmps45
      go_wp2_with (first | (go_at_call 83; go_must (refine (HAm.out _ HM0.out.bel).mono ?_; rintro e w2 ⟨rfl, hb2⟩; have hm2 := HM0.out.after hb2; have s20 := hm2.s.cell 0; have s21 := hm2.s.cell 1; have s22 := hm2.s.cell 2; have m20 := hm2.m.cell 0; have m21 := hm2.m.cell 1; simp at s20 s21 s22 m20 m21; have HM2 := Lib.hid hm2; clear hm2 hb2)))
      go_ret2
      obtain rfl := HE.out
      exact ret_mk rfl HM2.out.bel
    | true =>
      subst hok
      by_cases e3 : 64 < K + L
      · have HE : Hid ((0, 23) = r) := Lib.hid (by rw [← hr]; simp [e3])
        have d3 : decide ((64 : Int) < (K : Int) + (L : Int)) = true := by rw [decide_eq_true_eq]; omega
        clear hr
        go_enter Tryz.func45, Tryz.ntmps45
        go_wp2_with (first | (go_at_call 83; go_must (refine (HAm.out _ HM0.out.bel).mono ?_; rintro e w2 ⟨rfl, hb2⟩; have hm2 := HM0.out.after hb2; have s20 := hm2.s.cell 0; have s21 := hm2.s.cell 1; have s22 := hm2.s.cell 2; have m20 := hm2.m.cell 0; have m21 := hm2.m.cell 1; simp at s20 s21 s22 m20 m21; have HM2 := Lib.hid hm2; clear hm2 hb2)) | (go_at_call 60; go_must (refine (HDe.out _ HM2.out.bel).mono ?_; rintro e w3 ⟨rfl, hb3⟩; have hm3 := HM2.out.after hb3; have s30 := hm3.s.cell 0; have s31 := hm3.s.cell 1; have s32 := hm3.s.cell 2; have m30 := hm3.m.cell 0; have m31 := hm3.m.cell 1; simp at s30 s31 s32 m30 m31; have HM3 := Lib.hid hm3; clear hm3 hb3)))
        go_ret2
        obtain rfl := HE.out
        exact ret_mk rfl HM3.out.bel
      · have d3 : decide ((64 : Int) < (K : Int) + (L : Int)) = false := by rw [decide_eq_false_iff_not]; omega
        by_cases e4 : 4096 < n + M
        · have HE : Hid ((0, 4) = r) := Lib.hid (by rw [← hr]; simp [e3, e4])
          have d4 : decide ((4096 : Int) < (n : Int) + (M : Int)) = true := by rw [decide_eq_true_eq]; omega
          clear hr
          go_enter Tryz.func45, Tryz.ntmps45
          go_wp2_with (first | (go_at_call 83; go_must (refine (HAm.out _ HM0.out.bel).mono ?_; rintro e w2 ⟨rfl, hb2⟩; have hm2 := HM0.out.after hb2; have s20 := hm2.s.cell 0; have s21 := hm2.s.cell 1; have s22 := hm2.s.cell 2; have m20 := hm2.m.cell 0; have m21 := hm2.m.cell 1; simp at s20 s21 s22 m20 m21; have HM2 := Lib.hid hm2; clear hm2 hb2)) | (go_at_call 60; go_must (refine (HDe.out _ HM2.out.bel).mono ?_; rintro e w3 ⟨rfl, hb3⟩; have hm3 := HM2.out.after hb3; have s30 := hm3.s.cell 0; have s31 := hm3.s.cell 1; have s32 := hm3.s.cell 2; have m30 := hm3.m.cell 0; have m31 := hm3.m.cell 1; simp at s30 s31 s32 m30 m31; have HM3 := Lib.hid hm3; clear hm3 hb3)))
          go_ret2
          obtain rfl := HE.out
          exact ret_mk rfl HM3.out.bel
        · have d4 : decide ((4096 : Int) < (n : Int) + (M : Int)) = false := by rw [decide_eq_false_iff_not]; omega
          by_cases e5 : 1048576 < next - 1 + M
          · have HE : Hid ((0, 4) = r) := Lib.hid (by rw [← hr]; simp [e3, e4, e5])
            have d5 : decide ((1048576 : Int) < next - 1 + (M : Int)) = true := by rw [decide_eq_true_eq]; omega
            clear hr
            go_enter Tryz.func45, Tryz.ntmps45
            go_wp2_with (first | (go_at_call 83; go_must (refine (HAm.out _ HM0.out.bel).mono ?_; rintro e w2 ⟨rfl, hb2⟩; have hm2 := HM0.out.after hb2; have s20 := hm2.s.cell 0; have s21 := hm2.s.cell 1; have s22 := hm2.s.cell 2; have m20 := hm2.m.cell 0; have m21 := hm2.m.cell 1; simp at s20 s21 s22 m20 m21; have HM2 := Lib.hid hm2; clear hm2 hb2)) | (go_at_call 60; go_must (refine (HDe.out _ HM2.out.bel).mono ?_; rintro e w3 ⟨rfl, hb3⟩; have hm3 := HM2.out.after hb3; have s30 := hm3.s.cell 0; have s31 := hm3.s.cell 1; have s32 := hm3.s.cell 2; have m30 := hm3.m.cell 0; have m31 := hm3.m.cell 1; simp at s30 s31 s32 m30 m31; have HM3 := Lib.hid hm3; clear hm3 hb3)))
            go_ret2
            obtain rfl := HE.out
            exact ret_mk rfl HM3.out.bel
          · have HE : Hid ((a, 0) = r) := Lib.hid (by rw [← hr]; simp [e3, e4, e5])
            have d5 : decide ((1048576 : Int) < next - 1 + (M : Int)) = false := by rw [decide_eq_false_iff_not]; omega
            clear hr
            go_enter Tryz.func45, Tryz.ntmps45
            go_wp2_with (first | (go_at_call 83; go_must (refine (HAm.out _ HM0.out.bel).mono ?_; rintro e w2 ⟨rfl, hb2⟩; have hm2 := HM0.out.after hb2; have s20 := hm2.s.cell 0; have s21 := hm2.s.cell 1; have s22 := hm2.s.cell 2; have m20 := hm2.m.cell 0; have m21 := hm2.m.cell 1; simp at s20 s21 s22 m20 m21; have HM2 := Lib.hid hm2; clear hm2 hb2)) | (go_at_call 60; go_must (refine (HDe.out _ HM2.out.bel).mono ?_; rintro e w3 ⟨rfl, hb3⟩; have hm3 := HM2.out.after hb3; have s30 := hm3.s.cell 0; have s31 := hm3.s.cell 1; have s32 := hm3.s.cell 2; have m30 := hm3.m.cell 0; have m31 := hm3.m.cell 1; simp at s30 s31 s32 m30 m31; have HM3 := Lib.hid hm3; clear hm3 hb3)))
            go_ret2
            obtain rfl := HE.out
            exact ret_mk rfl HM3.out.bel
end Go.Proofs.YtbkmdlfenbfdlaaGreat

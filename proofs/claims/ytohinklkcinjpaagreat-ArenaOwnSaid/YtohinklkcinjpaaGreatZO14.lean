/-
  WALKS: Put and Aim.
  PLAIN: names that rise; the list that the document's loops lay, and the one with a name laid on or taken away.
  WALKS: the document's: a model in memory of its own.
-/
import Derived.Test.YtohinklkcinjpaaGreatZO13
namespace Go.Proofs.YtohinklkcinjpaaGreat
open Go Go.RowKit Go.Sort
set_option linter.unusedVariables false
attribute [local go_sem ↓] Go.wp_at_zero Go.wp_at_succ
/-- the errors that Put and Aim tell ahead -/
def putE (next : Int) (nds : List Nd) (name val : ByteArray) : Int := if nameE next nds name = 0 then (if 4096 < val.size then 3 else 0) else nameE next nds name
def aimE (next : Int) (nds : List Nd) (name : ByteArray) (target : Int) : Int := if nameE next nds name = 0 then (if (ixOf nds target).isSome = true then 0 else 20) else nameE next nds name
theorem put_change (w : World) (n : Nat) (nd : Nd) (bn bv : Nat) (name : ByteArray) (val : ByteArray) (hv : val.size ≤ maxLen) (hb : Blk w bn 9 #[.string name]) (hbv : Blk w bv 9 #[.string val]) (hs : SortS (nd.props.map (·.1))) (hfit : Fits 1 nd) (hsn : name.size ≤ maxLen) :
    Change w n 63 #[.pointer (some ⟨bn, 0, none⟩), .pointer (some ⟨bv, 0, none⟩)] nd (putN nd name val) := by
  cases hfd : foundS (nd.props.map (·.1)) name with
  | true => exact put_found w n nd bn bv name val hv hb hbv hs hfit hfd
  | false => exact put_new w n nd bn bv name val hv hb hbv hs hfit hfd hsn
theorem putE_zero {next : Int} {nds : List Nd} {name : ByteArray} {val : ByteArray} (h : putE next nds name val = 0) : rightB next nds = true := by
  unfold putE at h
  split at h
  · exact nameE_zero (by assumption)
  · contradiction
set_option maxRecDepth 20000 in
set_option maxHeartbeats 3200000 in
theorem arenaPut_any (w : World) (hi : Nat) (next id : Int) (A : Option Addr) (n c : Nat) (nds : List Nd) (name : ByteArray) (val : ByteArray) (hv : val.size ≤ maxLen) (h : NodesIn w 0 hi A n c nds) (hh : hi ≤ w.heap.size) (hsn : name.size ≤ maxLen)
    (hr : rightB next nds = true → Rise nds ∧ n ≤ 4096 ∧ (∀ nd ∈ nds, Fits 1 nd) ∧ ∀ nd ∈ nds, SortS (nd.props.map (·.1))) :
    Calls Tryz.prog 29 #[.agg #[.int .i64 next, .slice A n c], .int .i64 id, .string name, .string val] w (SetPost w next (chE (putE next nds name val) nds id) (chL nds id (fun nd => putN nd name val))) := by
  have hB0 : Below w.heap.size w ((((w.alloc (.cells #[.int .i64 next, .slice A n c] 26)).alloc (.cells #[.string name] 9)).alloc (.cells #[.string val] 9)).alloc (.cells #[.int .i64 0, .slice none 0 0] 26)) := below_more (below_more (below_more (below_more (Below.refl _ _) _) _) _) _
  have hM0 : Blk ((((w.alloc (.cells #[.int .i64 next, .slice A n c] 26)).alloc (.cells #[.string name] 9)).alloc (.cells #[.string val] 9)).alloc (.cells #[.int .i64 0, .slice none 0 0] 26)) w.heap.size 26 #[.int .i64 next, .slice A n c] := (((Blk.new _ _ _).alloc _).alloc _).alloc _
  have hS0 : Blk ((((w.alloc (.cells #[.int .i64 next, .slice A n c] 26)).alloc (.cells #[.string name] 9)).alloc (.cells #[.string val] 9)).alloc (.cells #[.int .i64 0, .slice none 0 0] 26)) (w.heap.size + 1) 9 #[.string name] := ((Blk.new' (by simp)).alloc _).alloc _
  have hV0 : Blk ((((w.alloc (.cells #[.int .i64 next, .slice A n c] 26)).alloc (.cells #[.string name] 9)).alloc (.cells #[.string val] 9)).alloc (.cells #[.int .i64 0, .slice none 0 0] 26)) (w.heap.size + 1 + 1) 9 #[.string val] := (Blk.new' (by simp)).alloc _
  have hR0 : Blk ((((w.alloc (.cells #[.int .i64 next, .slice A n c] 26)).alloc (.cells #[.string name] 9)).alloc (.cells #[.string val] 9)).alloc (.cells #[.int .i64 0, .slice none 0 0] 26)) (w.heap.size + 1 + 1 + 1) 26 #[.int .i64 0, .slice none 0 0] := Blk.new' (by simp)
  have HH := Lib.hid h
  have HRR := Lib.hid hr
  have HE : Hid (putE next nds name val = putE next nds name val) := Lib.hid rfl
  clear h hr
  go_enter Tryz.func29, Tryz.ntmps29
  go_upto_region 1 with fail
  generalize ((((w.alloc (.cells #[.int .i64 next, .slice A n c] 26)).alloc (.cells #[.string name] 9)).alloc (.cells #[.string val] 9)).alloc (.cells #[.int .i64 0, .slice none 0 0] 26)) = W at hB0 hM0 hS0 hV0 hR0 ⊢
  have HSS : Hid (∀ Y, Below W.heap.size W Y → Y.cell? ⟨w.heap.size, 0, none⟩ = some (.int .i64 next) ∧ Y.cell? ⟨w.heap.size, 1, none⟩ = some (.slice A n c) ∧ Y.cell? ⟨w.heap.size + 1, 0, none⟩ = some (.string name) ∧ Y.cell? ⟨w.heap.size + 1 + 1, 0, none⟩ = some (.string val) ∧ Y.cell? ⟨w.heap.size + 1 + 1 + 1, 0, none⟩ = some (.int .i64 0) ∧ Y.cell? ⟨w.heap.size + 1 + 1 + 1, 1, none⟩ = some (.slice none 0 0) ∧ Y.frozen? ⟨w.heap.size + 1 + 1 + 1, 0, none⟩ = false ∧ Y.frozen? ⟨w.heap.size + 1 + 1 + 1, 1, none⟩ = false) :=
    Lib.hid fun Y hY => ⟨((hM0.after hY).cell 0).trans rfl, ((hM0.after hY).cell 1).trans rfl, ((hS0.after hY).cell 0).trans rfl, ((hV0.after hY).cell 0).trans rfl, ((hR0.after hY).cell 0).trans rfl, ((hR0.after hY).cell 1).trans rfl, (hR0.after hY).frozen 0, (hR0.after hY).frozen 1⟩
  have HNm := Lib.hid (nameable_any W hi next name A n c nds (HH.out.below (hB0.mono hh)) (Nat.le_trans hh hB0.size) hsn)
  have HCg := Lib.hid fun (Y : World) (hY : Below W.heap.size W Y) => changed_post Y hi next id (putE next nds name val) A n c nds 63 #[.pointer (some ⟨w.heap.size + 1, 0, none⟩), .pointer (some ⟨w.heap.size + 1 + 1, 0, none⟩)] (fun nd => putN nd name val) (HH.out.below ((hB0.trans (hY.mono hB0.size)).mono hh)) (Nat.le_trans hh (hB0.trans (hY.mono hB0.size)).size)
    (fun h0 => ⟨(HRR.out (putE_zero h0)).1, (HRR.out (putE_zero h0)).2.1, (HRR.out (putE_zero h0)).2.2.1⟩) (fun _ _ => rfl) (fun h0 nd hnd => put_change Y n nd (w.heap.size + 1) (w.heap.size + 1 + 1) name val hv (hS0.after hY) (hV0.after hY) ((HRR.out (putE_zero h0)).2.2.2 nd hnd) ((HRR.out (putE_zero h0)).2.2.1 nd hnd) hsn)
  obtain ⟨b1, b2, b3, b4, b5, b6, b7, b8⟩ := HSS.out W (Below.refl _ _)
  have HB0 := Lib.hid hB0
  have HR0 := Lib.hid hR0
  clear hB0 hM0 hS0 hV0 hR0 HE
  by_cases h0 : nameE next nds name = 0
  · have hrt := nameE_zero h0
    rw [h0] at HNm
    by_cases h4 : 4096 < val.size
    · have hE : putE next nds name val = 3 := by unfold putE; rw [if_pos h0, if_pos h4]
      rw [hE] at HCg
      have h5 : (4096 : Int) < (val.size : Int) := by omega
      have HEE := Lib.hid hE
      clear h0 h4 hE hrt
      go_wp2_with (first | (go_at_call 61; go_must (refine HNm.out.mono ?_; rintro e Y2 ⟨rfl, hb2⟩; have HBW := Lib.hid hb2; obtain ⟨r1, r2, r3, r4, r5, r6, r7, r8⟩ := HSS.out _ hb2; clear hb2)) | (go_at_call 62; go_must (refine (HCg.out _ HBW.out).mono ?_; rintro e Y6 ⟨nx6, A6, n6, c6, rfl, hb6, hne6, hok6⟩; have HZ := Lib.hid HBW.out.size; replace HBW := Lib.hid (HBW.out.trans (hb6.mono HBW.out.size)); have HNE := Lib.hid hne6; have HOK := Lib.hid hok6; obtain ⟨t1, t2, t3, t4, t5, t6, t7, t8⟩ := HSS.out _ HBW.out; clear hb6 hne6 hok6)))
      (try rw [Exit.noGoto_ret])
      (try simp only [Exit.inBlock, Exit.then])
      have hres : Tryz.f29.results = #[.cell 8 26, .tmp 9] := by kernel_rfl
      refine bodyPost_ret (v := .tuple #[.agg #[.int .i64 nx6, .slice A6 n6 c6], .int .i64 (chE 3 nds id)]) ?hr rfl ?_
      case hr =>
        simp only [results, hres]
        go_simp
      have hR := HR0.out.after HBW.out
      have hzz : w.heap.size ≤ W.heap.size := HB0.out.size
      show SetPost _ _ _ _ _ _
      rw [HEE.out]
      refine ⟨nx6, A6, n6, c6, rfl, ?_, HNE.out, fun h0 => ?_⟩
      · exact ((HB0.out.trans (HBW.out.mono hzz)).setCell (p := ⟨w.heap.size + 1 + 1 + 1, 0, none⟩) (by simp only; omega) _).setCell (p := ⟨w.heap.size + 1 + 1 + 1, 1, none⟩) (by simp only; omega) _
      · obtain ⟨h1, l, h2, h3, h4⟩ := HOK.out h0
        exact ⟨h1, l, ((h2.mono (Nat.le_trans hzz HZ.out)).other hR 0 _).other (hR.set_ 0 _) 1 _, h3, h4⟩
    · have hE : putE next nds name val = 0 := by unfold putE; rw [if_pos h0, if_neg h4]
      rw [hE] at HCg
      have h5 : ¬ (4096 : Int) < (val.size : Int) := by omega
      have h6 : (val.size : Int) ≤ 4096 := by omega
      have HEE := Lib.hid hE
      clear h0 h4 hE hrt
      go_wp2_with (first | (go_at_call 61; go_must (refine HNm.out.mono ?_; rintro e Y2 ⟨rfl, hb2⟩; have HBW := Lib.hid hb2; obtain ⟨r1, r2, r3, r4, r5, r6, r7, r8⟩ := HSS.out _ hb2; clear hb2)) | (go_at_call 62; go_must (refine (HCg.out _ HBW.out).mono ?_; rintro e Y6 ⟨nx6, A6, n6, c6, rfl, hb6, hne6, hok6⟩; have HZ := Lib.hid HBW.out.size; replace HBW := Lib.hid (HBW.out.trans (hb6.mono HBW.out.size)); have HNE := Lib.hid hne6; have HOK := Lib.hid hok6; obtain ⟨t1, t2, t3, t4, t5, t6, t7, t8⟩ := HSS.out _ HBW.out; clear hb6 hne6 hok6)))
      (try rw [Exit.noGoto_ret])
      (try simp only [Exit.inBlock, Exit.then])
      have hres : Tryz.f29.results = #[.cell 8 26, .tmp 9] := by kernel_rfl
      refine bodyPost_ret (v := .tuple #[.agg #[.int .i64 nx6, .slice A6 n6 c6], .int .i64 (chE 0 nds id)]) ?hr rfl ?_
      case hr =>
        simp only [results, hres]
        go_simp
      have hR := HR0.out.after HBW.out
      have hzz : w.heap.size ≤ W.heap.size := HB0.out.size
      show SetPost _ _ _ _ _ _
      rw [HEE.out]
      refine ⟨nx6, A6, n6, c6, rfl, ?_, HNE.out, fun h0 => ?_⟩
      · exact ((HB0.out.trans (HBW.out.mono hzz)).setCell (p := ⟨w.heap.size + 1 + 1 + 1, 0, none⟩) (by simp only; omega) _).setCell (p := ⟨w.heap.size + 1 + 1 + 1, 1, none⟩) (by simp only; omega) _
      · obtain ⟨h1, l, h2, h3, h4⟩ := HOK.out h0
        exact ⟨h1, l, ((h2.mono (Nat.le_trans hzz HZ.out)).other hR 0 _).other (hR.set_ 0 _) 1 _, h3, h4⟩
  · have hE : putE next nds name val = nameE next nds name := by unfold putE; rw [if_neg h0]
    rw [hE] at HCg
    generalize nameE next nds name = e0 at HNm HCg h0 hE
    have HEE := Lib.hid hE
    have d0 : (e0 == 0) = false := by rw [beq_eq_false_iff_ne]; exact h0
    clear hE
    go_wp2_with (first | (go_at_call 61; go_must (refine HNm.out.mono ?_; rintro e Y2 ⟨rfl, hb2⟩; have HBW := Lib.hid hb2; obtain ⟨r1, r2, r3, r4, r5, r6, r7, r8⟩ := HSS.out _ hb2; clear hb2)) | (go_at_call 62; go_must (refine (HCg.out _ HBW.out).mono ?_; rintro e Y6 ⟨nx6, A6, n6, c6, rfl, hb6, hne6, hok6⟩; have HZ := Lib.hid HBW.out.size; replace HBW := Lib.hid (HBW.out.trans (hb6.mono HBW.out.size)); have HNE := Lib.hid hne6; have HOK := Lib.hid hok6; obtain ⟨t1, t2, t3, t4, t5, t6, t7, t8⟩ := HSS.out _ HBW.out; clear hb6 hne6 hok6)))
    (try rw [Exit.noGoto_ret])
    (try simp only [Exit.inBlock, Exit.then])
    have hres : Tryz.f29.results = #[.cell 8 26, .tmp 9] := by kernel_rfl
    refine bodyPost_ret (v := .tuple #[.agg #[.int .i64 nx6, .slice A6 n6 c6], .int .i64 (chE e0 nds id)]) ?hr rfl ?_
    case hr =>
      simp only [results, hres]
      go_simp
    have hR := HR0.out.after HBW.out
    have hzz : w.heap.size ≤ W.heap.size := HB0.out.size
    show SetPost _ _ _ _ _ _
    rw [HEE.out]
    refine ⟨nx6, A6, n6, c6, rfl, ?_, HNE.out, fun h0 => ?_⟩
    · exact ((HB0.out.trans (HBW.out.mono hzz)).setCell (p := ⟨w.heap.size + 1 + 1 + 1, 0, none⟩) (by simp only; omega) _).setCell (p := ⟨w.heap.size + 1 + 1 + 1, 1, none⟩) (by simp only; omega) _
    · obtain ⟨h1, l, h2, h3, h4⟩ := HOK.out h0
      exact ⟨h1, l, ((h2.mono (Nat.le_trans hzz HZ.out)).other hR 0 _).other (hR.set_ 0 _) 1 _, h3, h4⟩
theorem aim_change (w : World) (n : Nat) (nd : Nd) (bn bv : Nat) (name : ByteArray) (val : Int)  (hb : Blk w bn 9 #[.string name]) (hbv : Blk w bv 3 #[.int .i64 val]) (hs : SortS (nd.refs.map (·.1))) (hfit : Fits 1 nd) (hsn : name.size ≤ maxLen) :
    Change w n 66 #[.pointer (some ⟨bn, 0, none⟩), .pointer (some ⟨bv, 0, none⟩)] nd (aimN nd name val) := by
  cases hfd : foundS (nd.refs.map (·.1)) name with
  | true => exact aim_found w n nd bn bv name val  hb hbv hs hfit hfd
  | false => exact aim_new w n nd bn bv name val  hb hbv hs hfit hfd hsn
theorem aimE_zero {next : Int} {nds : List Nd} {name : ByteArray} {val : Int} (h : aimE next nds name val = 0) : rightB next nds = true := by
  unfold aimE at h
  split at h
  · exact nameE_zero (by assumption)
  · contradiction
set_option maxRecDepth 20000 in
set_option maxHeartbeats 3200000 in
theorem aim_any (w : World) (hi : Nat) (next id : Int) (A : Option Addr) (n c : Nat) (nds : List Nd) (name : ByteArray) (val : Int)  (h : NodesIn w 0 hi A n c nds) (hh : hi ≤ w.heap.size) (hsn : name.size ≤ maxLen)
    (hr : rightB next nds = true → Rise nds ∧ n ≤ 4096 ∧ (∀ nd ∈ nds, Fits 1 nd) ∧ ∀ nd ∈ nds, SortS (nd.refs.map (·.1))) :
    Calls Tryz.prog 30 #[.agg #[.int .i64 next, .slice A n c], .int .i64 id, .string name, .int .i64 val] w (SetPost w next (chE (aimE next nds name val) nds id) (chL nds id (fun nd => aimN nd name val))) := by
  have hB0 : Below w.heap.size w ((((w.alloc (.cells #[.int .i64 next, .slice A n c] 26)).alloc (.cells #[.string name] 9)).alloc (.cells #[.int .i64 val] 3)).alloc (.cells #[.int .i64 0, .slice none 0 0] 26)) := below_more (below_more (below_more (below_more (Below.refl _ _) _) _) _) _
  have hM0 : Blk ((((w.alloc (.cells #[.int .i64 next, .slice A n c] 26)).alloc (.cells #[.string name] 9)).alloc (.cells #[.int .i64 val] 3)).alloc (.cells #[.int .i64 0, .slice none 0 0] 26)) w.heap.size 26 #[.int .i64 next, .slice A n c] := (((Blk.new _ _ _).alloc _).alloc _).alloc _
  have hS0 : Blk ((((w.alloc (.cells #[.int .i64 next, .slice A n c] 26)).alloc (.cells #[.string name] 9)).alloc (.cells #[.int .i64 val] 3)).alloc (.cells #[.int .i64 0, .slice none 0 0] 26)) (w.heap.size + 1) 9 #[.string name] := ((Blk.new' (by simp)).alloc _).alloc _
  have hV0 : Blk ((((w.alloc (.cells #[.int .i64 next, .slice A n c] 26)).alloc (.cells #[.string name] 9)).alloc (.cells #[.int .i64 val] 3)).alloc (.cells #[.int .i64 0, .slice none 0 0] 26)) (w.heap.size + 1 + 1) 3 #[.int .i64 val] := (Blk.new' (by simp)).alloc _
  have hR0 : Blk ((((w.alloc (.cells #[.int .i64 next, .slice A n c] 26)).alloc (.cells #[.string name] 9)).alloc (.cells #[.int .i64 val] 3)).alloc (.cells #[.int .i64 0, .slice none 0 0] 26)) (w.heap.size + 1 + 1 + 1) 26 #[.int .i64 0, .slice none 0 0] := Blk.new' (by simp)
  have HH := Lib.hid h
  have HRR := Lib.hid hr
  have HE : Hid (aimE next nds name val = aimE next nds name val) := Lib.hid rfl
  clear h hr
  go_enter Tryz.func30, Tryz.ntmps30
  go_upto_region 1 with fail
  generalize ((((w.alloc (.cells #[.int .i64 next, .slice A n c] 26)).alloc (.cells #[.string name] 9)).alloc (.cells #[.int .i64 val] 3)).alloc (.cells #[.int .i64 0, .slice none 0 0] 26)) = W at hB0 hM0 hS0 hV0 hR0 ⊢
  have HSS : Hid (∀ Y, Below W.heap.size W Y → Y.cell? ⟨w.heap.size, 0, none⟩ = some (.int .i64 next) ∧ Y.cell? ⟨w.heap.size, 1, none⟩ = some (.slice A n c) ∧ Y.cell? ⟨w.heap.size + 1, 0, none⟩ = some (.string name) ∧ Y.cell? ⟨w.heap.size + 1 + 1, 0, none⟩ = some (.int .i64 val) ∧ Y.cell? ⟨w.heap.size + 1 + 1 + 1, 0, none⟩ = some (.int .i64 0) ∧ Y.cell? ⟨w.heap.size + 1 + 1 + 1, 1, none⟩ = some (.slice none 0 0) ∧ Y.frozen? ⟨w.heap.size + 1 + 1 + 1, 0, none⟩ = false ∧ Y.frozen? ⟨w.heap.size + 1 + 1 + 1, 1, none⟩ = false) :=
    Lib.hid fun Y hY => ⟨((hM0.after hY).cell 0).trans rfl, ((hM0.after hY).cell 1).trans rfl, ((hS0.after hY).cell 0).trans rfl, ((hV0.after hY).cell 0).trans rfl, ((hR0.after hY).cell 0).trans rfl, ((hR0.after hY).cell 1).trans rfl, (hR0.after hY).frozen 0, (hR0.after hY).frozen 1⟩
  have HNm := Lib.hid (nameable_any W hi next name A n c nds (HH.out.below (hB0.mono hh)) (Nat.le_trans hh hB0.size) hsn)
  have HCg := Lib.hid fun (Y : World) (hY : Below W.heap.size W Y) => changed_post Y hi next id (aimE next nds name val) A n c nds 66 #[.pointer (some ⟨w.heap.size + 1, 0, none⟩), .pointer (some ⟨w.heap.size + 1 + 1, 0, none⟩)] (fun nd => aimN nd name val) (HH.out.below ((hB0.trans (hY.mono hB0.size)).mono hh)) (Nat.le_trans hh (hB0.trans (hY.mono hB0.size)).size)
    (fun h0 => ⟨(HRR.out (aimE_zero h0)).1, (HRR.out (aimE_zero h0)).2.1, (HRR.out (aimE_zero h0)).2.2.1⟩) (fun _ _ => rfl) (fun h0 nd hnd => aim_change Y n nd (w.heap.size + 1) (w.heap.size + 1 + 1) name val  (hS0.after hY) (hV0.after hY) ((HRR.out (aimE_zero h0)).2.2.2 nd hnd) ((HRR.out (aimE_zero h0)).2.2.1 nd hnd) hsn)
  have HHas := Lib.hid fun (Y : World) (hY : Below W.heap.size W Y) (hq : rightB next nds = true) => has_any Y hi next val A n c nds (HH.out.below ((hB0.trans (hY.mono hB0.size)).mono hh)) (Nat.le_trans hh (hB0.trans (hY.mono hB0.size)).size) (HRR.out hq).1 (HRR.out hq).2.1
  obtain ⟨b1, b2, b3, b4, b5, b6, b7, b8⟩ := HSS.out W (Below.refl _ _)
  have HB0 := Lib.hid hB0
  have HR0 := Lib.hid hR0
  clear hB0 hM0 hS0 hV0 hR0 HE
  by_cases h0 : nameE next nds name = 0
  · have hrt := nameE_zero h0
    rw [h0] at HNm
    replace HHas := Lib.hid fun (Y : World) (hY : Below W.heap.size W Y) => HHas.out Y hY hrt
    cases h4 : (ixOf nds val).isSome with
    | false =>
      have hE : aimE next nds name val = 20 := by unfold aimE; rw [if_pos h0, h4]; rfl
      rw [hE] at HCg
      have HIS := Lib.hid h4
      have HEE := Lib.hid hE
      clear h0 h4 hE hrt
      go_wp2_with (first | (go_at_call 61; go_must (refine HNm.out.mono ?_; rintro e Y2 ⟨rfl, hb2⟩; have HBW := Lib.hid hb2; obtain ⟨r1, r2, r3, r4, r5, r6, r7, r8⟩ := HSS.out _ hb2; clear hb2)) | (go_at_call 40; go_must (refine (HHas.out _ HBW.out).mono ?_; rintro e Y3 ⟨rfl, hb3⟩; rw [HIS.out]; replace HBW := Lib.hid (HBW.out.trans (hb3.mono HBW.out.size)); obtain ⟨s1, s2, s3, s4, s5, s6, s7, s8⟩ := HSS.out _ HBW.out; clear hb3)) | (go_at_call 62; go_must (refine (HCg.out _ HBW.out).mono ?_; rintro e Y6 ⟨nx6, A6, n6, c6, rfl, hb6, hne6, hok6⟩; have HZ := Lib.hid HBW.out.size; replace HBW := Lib.hid (HBW.out.trans (hb6.mono HBW.out.size)); have HNE := Lib.hid hne6; have HOK := Lib.hid hok6; obtain ⟨t1, t2, t3, t4, t5, t6, t7, t8⟩ := HSS.out _ HBW.out; clear hb6 hne6 hok6)))
      (try rw [Exit.noGoto_ret])
      (try simp only [Exit.inBlock, Exit.then])
      have hres : Tryz.f30.results = #[.cell 8 26, .tmp 9] := by kernel_rfl
      refine bodyPost_ret (v := .tuple #[.agg #[.int .i64 nx6, .slice A6 n6 c6], .int .i64 (chE 20 nds id)]) ?hr rfl ?_
      case hr =>
        simp only [results, hres]
        go_simp
      have hR := HR0.out.after HBW.out
      have hzz : w.heap.size ≤ W.heap.size := HB0.out.size
      show SetPost _ _ _ _ _ _
      rw [HEE.out]
      refine ⟨nx6, A6, n6, c6, rfl, ?_, HNE.out, fun h0 => ?_⟩
      · exact ((HB0.out.trans (HBW.out.mono hzz)).setCell (p := ⟨w.heap.size + 1 + 1 + 1, 0, none⟩) (by simp only; omega) _).setCell (p := ⟨w.heap.size + 1 + 1 + 1, 1, none⟩) (by simp only; omega) _
      · obtain ⟨h1, l, h2, h3, h4⟩ := HOK.out h0
        exact ⟨h1, l, ((h2.mono (Nat.le_trans hzz HZ.out)).other hR 0 _).other (hR.set_ 0 _) 1 _, h3, h4⟩
    | true =>
      have hE : aimE next nds name val = 0 := by unfold aimE; rw [if_pos h0, h4]; rfl
      rw [hE] at HCg
      have HIS := Lib.hid h4
      have HEE := Lib.hid hE
      clear h0 h4 hE hrt
      go_wp2_with (first | (go_at_call 61; go_must (refine HNm.out.mono ?_; rintro e Y2 ⟨rfl, hb2⟩; have HBW := Lib.hid hb2; obtain ⟨r1, r2, r3, r4, r5, r6, r7, r8⟩ := HSS.out _ hb2; clear hb2)) | (go_at_call 40; go_must (refine (HHas.out _ HBW.out).mono ?_; rintro e Y3 ⟨rfl, hb3⟩; rw [HIS.out]; replace HBW := Lib.hid (HBW.out.trans (hb3.mono HBW.out.size)); obtain ⟨s1, s2, s3, s4, s5, s6, s7, s8⟩ := HSS.out _ HBW.out; clear hb3)) | (go_at_call 62; go_must (refine (HCg.out _ HBW.out).mono ?_; rintro e Y6 ⟨nx6, A6, n6, c6, rfl, hb6, hne6, hok6⟩; have HZ := Lib.hid HBW.out.size; replace HBW := Lib.hid (HBW.out.trans (hb6.mono HBW.out.size)); have HNE := Lib.hid hne6; have HOK := Lib.hid hok6; obtain ⟨t1, t2, t3, t4, t5, t6, t7, t8⟩ := HSS.out _ HBW.out; clear hb6 hne6 hok6)))
      (try rw [Exit.noGoto_ret])
      (try simp only [Exit.inBlock, Exit.then])
      have hres : Tryz.f30.results = #[.cell 8 26, .tmp 9] := by kernel_rfl
      refine bodyPost_ret (v := .tuple #[.agg #[.int .i64 nx6, .slice A6 n6 c6], .int .i64 (chE 0 nds id)]) ?hr rfl ?_
      case hr =>
        simp only [results, hres]
        go_simp
      have hR := HR0.out.after HBW.out
      have hzz : w.heap.size ≤ W.heap.size := HB0.out.size
      show SetPost _ _ _ _ _ _
      rw [HEE.out]
      refine ⟨nx6, A6, n6, c6, rfl, ?_, HNE.out, fun h0 => ?_⟩
      · exact ((HB0.out.trans (HBW.out.mono hzz)).setCell (p := ⟨w.heap.size + 1 + 1 + 1, 0, none⟩) (by simp only; omega) _).setCell (p := ⟨w.heap.size + 1 + 1 + 1, 1, none⟩) (by simp only; omega) _
      · obtain ⟨h1, l, h2, h3, h4⟩ := HOK.out h0
        exact ⟨h1, l, ((h2.mono (Nat.le_trans hzz HZ.out)).other hR 0 _).other (hR.set_ 0 _) 1 _, h3, h4⟩
  · have hE : aimE next nds name val = nameE next nds name := by unfold aimE; rw [if_neg h0]
    rw [hE] at HCg
    generalize nameE next nds name = e0 at HNm HCg h0 hE
    have HEE := Lib.hid hE
    have d0 : (e0 == 0) = false := by rw [beq_eq_false_iff_ne]; exact h0
    clear hE
    go_wp2_with (first | (go_at_call 61; go_must (refine HNm.out.mono ?_; rintro e Y2 ⟨rfl, hb2⟩; have HBW := Lib.hid hb2; obtain ⟨r1, r2, r3, r4, r5, r6, r7, r8⟩ := HSS.out _ hb2; clear hb2)) | (go_at_call 62; go_must (refine (HCg.out _ HBW.out).mono ?_; rintro e Y6 ⟨nx6, A6, n6, c6, rfl, hb6, hne6, hok6⟩; have HZ := Lib.hid HBW.out.size; replace HBW := Lib.hid (HBW.out.trans (hb6.mono HBW.out.size)); have HNE := Lib.hid hne6; have HOK := Lib.hid hok6; obtain ⟨t1, t2, t3, t4, t5, t6, t7, t8⟩ := HSS.out _ HBW.out; clear hb6 hne6 hok6)))
    (try rw [Exit.noGoto_ret])
    (try simp only [Exit.inBlock, Exit.then])
    have hres : Tryz.f30.results = #[.cell 8 26, .tmp 9] := by kernel_rfl
    refine bodyPost_ret (v := .tuple #[.agg #[.int .i64 nx6, .slice A6 n6 c6], .int .i64 (chE e0 nds id)]) ?hr rfl ?_
    case hr =>
      simp only [results, hres]
      go_simp
    have hR := HR0.out.after HBW.out
    have hzz : w.heap.size ≤ W.heap.size := HB0.out.size
    show SetPost _ _ _ _ _ _
    rw [HEE.out]
    refine ⟨nx6, A6, n6, c6, rfl, ?_, HNE.out, fun h0 => ?_⟩
    · exact ((HB0.out.trans (HBW.out.mono hzz)).setCell (p := ⟨w.heap.size + 1 + 1 + 1, 0, none⟩) (by simp only; omega) _).setCell (p := ⟨w.heap.size + 1 + 1 + 1, 1, none⟩) (by simp only; omega) _
    · obtain ⟨h1, l, h2, h3, h4⟩ := HOK.out h0
      exact ⟨h1, l, ((h2.mono (Nat.le_trans hzz HZ.out)).other hR 0 _).other (hR.set_ 0 _) 1 _, h3, h4⟩
end Go.Proofs.YtohinklkcinjpaaGreat
namespace Go.Proofs.YtohinklkcinjpaaGreat
open Go Go.RowKit Go.Sort
set_option linter.unusedVariables false
theorem sort_cons {k : ByteArray} {ks : List ByteArray} (h : SortS (k :: ks)) : SortS ks ∧ ∀ x ∈ ks, ltS k x = true :=
  ⟨fun i j a b hij ha hb => h (i + 1) (j + 1) a b (by omega) (by simpa using ha) (by simpa using hb), fun x hx => by
    obtain ⟨j, hj⟩ := List.getElem?_of_mem hx
    exact h 0 (j + 1) k x (by omega) rfl (by simpa using hj)⟩
theorem cons_sort {k : ByteArray} {ks : List ByteArray} (h : SortS ks) (hk : ∀ x ∈ ks, ltS k x = true) : SortS (k :: ks) := by
  intro i j a b hij ha hb
  cases j with
  | zero => omega
  | succ j =>
    have hb' : ks[j]? = some b := by simpa using hb
    cases i with
    | zero => cases ha; exact hk b (List.mem_of_getElem? hb')
    | succ i => exact h i j a b (by omega) (by simpa using ha) hb'
theorem props_sort : ∀ (l : List (ByteArray × ByteArray)) (q : Option ByteArray), propsB q l = true → SortS (l.map (·.1)) ∧ ∀ q', q = some q' → ∀ k ∈ l.map (·.1), ltS q' k = true := by
  intro l
  induction l with
  | nil => intro q _; exact ⟨fun i j a b _ ha => by simp at ha, fun _ _ k hk => by simp at hk⟩
  | cons p r ih =>
    intro q h
    simp only [propsB, Bool.and_eq_true] at h
    obtain ⟨h1, h2⟩ := ih (some p.1) h.2
    have h3 := h2 p.1 rfl
    refine ⟨cons_sort h1 h3, ?_⟩
    rintro q' rfl k hk
    have h4 : ltS q' p.1 = true := h.1.2
    rcases List.mem_cons.1 hk with rfl | hk
    · exact h4
    · exact less_trans h4 (h3 k hk)
theorem refs_sort {next : Int} : ∀ (l : List (ByteArray × Int)) (q : Option ByteArray), refsB next q l = true → SortS (l.map (·.1)) ∧ ∀ q', q = some q' → ∀ k ∈ l.map (·.1), ltS q' k = true := by
  intro l
  induction l with
  | nil => intro q _; exact ⟨fun i j a b _ ha => by simp at ha, fun _ _ k hk => by simp at hk⟩
  | cons p r ih =>
    intro q h
    simp only [refsB, Bool.and_eq_true] at h
    obtain ⟨h1, h2⟩ := ih (some p.1) h.2
    have h3 := h2 p.1 rfl
    refine ⟨cons_sort h1 h3, ?_⟩
    rintro q' rfl k hk
    have h4 : ltS q' p.1 = true := h.1.2
    rcases List.mem_cons.1 hk with rfl | hk
    · exact h4
    · exact less_trans h4 (h3 k hk)
theorem right_sorts {next : Int} {nds : List Nd} (h : rightB next nds = true) : ∀ nd ∈ nds, SortS (nd.props.map (·.1)) ∧ SortS (nd.refs.map (·.1)) := by
  intro nd hnd
  have h1 := (rightM h).plain nd hnd
  unfold plainB at h1
  simp only [Bool.and_eq_true] at h1
  exact ⟨(props_sort _ _ h1.1.1.2).1, (refs_sort _ _ h1.1.2).1⟩
section
variable {β : Type}
/-- the list that the document lays -/
def layV (name : ByteArray) (v : β) : Bool → List (ByteArray × β) → List (ByteArray × β)
  | laid, [] => if laid = true then [] else [(name, v)]
  | laid, p :: r => (if laid = false ∧ ltS p.1 name = false then [(name, v)] else []) ++ ((if (p.1.toList == name.toList) = true then [] else [p]) ++ layV name v (laid || !ltS p.1 name) r)
theorem lt_ne {a b : ByteArray} (h : ltS a b = true) : (a.toList == b.toList) = false := by
  rw [beq_eq_false_iff_ne]
  intro e
  unfold ltS at h
  rw [e, less_irrefl] at h
  cases h
/-- behind a name that isn't below, none is -/
theorem beyond {name k : ByteArray} {ks : List ByteArray} (hk : ∀ x ∈ ks, ltS k x = true) (h : ltS k name = false) : rankS ks name = 0 ∧ ∀ x ∈ ks, (x.toList == name.toList) = false := by
  refine ⟨?_, fun x hx => ?_⟩
  · unfold rankS
    rw [List.countP_eq_zero]
    intro x hx hlt
    have := less_trans (hk x hx) hlt
    unfold ltS at h
    rw [this] at h; cases h
  · rw [beq_eq_false_iff_ne]
    intro e
    have h1 := hk x hx
    unfold ltS at h1 h
    rw [e, h] at h1; cases h1
theorem layV_laid (name : ByteArray) (v : β) : ∀ (l : List (ByteArray × β)), (∀ p ∈ l, (p.1.toList == name.toList) = false) → layV name v true l = l := by
  intro l
  induction l with
  | nil => intro _; rfl
  | cons p r ih =>
    intro h
    simp only [layV, h p (List.mem_cons_self ..), Bool.true_or, ih (fun x hx => h x (List.mem_cons_of_mem _ hx))]
    simp
theorem layV_eq (name : ByteArray) (v : β) : ∀ (l : List (ByteArray × β)), SortS (l.map (·.1)) →
    layV name v false l = if foundS (l.map (·.1)) name = true then l.modify (rankS (l.map (·.1)) name) (fun x => (x.1, v)) else insL l (rankS (l.map (·.1)) name) (name, v) := by
  intro l
  induction l with
  | nil => intro _; rfl
  | cons p r ih =>
    intro hs
    have hs' : SortS (p.1 :: r.map (·.1)) := hs
    obtain ⟨h1, h2⟩ := sort_cons hs'
    cases hlt : ltS p.1 name with
    | true =>
      have hne := lt_ne hlt
      have hr : rankS ((p :: r).map (·.1)) name = rankS (r.map (·.1)) name + 1 := by
        unfold rankS
        rw [List.map_cons, List.countP_cons_of_pos (p := fun k => ltS k name) (a := p.1) hlt]
      have hf : foundS ((p :: r).map (·.1)) name = foundS (r.map (·.1)) name := by
        unfold foundS
        rw [List.map_cons, List.any_cons, hne, Bool.false_or]
      rw [hr, hf]
      have hL : layV name v false (p :: r) = p :: layV name v false r := by simp [layV, hlt, hne]
      rw [hL, ih h1]
      by_cases hfr : foundS (r.map (·.1)) name = true
      · rw [if_pos hfr, if_pos hfr, List.modify_succ_cons]
      · rw [if_neg hfr, if_neg hfr]; simp [insL]
    | false =>
      obtain ⟨h3, h4⟩ := beyond h2 hlt
      have hr : rankS ((p :: r).map (·.1)) name = 0 := by
        unfold rankS at h3 ⊢
        rw [List.map_cons, List.countP_cons_of_neg (by rw [hlt]; decide)]
        exact h3
      have hl := layV_laid name v r (fun x hx => h4 x.1 (List.mem_map_of_mem hx))
      have hfr : foundS (r.map (·.1)) name = false := by
        unfold foundS
        rw [List.any_eq_false]
        intro x hx
        rw [h4 x hx]; decide
      cases he : (p.1.toList == name.toList) with
      | true =>
        have hf : foundS ((p :: r).map (·.1)) name = true := by
          unfold foundS
          rw [List.map_cons, List.any_cons, he, Bool.true_or]
        have hpn : p.1 = name := str_eq.1 (by simpa using he)
        rw [hr, if_pos hf]
        simp only [layV, hlt, he, Bool.not_false, Bool.or_true, hl]
        simp [hpn]
      | false =>
        have hf : foundS ((p :: r).map (·.1)) name = false := by
          unfold foundS at hfr ⊢
          rw [List.map_cons, List.any_cons, he, Bool.false_or]; exact hfr
        rw [hr, if_neg (by rw [hf]; decide)]
        simp only [layV, hlt, he, Bool.not_false, Bool.or_true, hl]
        simp [insL]
end
end Go.Proofs.YtohinklkcinjpaaGreat
namespace Go.Proofs.YtohinklkcinjpaaGreat
open Go Go.RowKit Go.Sort
set_option linter.unusedVariables false
attribute [local go_sem ↓] Go.wp_at_zero Go.wp_at_succ
/-- what holds while a model is made, but for the list that grows -/
structure TE (w : World) (next : Int) (A : Option Addr) (n c : Nat) (ov : Value) (wr : World) : Prop where
  md : Blk wr w.heap.size 26 #[.int .i64 next, .slice A n c]
  rs : Blk wr (w.heap.size + 1) 26 #[.int .i64 0, .slice none 0 0]
  out : Blk wr (w.heap.size + 2) 26 #[.int .i64 next, ov]
  bel : Below w.heap.size w wr
structure TW (w : World) (next : Int) (A : Option Addr) (n c : Nat) (ov : Value) (l : List (Nd × Leaf)) (wr : World) : Prop where
  e : TE w next A n c ov wr
  own : OwnM wr w.heap.size ov l
section
variable {w : World} {next : Int} {A : Option Addr} {n c : Nat} {ov : Value} {l : List (Nd × Leaf)} {X X' : World}
theorem TE.after (h : TE w next A n c ov X) (hb : Below X.heap.size X X') : TE w next A n c ov X' := ⟨h.md.after hb, h.rs.after hb, h.out.after hb, h.bel.trans (hb.mono h.bel.size)⟩
theorem TW.after (h : TW w next A n c ov l X) (hb : Below X.heap.size X X') : TW w next A n c ov l X' := ⟨h.e.after hb, h.own.after hb⟩
theorem TE.kept (h : TE w next A n c ov X) (hown : OwnN X w.heap.size ov l) (hg : X.grownBy X' ov.ownBlock) : TE w next A n c ov X' :=
  ⟨h.md.grown hg (Ne.symm (own_blk_ne hown h.md (by decide))), h.rs.grown hg (Ne.symm (own_blk_ne hown h.rs (by decide))), h.out.grown hg (Ne.symm (own_blk_ne hown h.out (by decide))), below_grows h.bel hg hown (Nat.le_refl _)⟩
theorem TE.out_set (h : TE w next A n c ov X) (u : Value) : TE w next A n c u (X.setCell ⟨w.heap.size + 2, 1, none⟩ u) :=
  ⟨h.md.far (by simp) u, h.rs.far (by simp) u, by simpa using h.out.set_ 1 u, h.bel.setCell (p := ⟨w.heap.size + 2, 1, none⟩) (by simp) u⟩
theorem TW.push {p : Nd × Leaf} {v' : Value} (h : TW w next A n c ov l X) (hg : X.grownBy X' ov.ownBlock) (hown : X'.ownsRow w.heap.size 41 7 v' (l.length + 1) (allCells l ++ ndCells p))
    (hp : OwnLeaf X w.heap.size p.1 p.2) : TW w next A n c v' (l ++ [p]) (X'.setCell ⟨w.heap.size + 2, 1, none⟩ v') := by
  have h1 := h.e.kept h.own.own hg
  have h2 := hp.kept h.own.own hg
  have hm : OwnM X' w.heap.size v' (l ++ [p]) := by
    refine ⟨?_, fun q hq => ?_⟩
    · unfold OwnN
      have e : allCells (l ++ [p]) = allCells l ++ ndCells p := by simp [allCells]
      rw [e, List.length_append, List.length_singleton]
      exact hown
    · rcases List.mem_append.1 hq with hq | hq
      · exact (h.own.leaf q hq).kept h.own.own hg
      · obtain rfl : q = p := by simpa using hq
        exact h2
  exact ⟨h1.out_set v', hm.other h1.out 1 v'⟩
theorem tw_start (w : World) (next : Int) (A : Option Addr) (n c : Nat) : TW w next A n c (.slice none 0 0) []
    (((w.alloc (.cells #[.int .i64 next, .slice A n c] 26)).alloc (.cells #[.int .i64 0, .slice none 0 0] 26)).alloc (.cells #[.int .i64 next, .slice none 0 0] 26)) := by
  refine ⟨⟨?_, ?_, ?_, ?_⟩, ⟨?_, by simp⟩⟩
  · exact ((Blk.new w _ _).alloc _).alloc _
  · exact (Blk.new' (by simp)).alloc _
  · exact Blk.new' (by simp)
  · exact below_more (below_more (below_more (Below.refl _ _) _) _) _
  · exact ⟨rfl, .inl ⟨rfl, rfl⟩⟩
end
set_option maxRecDepth 100000 in
set_option maxHeartbeats 6400000 in
theorem twin_any (w : World) (hi : Nat) (next : Int) (A : Option Addr) (n c : Nat) (nds : List Nd) (h : NodesIn w 0 hi A n c nds) (hh : hi ≤ w.heap.size) (hn : n ≤ 4096) (hf : ∀ nd ∈ nds, Fits 1 nd) :
    Calls Tryz.prog 26 #[.agg #[.int .i64 next, .slice A n c]] w fun e w' => ∃ ov l, e = .returned (.agg #[.int .i64 next, ov]) ∧ OwnM w' w.heap.size ov l ∧ l.map (·.1) = nds ∧ Below w.heap.size w w' := by
  have hc := h.2.2.1
  have hnc := h.2.1
  have HL := Lib.hid h.1
  unfold maxLen at hc
  go_enter Tryz.func26, Tryz.ntmps26
  go_wp2_with fail
  go_loopg [4] n (fun gk i wr => ∃ (k : Nat) (ov : Value) (l : List (Nd × Leaf)), k ≤ n ∧ Hid (gk = n - k) ∧ i = .int .i64 k ∧ TW w next A n c ov l wr ∧ Hid (l.map (·.1) = nds.take k))
  case atStart => exact ⟨0, _, [], Nat.zero_le _, Lib.hid rfl, rfl, tw_start w next A n c, Lib.hid rfl⟩
  case round =>
    obtain ⟨k, ov, l, hk, HG, rfl, W, HT⟩ := hrel
    have c1 := W.e.md.cell 1
    have o1 := W.e.out.cell 1
    simp at c1 o1
    have HW := Lib.hid W
    have hbel := W.e.bel
    have hwz := hbel.size
    clear W
    by_cases hlt : k < n
    · obtain ⟨b, o, hA, _, hb, V, hV⟩ := h.all (by omega)
      obtain ⟨nd, hnd⟩ : ∃ nd, nds[k]? = some nd := ⟨nds[k]'(by have := HL.out; omega), List.getElem?_eq_getElem _⟩
      have hat := (hV k nd hnd).1
      have hlf := (hV k nd hnd).2
      have hfi := hf nd (List.mem_of_getElem? hnd)
      generalize V k = Lk at hat hlf
      subst hA
      have HON := Lib.hid fun (X : World) (hbX : Below w.heap.size w X) => refNode_any X hi nd Lk (hlf.below (hbX.mono hh)) (Nat.le_trans hh hbX.size) hfi
      have HND := Lib.hid hnd
      obtain ⟨⟨Ap, np, cp⟩, ⟨Ak, nk, ck⟩, ⟨Ar, nr, cr⟩⟩ := Lk
      have hlk : l.length = k := by have := congrArg List.length HT.out; rw [List.length_map, List.length_take, HL.out] at this; omega
      have HLL := Lib.hid hlk
      have HSof : Hid (∀ X, TE w next (some ⟨b, o, none⟩) n c ov X → Below w.heap.size w X ∧ X.cell? ⟨w.heap.size + 1 + 1, 1, none⟩ = some ov ∧ X.cell? ⟨w.heap.size, 1, none⟩ = some (.slice (some ⟨b, o, none⟩) n c) ∧ X.cell? ⟨b, o + k * 7, none⟩ = some (.int .i64 nd.id) ∧ X.cell? ⟨b, o + k * 7 + 1, none⟩ = some (.string nd.con) ∧ X.cell? ⟨b, o + k * 7 + 2, none⟩ = some (.int .i64 nd.par) ∧ X.cell? ⟨b, o + k * 7 + 3, none⟩ = some (.string nd.role) ∧ X.cell? ⟨b, o + k * 7 + 4, none⟩ = some (.slice Ap np cp) ∧ X.cell? ⟨b, o + k * 7 + 5, none⟩ = some (.slice Ak nk ck) ∧ X.cell? ⟨b, o + k * 7 + 6, none⟩ = some (.slice Ar nr cr)) := Lib.hid fun X hX => by
        have hq := hat.below hX.bel (by omega)
        have h1 := hX.out.cell 1
        have h3 := hX.md.cell 1
        simp at h1 h3
        exact ⟨hX.bel, h1, h3, hq.c0, hq.c1, hq.c2, hq.c3, hq.c4, hq.c5, hq.c6⟩
      obtain ⟨i0, hi0, hz0, hz1, hz2⟩ := info_parts nodeInfo
      have HX := Lib.hid (HW.out.after (below_drew (Below.refl _ _)))
      clear hV hnd hfi hlf hlk hat
      go_upto_region 5 with (fail)
      clear hbel c1 o1
      refine wp_region_held_tail 10 (fun w' => Below w.heap.size w w' ∧ w'.cell? ⟨w.heap.size + 1 + 1, 1, none⟩ = some ov ∧ w'.cell? ⟨w.heap.size, 1, none⟩ = some (.slice (some ⟨b, o, none⟩) n c) ∧ w'.cell? ⟨b, o + k * 7, none⟩ = some (.int .i64 nd.id) ∧ w'.cell? ⟨b, o + k * 7 + 1, none⟩ = some (.string nd.con) ∧ w'.cell? ⟨b, o + k * 7 + 2, none⟩ = some (.int .i64 nd.par) ∧ w'.cell? ⟨b, o + k * 7 + 3, none⟩ = some (.string nd.role) ∧ w'.cell? ⟨b, o + k * 7 + 4, none⟩ = some (.slice Ap np cp) ∧ w'.cell? ⟨b, o + k * 7 + 5, none⟩ = some (.slice Ak nk ck) ∧ w'.cell? ⟨b, o + k * 7 + 6, none⟩ = some (.slice Ar nr cr)) (by kernel_rfl) (by kernel_rfl) ?hSt (fun hHeld => ?qt0)
      case hSt => exact HSof.out _ HX.out.e
      case qt0 =>
        simp only [List.take_succ_cons, List.take_zero, List.drop_succ_cons, List.drop_zero]
        refine wpAnyH_take (i := 0) (v := (.pointer (some ⟨w.heap.size + 1 + 1, 1, none⟩))) rfl (by kernel_rfl) (by kernel_rfl) (by kernel_rfl) (fun _ _ _ h => h) (Or.inl ⟨by rfl, ?yt_1⟩) (by assumption) ?qt_1
        case yt_1 => (intro w hSw; (try dsimp only at hSw); go_simp)
        case qt_1 =>
          (try simp only [Act.put]); (try simp only [List.setIfInBounds_toArray])
          refine wpAnyH_take (i := 1) (v := ov) rfl (by kernel_rfl) (by kernel_rfl) (by kernel_rfl) (fun _ _ _ h => h) (Or.inl ⟨by rfl, ?yt_2⟩) (by assumption) ?qt_2
          case yt_2 => (intro w hSw; (try dsimp only at hSw); go_simp)
          case qt_2 =>
            (try simp only [Act.put]); (try simp only [List.setIfInBounds_toArray])
            refine wpAnyH_take (i := 2) (v := (.pointer (some ⟨w.heap.size, 1, none⟩))) rfl (by kernel_rfl) (by kernel_rfl) (by kernel_rfl) (fun _ _ _ h => h) (Or.inl ⟨by rfl, ?yt_3⟩) (by assumption) ?qt_3
            case yt_3 => (intro w hSw; (try dsimp only at hSw); go_simp)
            case qt_3 =>
              (try simp only [Act.put]); (try simp only [List.setIfInBounds_toArray])
              refine wpAnyH_take (i := 3) (v := (.slice (some ⟨b, o, none⟩) n c)) rfl (by kernel_rfl) (by kernel_rfl) (by kernel_rfl) (fun _ _ _ h => h) (Or.inl ⟨by rfl, ?yt_4⟩) (by assumption) ?qt_4
              case yt_4 => (intro w hSw; (try dsimp only at hSw); go_simp)
              case qt_4 =>
                (try simp only [Act.put]); (try simp only [List.setIfInBounds_toArray])
                refine wpAnyH_take (i := 4) (v := (.int .i64 k)) rfl (by kernel_rfl) (by kernel_rfl) (by kernel_rfl) (fun _ _ _ h => h) (Or.inl ⟨by rfl, ?yt_5⟩) (by assumption) ?qt_5
                case yt_5 => (intro w hSw; (try dsimp only at hSw); go_simp)
                case qt_5 =>
                  (try simp only [Act.put]); (try simp only [List.setIfInBounds_toArray])
                  refine wpAnyH_take (i := 5) (v := (.pointer (some ⟨b, o + k * 7, none⟩))) rfl (by kernel_rfl) (by kernel_rfl) (by kernel_rfl) (fun _ _ _ h => h) (Or.inl ⟨by rfl, ?yt_6⟩) (by assumption) ?qt_6
                  case yt_6 => (intro w hSw; (try dsimp only at hSw); go_simp)
                  case qt_6 =>
                    (try simp only [Act.put]); (try simp only [List.setIfInBounds_toArray])
                    refine wpAnyH_take (i := 6) (v := (.agg #[.int .i64 nd.id, .string nd.con, .int .i64 nd.par, .string nd.role, .slice Ap np cp, .slice Ak nk ck, .slice Ar nr cr])) rfl (by kernel_rfl) (by kernel_rfl) (by kernel_rfl) (fun _ _ _ h => h) (Or.inl ⟨by rfl, ?yt_7⟩) (by assumption) ?qt_7
                    case yt_7 => (intro w hSw; (try dsimp only at hSw); go_simp)
                    case qt_7 =>
                      (try simp only [Act.put]); (try simp only [List.setIfInBounds_toArray])
                      refine wpAnyH_ready (rs := [7]) (by kernel_rfl) (by simp) ?_
                      refine AllReadyH.cons rfl (fun K hK => ?st_8) ?mt_8
                      case st_8 =>
                        (refine step_call _ (by rfl) 59 #[.agg #[.int .i64 nd.id, .string nd.con, .int .i64 nd.par, .string nd.role, .slice Ap np cp, .slice Ak nk ck, .slice Ar nr cr]] (by go_simp) (HON.out _ HX.out.e.bel) ?_; rintro e Y1 ⟨⟨⟨A1, n1, k1⟩, ⟨A2, n2, k2⟩, ⟨A3, n3, k3⟩⟩, rfl, hl1, hb1⟩; refine ⟨_, rfl, ?_⟩; have HLf := Lib.hid (hl1.mono HX.out.e.bel.size); replace HX := Lib.hid (HX.out.after hb1); clear hl1 hb1)
                        refine hK.out _ _ ?kt_8 (fun hHeld => ?qt_8)
                        case kt_8 => ((try dsimp only); first | exact HSof.out _ HX2.out | exact HSof.out _ HXa.out.e | exact HSof.out _ HX.out.e)
                        case qt_8 =>
                          clear hK K
                          (try simp only [Act.put]); (try simp only [List.setIfInBounds_toArray])
                          refine wpAnyH_ready (rs := [8]) (by kernel_rfl) (by simp) ?_
                          refine AllReadyH.cons rfl (fun K hK => ?st_9) ?mt_9
                          case st_9 =>
                            (go_simp; have HXa := Lib.hid (HX.out.after (below_more (Below.refl _ _) (.cells #[.int .i64 nd.id, .string nd.con, .int .i64 nd.par, .string nd.role, .slice A1 n1 k1, .slice A2 n2 k2, .slice A3 n3 k3] 41))); have HLa := Lib.hid (HLf.out.after (below_more (Below.refl _ _) (.cells #[.int .i64 nd.id, .string nd.con, .int .i64 nd.par, .string nd.role, .slice A1 n1 k1, .slice A2 n2 k2, .slice A3 n3 k3] 41))); have HNb := Lib.hid (Blk.new Y1 41 #[.int .i64 nd.id, .string nd.con, .int .i64 nd.par, .string nd.role, .slice A1 n1 k1, .slice A2 n2 k2, .slice A3 n3 k3]); have hgm : Y1.heap.size < (Y1.alloc (.cells #[.int .i64 nd.id, .string nd.con, .int .i64 nd.par, .string nd.role, .slice A1 n1 k1, .slice A2 n2 k2, .slice A3 n3 k3] 41)).heap.size := HNb.out.lt)
                            refine hK.out _ _ ?kt_9 (fun hHeld => ?qt_9)
                            case kt_9 => ((try dsimp only); first | exact HSof.out _ HX2.out | exact HSof.out _ HXa.out.e | exact HSof.out _ HX.out.e)
                            case qt_9 =>
                              clear hK K
                              (try simp only [Act.put]); (try simp only [List.setIfInBounds_toArray])
                              refine wpAnyH_ready (rs := [9]) (by kernel_rfl) (by simp) ?_
                              refine AllReadyH.cons rfl (fun K hK => ?st_10) ?mt_10
                              case st_10 =>
                                (refine step_app_mark _ (by rfl) (.tmp 16) (.tmp 23) _ (by rfl) w.heap.size 41 i0 _ 7 120 Tryz.underlying24 hi0 hz0 hz1 hz2 rfl (by omega) ov l.length (allCells l) (by rfl) HXa.out.own.own _ (ndCells (nd, ⟨⟨A1, n1, k1⟩, ⟨A2, n2, k2⟩, ⟨A3, n3, k3⟩⟩)) (by rfl) HNb.out rfl (by simp [ndCells, Value.oneCell']) (by have := HLL.out; unfold maxLen; omega) (by have := HLL.out; omega) HXa.out.e.bel.size ?_; intro G1 cap1 w2 hown2 _ hca1 hca2 hgr2; have HX2 := Lib.hid (HXa.out.e.kept HXa.out.own.own hgr2))
                                refine hK.out _ _ ?kt_10 (fun hHeld => ?qt_10)
                                case kt_10 => ((try dsimp only); first | exact HSof.out _ HX2.out | exact HSof.out _ HXa.out.e | exact HSof.out _ HX.out.e)
                                case qt_10 =>
                                  clear hK K
                                  (try simp only [Act.put]); (try simp only [List.setIfInBounds_toArray])
                                  refine wpAnyH_done (by kernel_rfl) ?_ _
                                  obtain ⟨hB1, hB2, hB3, _⟩ := hHeld
                                  have o7 := HX2.out.out.cell 1
                                  have f7 := HX2.out.out.frozen 1
                                  simp at o7
                                  have HO2 := Lib.hid hown2
                                  have HG2 := Lib.hid hgr2
                                  clear hown2 hgr2
                                  show wpList _ _ _ _ _ _
                                  go_wp2_with fail
                                  go_roundg (n - (k + 1))
                                  case measure => have := HG.out; omega
                                  case rel =>
                                    refine ⟨k + 1, .slice (some ⟨G1, 0, none⟩) (l.length + 1) cap1, l ++ [(nd, ⟨⟨A1, n1, k1⟩, ⟨A2, n2, k2⟩, ⟨A3, n3, k3⟩⟩)], by omega, Lib.hid rfl, by simp, ?_, Lib.hid ?_⟩
                                    · exact HXa.out.push HG2.out HO2.out HLa.out
                                    · rw [List.map_append, HT.out, List.take_add_one, HND.out]; rfl
                              case mt_10 =>
                                exact AllReadyH.nil
                          case mt_9 =>
                            exact AllReadyH.nil
                      case mt_8 =>
                        exact AllReadyH.nil
    · have hkn : k = n := by omega
      subst hkn
      have hnn : l.map (·.1) = nds := by rw [HT.out, List.take_of_length_le (by rw [HL.out]; omega)]
      have HNN := Lib.hid hnn
      have o0 := HW.out.e.out.cell 0
      have r0 := HW.out.e.rs.cell 0
      have r1 := HW.out.e.rs.cell 1
      have r2 := HW.out.e.rs.frozen 0
      have r3 := HW.out.e.rs.frozen 1
      simp at o0 r0 r1
      obtain ⟨Ao, co, rfl⟩ := own_form HW.out.own.own
      have HM := Lib.hid HW.out.own
      clear h hf hnn
      go_wp2_with fail
      (try rw [Exit.noGoto_ret])
      (try simp only [Exit.inBlock, Exit.then])
      have hres : Tryz.f26.results = #[.cell 2 26] := by kernel_rfl
      refine bodyPost_ret (v := .agg #[.int .i64 next, .slice Ao l.length co]) ?hr rfl ?_
      case hr =>
        simp only [results, hres]
        go_simp
      refine ⟨_, l, rfl, ?_, HNN.out, ?_⟩
      · exact (HM.out.other HW.out.e.rs 0 _).other (HW.out.e.rs.set_ 0 _) 1 _
      · exact (HW.out.e.bel.setCell (p := ⟨w.heap.size + 1, 0, none⟩) (by simp) _).setCell (p := ⟨w.heap.size + 1, 1, none⟩) (by simp) _
end Go.Proofs.YtohinklkcinjpaaGreat

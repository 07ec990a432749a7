/-
  WALKS: how deep a node stands, the program's and the document's.
-/
import Derived.Test.YtmjkcbhkmkofjaaW24
import Derived.Test.YtmjkcbhkmkofjaaP6
namespace Go.Proofs.Ytmjkcbhkmkofjaa
open Go Go.RowKit Go.Sort
set_option linter.unusedVariables false
attribute [local go_sem ↓] Go.wp_at_zero Go.wp_at_succ

/-- the box of a model -/
structure M1 (w : World) (next : Int) (A : Option Addr) (n c : Nat) (wr : World) : Prop where
  a : Blk wr w.heap.size 24 #[.int .i64 next, .slice A n c]
  bel : Below w.heap.size w wr
theorem M1.start (w : World) (next : Int) (A : Option Addr) (n c : Nat) : M1 w next A n c (w.alloc (.cells #[.int .i64 next, .slice A n c] 24)) := ⟨Blk.new _ _ _, below_more (Below.refl _ _) _⟩
theorem M1.after {w X X' : World} {next : Int} {A : Option Addr} {n c : Nat} (h : M1 w next A n c X) (hb : Below X.heap.size X X') : M1 w next A n c X' := ⟨h.a.after hb, h.bel.trans (hb.mono h.bel.size)⟩
theorem ixOf_of_ndOf {nds : List Nd} {id : Int} {nd : Nd} (h : ndOf nds id = some nd) : ∃ i, ixOf nds id = some i ∧ nds[i]? = some nd := by
  obtain ⟨i, h1, h2, _⟩ := ndOf_some h
  exact ⟨i, h1, h2⟩

set_option maxRecDepth 20000 in
set_option maxHeartbeats 1600000 in
theorem depth_any (w : World) (hi : Nat) (next id : Int) (A : Option Addr) (n c : Nat) (nds : List Nd) (h : NodesIn w 0 hi A n c nds) (hh : hi ≤ w.heap.size) (hr : Rise nds) (hn : n ≤ 4096) (K : Nat) (hK : DepthIs nds id K) (hK6 : K ≤ 65) :
    Calls Try.prog 80 #[.agg #[.int .i64 next, .slice A n c], .int .i64 id] w (Ret w (.int .i64 K)) := by
  have hc := h.2.2.1
  have hnc := h.2.1
  have HL := Lib.hid h.1
  unfold maxLen at hc
  have HM0 := Lib.hid (M1.start w next A n c)
  go_enter Try.func80, Try.ntmps80
  go_wp2_with fail
  go_loopw [1, 5] (fun x d wr => ∃ (k : Nat) (y : Int), k ≤ K ∧ x = .int .i64 y ∧ d = .int .i64 k ∧ Hid (y = upI nds id k) ∧ M1 w next A n c wr) (fun _ d _ => K - (intOf d).toNat)
  case atStart => exact ⟨0, id, Nat.zero_le _, rfl, rfl, Lib.hid rfl, HM0.out⟩
  case round =>
    clear HM0
    obtain ⟨k, y, hk, rfl, rfl, HY, M⟩ := hrel
    have c0 := M.a.cell 0
    have c1 := M.a.cell 1
    simp at c0 c1
    have HM := Lib.hid M
    clear M
    by_cases hlt : k < K
    · obtain ⟨h0, nd, hnd⟩ := hK.way k hlt
      rw [← HY.out] at h0 hnd
      obtain ⟨i, hix, hgi⟩ := ixOf_of_ndOf hnd
      have hin := ixOf_lt hix
      rw [HL.out] at hin
      obtain ⟨b, o, hA, _, hb, V, hV⟩ := h.all (by omega)
      have hat := ((hV i nd hgi).1.below HM.out.bel (by omega)).c2
      subst hA
      have HNo := Lib.hid (node_any _ hi next y _ n c nds (h.below (HM.out.bel.mono hh)) (Nat.le_trans hh HM.out.bel.size) hr hn (.pointer (some ⟨b, o + i * 7, none⟩)) (by rw [hix]; exact ⟨b, o, rfl, rfl⟩))
      have d0 : (y != 0) = true := by rw [bne_iff_ne]; exact h0
      have hup : nd.par = upI nds id (k + 1) := by rw [upI_succ (by rw [← HY.out]; exact hnd)]
      have HUP := Lib.hid hup
      rename World => wr
      have hbr : b < wr.heap.size := by have := HM.out.bel.size; omega
      have HAT := Lib.hid hat
      clear hV hix hgi hnd h0 hup hat
      go_wp2_with (go_at_call 79; go_must (refine HNo.out.mono ?_; rintro e w2 ⟨rfl, hb2⟩; have ha2 := (hb2.cell (p := ⟨b, _, none⟩) hbr).trans HAT.out; have HM2 := Lib.hid (HM.out.after hb2); clear hb2))
      go_roundw
      case measure => simp only [intOf]; omega
      case rel => exact ⟨k + 1, nd.par, by omega, rfl, by simp, HUP, HM2.out⟩
    · have hkk : k = K := by omega
      subst hkk
      have hy : y = 0 := by rw [HY.out]; exact hK.top
      subst hy
      clear h hK
      go_wp2_with fail
      go_ret
      exact ret_mk rfl HM.out.bel

set_option maxRecDepth 20000 in
set_option maxHeartbeats 1600000 in
theorem refDepth_any (w : World) (hi : Nat) (next id : Int) (A : Option Addr) (n c : Nat) (nds : List Nd) (h : NodesIn w 0 hi A n c nds) (hh : hi ≤ w.heap.size) (hr : Rise nds) (hn : n ≤ 4096) (K : Nat) (hK : DepthIs nds id K) (hK6 : K ≤ 65) :
    Calls Try.prog 81 #[.agg #[.int .i64 next, .slice A n c], .int .i64 id] w (Ret w (.int .i64 K)) := by
  have hc := h.2.2.1
  have hnc := h.2.1
  have HL := Lib.hid h.1
  unfold maxLen at hc
  have HM0 := Lib.hid (M1.start w next A n c)
  go_enter Try.func81, Try.ntmps81
  go_wp2_with fail
  go_loopw [1, 5] (fun x d wr => ∃ (k : Nat) (y : Int), k ≤ K ∧ x = .int .i64 y ∧ d = .int .i64 k ∧ Hid (y = upI nds id k) ∧ M1 w next A n c wr) (fun _ d _ => K - (intOf d).toNat)
  case atStart => exact ⟨0, id, Nat.zero_le _, rfl, rfl, Lib.hid rfl, HM0.out⟩
  case round =>
    clear HM0
    obtain ⟨k, y, hk, rfl, rfl, HY, M⟩ := hrel
    have HM := Lib.hid M
    clear M
    by_cases hlt : k < K
    · obtain ⟨h0, nd, hnd⟩ := hK.way k hlt
      rw [← HY.out] at h0 hnd
      obtain ⟨i, hix, hgi⟩ := ixOf_of_ndOf hnd
      have hin := ixOf_lt hix
      rw [HL.out] at hin
      obtain ⟨b, o, hA, _, hb, V, hV⟩ := h.all (by omega)
      have hat := ((hV i nd hgi).1.below HM.out.bel (by omega)).c2
      subst hA
      have hav : atV nds y = i := by unfold atV; rw [hix]
      rename World => wr
      have HAt : Hid (∀ d os, Calls Try.prog 51 #[.agg #[.int .i64 next, .slice (some ⟨b, o, none⟩) n c], .int .i64 y] (grow (redrawn wr d) os) (Ret (grow (redrawn wr d) os) (.int .i64 i))) := Lib.hid fun d os => by
        have hz := HM.out.bel.trans ((below_regrown wr d os).mono HM.out.bel.size)
        rw [← hav]
        exact refAt_any _ hi next y _ n c nds (h.below (hz.mono hh)) (Nat.le_trans hh hz.size) hr hn
      have q0 := cell_regrown ((HM.out.a.cell 0).trans (show _ = some (.int .i64 next) from rfl))
      have q1 := cell_regrown ((HM.out.a.cell 1).trans (show _ = some (.slice (some ⟨b, o, none⟩) n c) from rfl))
      have q2 := cell_regrown hat
      have d0 : (y != 0) = true := by rw [bne_iff_ne]; exact h0
      have HUP : Hid (nd.par = upI nds id (k + 1)) := Lib.hid (by rw [upI_succ (by rw [← HY.out]; exact hnd)])
      clear hV hix hgi hnd h0 hat hav
      go_wp2_with fail
      refine wp_region_quiet_below (by kernel_rfl) (by kernel_rfl) ?_
      repeat (go_big_quiet_step ((go_at_call 51; exact regrown_ret (HAt.out _ _))))
      refine wpQuiet_nil ?_
      intro _ hw'
      obtain ⟨⟨dq, osq⟩, hw''⟩ := hw'
      subst hw''
      have HM2 := Lib.hid (HM.out.after (below_regrown wr dq osq))
      generalize grow (redrawn wr dq) osq = w2 at HM2 ⊢
      clear q0 q1 q2
      go_wp2_with fail
      go_roundw
      case measure => simp only [intOf]; omega
      case rel => exact ⟨k + 1, nd.par, by omega, by simp, rfl, HUP, HM2.out⟩
    · have hkk : k = K := by omega
      subst hkk
      have hy : y = 0 := by rw [HY.out]; exact hK.top
      subst hy
      clear h hK
      go_wp2_with fail
      go_ret
      exact ret_mk rfl HM.out.bel
end Go.Proofs.Ytmjkcbhkmkofjaa

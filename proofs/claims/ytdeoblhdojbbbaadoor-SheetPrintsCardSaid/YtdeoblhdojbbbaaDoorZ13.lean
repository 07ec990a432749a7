/-
  WALKS: Show and Int of package names. Condition of these: the library's variables hold what its text lays.
  WALKS over package sheet: show; node: the node with a number, in its place.
-/
import Derived.Test.YtdeoblhdojbbbaaDoorZ12
import Derived.Lib.LaidTab
import Derived.Lib.SmallJoins
import Derived.Shelf.SlSorted.Search
namespace Go.Proofs.YtdeoblhdojbbbaaDoor
open Go Go.RowKit
set_option linter.unusedVariables false
theorem gTab : Tryd.prog.globalNamed "internal/strconv.uint64pow10" = some 0 := by kernel_rfl
theorem var_lt {w : World} {n : String} {g : Nat} {cs : Array Value} (hg : Tryd.prog.globalNamed n = some g) (h : w.var? Tryd.prog n = some cs) : g < w.heap.size := by
  unfold World.var? at h
  simp only [hg, Option.bind_some] at h
  by_cases hl : g < w.heap.size
  · exact hl
  · rw [Array.getElem?_eq_none (by omega)] at h; simp at h
/-- a string told, memory at most grown -/
def Tells (w : World) (l : List UInt8) (e : Ending) (w' : World) : Prop := e = .returned (.string ⟨l.toArray⟩) ∧ Below w.heap.size w w'
end Go.Proofs.YtdeoblhdojbbbaaDoor
namespace Go.Proofs.YtdeoblhdojbbbaaDoor
open Go Go.RowKit
set_option linter.unusedVariables false
/-- the library's table of powers of ten -/
def TabEnv (w : World) : Prop := Lib.TabIs Tryd.prog w "internal/strconv.uint64pow10" .u64 Lib.pow10Tab
theorem TabEnv.below {w w' : World} (h : TabEnv w) (hb : Below w.heap.size w w') : TabEnv w' := var?_below hb gTab (var_lt gTab h) h
set_option maxHeartbeats 400000 in
theorem showN_any (n : Int) (w : World) (h0 : -9223372036854775808 ≤ n) (h1 : n ≤ 9223372036854775807) (hE : TabEnv w) : Calls Tryd.prog 30 #[.int .i64 n] w (Tells w (Lib.itoa n)) := by
  have H : Hid (Calls Tryd.prog 50 #[.int .i64 n, .int .i64 10] w (Tells w (Lib.itoa n))) :=
    (Tryd.strconv_FormatInt_10 n h0 h1 w hE).mono fun e w' ⟨he, k, os, hw⟩ => ⟨he, by rw [hw]; exact below_grown_sl _ _ _ _ (Nat.le_refl _)⟩
  clear h0 h1 hE
  go_enter Tryd.func30, Tryd.ntmps30
  go_wp2_with (go_at_call 50; refine H.out.mono ?_; rintro e w' ⟨rfl, hb⟩)
  go_ret
  exact ⟨rfl, hb⟩
theorem show_s (n : Int) (w : World) (h0 : -9223372036854775808 ≤ n) (h1 : n ≤ 9223372036854775807) (hE : TabEnv w) : Calls Tryd.prog 12 #[.int .i64 n] w (Tells w (Lib.itoa n)) := by
  have H := Lib.hid (showN_any n w h0 h1 hE)
  clear h0 h1 hE
  go_enter Tryd.func12, Tryd.ntmps12
  go_wp2_with (go_at_call 30; refine H.out.mono ?_; rintro e w' ⟨rfl, hb⟩)
  go_ret
  exact ⟨rfl, hb⟩
set_option maxHeartbeats 400000 in
theorem snode1_any (w : World) (hi : Nat) (next id : Int) (b o n c : Nat) (nds : List Nd) (p1 p2 : Nat) (k : Nat) (nd : Nd) (L : Leaf)
    (h1 : w.cell? ⟨p1, 0, none⟩ = some (.int .i64 id)) (h2 : w.cell? ⟨p2, 1, none⟩ = some (.slice (some ⟨b, o, none⟩) n c)) (hk : k < n) (hnc : n ≤ c) (hc : c ≤ maxLen)
    (hat : w.cell? ⟨b, o + k * 7, none⟩ = some (.int .i64 nd.id)) :
    Calls Tryd.prog 33 #[.int .i64 k, .pointer (some ⟨p1, 0, none⟩), .pointer (some ⟨p2, 0, none⟩)] w fun e w' => e = .returned (.int .i64 (Lib.compareInt id nd.id)) ∧ ∃ q, w' = w.drewN q := by
  unfold maxLen at hc
  go_enter Tryd.func33, Tryd.ntmps33
  go_wp2_with fail
  go_quiet ((go_at_call 34; exact Calls.quiet_of_same (Tryd.cmp_Compare_int _ _ _)))
  go_wp2
  go_ret
  exact ⟨rfl, _, rfl⟩
set_option maxHeartbeats 1600000 in
theorem sfind_any (w : World) (hi : Nat) (next id : Int) (A : Option Addr) (n c : Nat) (nds : List Nd) (p1 p2 : Nat) (h : NodesIn w 0 hi A n c nds) (hr : Rise nds) (hn : n ≤ 4096)
    (h1 : w.cell? ⟨p1, 0, none⟩ = some (.int .i64 id)) (h2 : w.cell? ⟨p2, 1, none⟩ = some (.slice A n c)) :
    Calls Tryd.prog 32 #[.int .i64 n, .func (.func 33) #[] #[.pointer (some ⟨p1, 0, none⟩), .pointer (some ⟨p2, 0, none⟩)]] w (DrewV w (ixV nds id)) := by
  have hc := h.2.2.1
  have hnc := h.2.1
  have hl := Lib.hid h.1
  have C1 : ∀ (q k : Nat) (b o : Nat) (nd : Nd) (L : Leaf), A = some ⟨b, o, none⟩ → k < n → NodeAt w b (o + k * 7) nd L → Calls Tryd.prog 33 #[.int .i64 k, .pointer (some ⟨p1, 0, none⟩), .pointer (some ⟨p2, 0, none⟩)] (w.drewN q) fun e w' => e = .returned (.int .i64 (Lib.compareInt id nd.id)) ∧ ∃ q', w' = w.drewN q' := by
    intro q k b o nd L hA hk hat
    subst hA
    refine (snode1_any (w.drewN q) hi next id b o n c nds p1 p2 k nd L (by simpa using h1) (by simpa using h2) hk hnc hc (by simpa using hat.c0)).mono ?_
    rintro e w' ⟨he, q', hq⟩
    exact ⟨he, q + q', by rw [hq, World.drewN_drewN]⟩
  have HC := Lib.hid C1
  have H1 := Lib.hid h1
  have H2 := Lib.hid h2
  have hc63 : c ≤ 9223372036854775807 := by unfold maxLen at hc; omega
  clear C1 h1 h2 hc
  go_enter Tryd.func32, Tryd.ntmps32
  go_wp2_with fail
  go_loopw [4, 6] (fun x y wr => FindRel nds id w n x y wr) (fun x y _ => (intOf y - intOf x).toNat)
  case atStart => exact ⟨0, n, 0, Nat.le_refl _, rfl, rfl, Half.start nds id n hl.out, rfl⟩
  case round =>
    obtain ⟨l, m, q, hm, rfl, rfl, H, rfl⟩ := hrel
    have hle := H.le
    by_cases hlt : l < m
    · obtain ⟨b, o, nd, L, rfl, _, hb, hnd, hat, _⟩ := h.at_ (i := (l + m) / 2) (by omega)
      have hX := HC.out q ((l + m) / 2) b o nd L rfl (by omega) hat
      rw [show (((l + m) / 2 : Nat) : Int) = ((l : Int) + (m : Int)) / 2 from by omega] at hX
      have HX := Lib.hid hX
      clear hX
      by_cases hx : nd.id < id
      · have HU := Lib.hid (H.up hr hnd (by omega) hx)
        have d1 := (cmp_gt hx).1
        clear hx hnd hat
        go_wp2_with (go_at_call 33; refine HX.out.mono ?_; rintro e w' ⟨rfl, q', rfl⟩)
        go_roundw
        case rel => exact ⟨(l + m) / 2 + 1, m, q', hm, by go_num, rfl, HU.out, rfl⟩
        case measure => simp [intOf]; omega
      · have HU := Lib.hid (H.down hr hnd (by omega) (by omega))
        have d1 := cmp_le (x := id) (y := nd.id) (by omega)
        clear hx hnd hat
        go_wp2_with (go_at_call 33; refine HX.out.mono ?_; rintro e w' ⟨rfl, q', rfl⟩)
        go_roundw
        case rel => exact ⟨l, (l + m) / 2, q', by omega, rfl, by go_num, HU.out, rfl⟩
        case measure => simp [intOf]; omega
    · have he : m = l := by omega
      rw [he] at H
      clear he
      have hl' := hl.out
      have HR := Lib.hid (H.rank (by omega))
      by_cases hk : l < n
      · obtain ⟨b, o, nd, L, rfl, _, hb, hnd, hat, _⟩ := h.at_ (i := l) hk
        have HX := Lib.hid (HC.out q l b o nd L rfl (by omega) hat)
        have hS := (ixOf_none_some H hr).2 nd hnd
        by_cases hx : nd.id = id
        · have HS := Lib.hid (hS.1 hx)
          have d1 := cmp_eq hx.symm
          clear hx hS hnd hat hl'
          go_wp2_with (go_at_call 33; refine HX.out.mono ?_; rintro e w' ⟨rfl, q', rfl⟩)
          go_ret2
          unfold ixV
          rw [HS.out, HR.out]
          exact drew_v rfl
        · have HS := Lib.hid (hS.2 hx)
          have d1 := cmp_ne (x := id) (y := nd.id) (fun e => hx e.symm)
          clear hx hS hnd hat hl'
          go_wp2_with (go_at_call 33; refine HX.out.mono ?_; rintro e w' ⟨rfl, q', rfl⟩)
          go_ret2
          unfold ixV
          rw [HS.out, HR.out]
          exact drew_v rfl
      · have HS := Lib.hid ((ixOf_none_some H hr).1 (by omega))
        clear hl'
        go_wp2_with fail
        go_ret2
        unfold ixV
        rw [HS.out, HR.out]
        exact drew_v rfl
/-- the node with a number, in its place -/
def NodeIs (w : World) (b o i : Nat) (e : Ending) (w' : World) : Prop := e = .returned (.pointer (some ⟨b, o + i * 7, none⟩)) ∧ Below w.heap.size w w'
set_option maxHeartbeats 1600000 in
theorem snode_any (w : World) (hi : Nat) (next id : Int) (A : Option Addr) (n c : Nat) (nds : List Nd) (h : NodesIn w 0 hi A n c nds) (hh : hi ≤ w.heap.size) (hr : Rise nds) (hn : n ≤ 4096) (i : Nat) (nd : Nd) (hnd : nds[i]? = some nd) (hid : nd.id = id) (b o : Nat) (hA : A = some ⟨b, o, none⟩) :
    Calls Tryd.prog 15 #[.agg #[.int .i64 next, .slice A n c], .int .i64 id] w (NodeIs w b o i) := by
  have hc := h.2.2.1
  have hnc := h.2.1
  unfold maxLen at hc
  have hin : i < n := by rw [← h.1]; exact (List.getElem?_eq_some_iff.1 hnd).1
  subst hA
  have hix : ixV nds id = .tuple #[.int .i64 i, .bool true] := by
    unfold ixV
    rw [← hid, (rank_fast hr hnd).1, (rank_fast hr hnd).2]
  have HB0 : Hid (Below w.heap.size w ((w.alloc (.cells #[.int .i64 next, .slice (some ⟨b, o, none⟩) n c] 24)).alloc (.cells #[.int .i64 id] 3))) := Lib.hid (((Below.refl _ _).alloc (Nat.le_refl _) _).alloc (by simp) _)
  have HM0 : Hid (Blk ((w.alloc (.cells #[.int .i64 next, .slice (some ⟨b, o, none⟩) n c] 24)).alloc (.cells #[.int .i64 id] 3)) w.heap.size 24 #[.int .i64 next, .slice (some ⟨b, o, none⟩) n c]) := Lib.hid ((Blk.new _ _ _).alloc _)
  have HI0 : Hid (Blk ((w.alloc (.cells #[.int .i64 next, .slice (some ⟨b, o, none⟩) n c] 24)).alloc (.cells #[.int .i64 id] 3)) (w.heap.size + 1) 3 #[.int .i64 id]) := Lib.hid (Blk.new' (by simp))
  have HND := Lib.hid hnd
  have HID := Lib.hid hid
  have HF := Lib.hid (sfind_any ((w.alloc (.cells #[.int .i64 next, .slice (some ⟨b, o, none⟩) n c] 24)).alloc (.cells #[.int .i64 id] 3)) hi next id (some ⟨b, o, none⟩) n c nds (w.heap.size + 1) w.heap.size (h.below (HB0.out.mono hh)) hr hn ((HI0.out.cell 0).trans rfl) ((HM0.out.cell 1).trans rfl))
  rw [hix] at HF
  clear h hix hnd hid
  go_enter Tryd.func15, Tryd.ntmps15
  go_upto_region 1 with (fail)
  generalize (w.alloc (.cells #[.int .i64 next, .slice (some ⟨b, o, none⟩) n c] 24)).alloc (.cells #[.int .i64 id] 3) = W1 at HB0 HM0 HF ⊢
  have cx := (HM0.out.cell 1).trans (show _ = some (.slice (some ⟨b, o, none⟩) n c) from rfl)
  go_wp2_with (go_at_call 32; refine HF.out.mono ?_; rintro e w' ⟨rfl, q', rfl⟩)
  go_ret
  exact ⟨rfl, below_drewN HB0.out _⟩
end Go.Proofs.YtdeoblhdojbbbaaDoor

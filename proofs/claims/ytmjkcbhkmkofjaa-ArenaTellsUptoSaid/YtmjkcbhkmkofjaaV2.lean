/-
  WALKS: over.
-/
import Derived.Test.YtmjkcbhkmkofjaaV1
import Derived.Test.YtmjkcbhkmkofjaaW18
namespace Go.Proofs.Ytmjkcbhkmkofjaa
open Go Go.RowKit Go.Sort
set_option linter.unusedVariables false
attribute [local go_sem ↓] Go.wp_at_zero Go.wp_at_succ

theorem run_store_func' {P : Program} {w : World} {a : Addr} (f : Fn) (r : _) (caps : Array Value) (m : _) : (store a (.func f r caps) m).run P w = stored P w a (.func f r caps) m := run_store P w a _ m rfl
attribute [local go_sem] run_store_func'

set_option maxRecDepth 100000 in
set_option maxHeartbeats 3200000 in
theorem over_any (w0 : World) (hi g0 M : Nat) (next : Int) (A : Option Addr) (n c : Nat) (nds : List Nd) (F : FuncId) (caps : Array Value) (Inv : World → List (Int × Nat) → Prop) (V : Visit w0 g0 M A nds F caps Inv)
    (hN : NodesIn w0 0 hi A n c nds) (hh : hi ≤ w0.heap.size) (hg : hi ≤ g0) (hr : Rise nds) (hn : n ≤ 4096) (hI : Inv w0 []) (f : Nat) (ids : List Int) (A' : Option Addr) (n' c' : Nat)
    (hok : OkF nds f ids) (hrow : RowF w0 g0 A' n' c' ids) (hM : (pre nds f 1 ids).length ≤ M) (hf : f ≤ 65) :
    Calls Try.prog 82 #[.agg #[.int .i64 next, .slice A n c], .slice A' n' c', .func (.func F) #[] caps] w0 fun e X' => e = .returned (.tuple #[]) ∧ Inv X' (pre nds f 1 ids) := by
  have HDo := Lib.hid (down_any w0 hi g0 M next A n c nds F caps Inv V hN hh hg hr hn w0.heap.size (w0.heap.size + 1) (w0.heap.size + 1 + 1))
  have hB3 : Blk (((w0.alloc (.cells #[.int .i64 next, .slice A n c] 24)).alloc (.cells #[.func (.func F) #[] caps] 99)).alloc (.cells #[.nilFunc] 128)) (w0.heap.size + 1 + 1) 128 #[.nilFunc] := Blk.new' (by simp)
  have HO : Hid (OV next A n c w0.heap.size (w0.heap.size + 1) (w0.heap.size + 1 + 1) F caps Inv [] ((((w0.alloc (.cells #[.int .i64 next, .slice A n c] 24)).alloc (.cells #[.func (.func F) #[] caps] 99)).alloc (.cells #[.nilFunc] 128)).setCell ⟨w0.heap.size + 1 + 1, 0, none⟩ (.func (.func 120) #[] #[.pointer (some ⟨w0.heap.size, 0, none⟩), .pointer (some ⟨w0.heap.size + 1, 0, none⟩), .pointer (some ⟨w0.heap.size + 1 + 1, 0, none⟩)]))) := Lib.hid (by
    have hbel : Below w0.heap.size w0 (((w0.alloc (.cells #[.int .i64 next, .slice A n c] 24)).alloc (.cells #[.func (.func F) #[] caps] 99)).alloc (.cells #[.nilFunc] 128)) := below_more (below_more (below_more (Below.refl _ _) _) _) _
    refine ⟨V.after _ _ _ hI (hbel.setCell (p := ⟨w0.heap.size + 1 + 1, 0, none⟩) (by simp; omega) _), ?_, ?_, ?_⟩
    · exact Blk.far (((Blk.new w0 _ _).alloc _).alloc _) (p := ⟨w0.heap.size + 1 + 1, 0, none⟩) (by simp; omega) _
    · exact Blk.far ((Blk.new' (by simp)).alloc _) (p := ⟨w0.heap.size + 1 + 1, 0, none⟩) (by simp) _
    · exact hB3.set_ 0 _)
  have HB3 := Lib.hid hB3
  clear hB3
  have HOK := Lib.hid hok
  have HRW := Lib.hid hrow
  have HM := Lib.hid hM
  have HV := Lib.hid V
  have HI := Lib.hid hI
  clear hok hrow hM V hI hN
  go_enter Try.func82, Try.ntmps82
  go_upto_region 2 with (fail)
  generalize (((w0.alloc (.cells #[.int .i64 next, .slice A n c] 24)).alloc (.cells #[.func (.func F) #[] caps] 99)).alloc (.cells #[.nilFunc] 128)) = X3 at HB3 HO ⊢
  have s0 : X3.cell? ⟨w0.heap.size + 1 + 1, 0, none⟩ = some .nilFunc := (HB3.out.cell 0).trans rfl
  have s1 := HB3.out.frozen 0
  have HD0 := Lib.hid (HO.out.d.cell 0)
  go_wp2_with (go_at_call 120; go_must (refine (HDo.out f _ [] ids A' n' c' 1 HO.out HOK.out HRW.out (by have := HM.out; simpa using this) (by omega)).mono ?_; rintro e w5 ⟨rfl, hv5⟩; have HV5 := Lib.hid hv5; clear hv5))
  (try simp only [Exit.inBlock, Exit.then])
  first | refine bodyPost_ret (results_none (by kernel_rfl) _ _ _) rfl ?_ | refine bodyPost_end (results_none (by kernel_rfl) _ _ _) rfl ?_
  exact ⟨rfl, HV5.out.inv⟩
end Go.Proofs.Ytmjkcbhkmkofjaa

/-
  WALKS over the document's own answers: may a token be; its text.
-/
import Derived.Test.YtinhlemebnlijaaDoorZ2
import Derived.Test.YtinhlemebnlijaaDoorY12
import Derived.Test.YtinhlemebnlijaaDoorW6
import Derived.Deep.WholeRow
namespace Go.Proofs.YtinhlemebnlijaaDoor
open Go Go.RowKit
set_option linter.unusedVariables false
/-- whole's answer, by its kind and its yes -/
def WholeK (T : ByteArray) (K : Int) (b : Bool) (w : World) : Prop := ∀ Y, Below w.heap.size w Y → Calls Tryd.prog 21 #[.string T] Y (fun e w' => Below Y.heap.size Y w' ∧ ∃ K' TX NX PX, (b = true → K = K') ∧ e = .returned (.tuple #[.agg #[.int .i64 K', .string TX, .int .i64 NX, .int .i64 PX], .bool b]))
set_option maxHeartbeats 1600000 in
theorem may_3_n (n pl : Int) (T : ByteArray) (K : Int) (w : World) (HW : WholeK T K false w) : Calls Tryd.prog 27 #[.agg #[.int .i64 3, .string T, .int .i64 n, .int .i64 pl]] w (Tells1 w false) := by
  have HW := Lib.hid HW
  obtain ⟨X, hX⟩ : ∃ X, w.alloc (.cells #[.int .i64 3, .string T, .int .i64 n, .int .i64 pl] 30) = X := ⟨_, rfl⟩
  have HX : Hid (Below w.heap.size w X) := Lib.hid (by rw [← hX]; exact (Below.refl _ _).alloc (Nat.le_refl _) _)
  have HXB : Hid (Blk X w.heap.size 30 #[.int .i64 3, .string T, .int .i64 n, .int .i64 pl]) := Lib.hid (by rw [← hX]; exact Blk.new w _ _)
  have k0 : X.cell? ⟨w.heap.size, 0, none⟩ = some (.int .i64 3) := HXB.out.cell 0
  have k1 : X.cell? ⟨w.heap.size, 1, none⟩ = some (.string T) := HXB.out.cell 1
  go_enter Tryd.func27, Tryd.ntmps27
  go_wp2_with (first | (go_at_call 21; refine (HW.out _ HX.out).mono ?_; rintro e w2 ⟨hb2, K', TX, NX, PX, hKK, rfl⟩; clear hKK;  have HB2 := Lib.hid (HXB.out.after hb2); have HL2 := Lib.hid (HX.out.trans (hb2.mono HX.out.size)); clear hb2) | ((with_reducible show wpList _ _ _ (Oper.mk _ (Op.store 30 _ _) _ _ _ _ :: _) _ _); refine wpList_store_row rfl _ _ _ rfl w2.heap.size _ rfl rfl 30 tok0 (Blk.new w2 _ _) infoTok rfl (one_tok _ _ _ _) ?_; rw [World.setRow_alloc_new]; obtain ⟨S, hS⟩ : ∃ S, w2.alloc (.cells #[.int .i64 K', .string TX, .int .i64 NX, .int .i64 PX] 30) = S := ⟨_, rfl⟩; have e0 : S.cell? ⟨w2.heap.size, 0, none⟩ = some (.int .i64 K') := (by rw [← hS]; exact (Blk.new w2 _ _).cell 0); have x0 : S.cell? ⟨w.heap.size, 0, none⟩ = some (.int .i64 3) := (by rw [← hS]; exact (HB2.out.alloc _).cell 0); have x2 : S.cell? ⟨w.heap.size, 2, none⟩ = some (.int .i64 n) := (by rw [← hS]; exact (HB2.out.alloc _).cell 2); have HS : Hid (Below w.heap.size w S) := Lib.hid (by rw [← hS]; exact HL2.out.alloc HL2.out.size _)))
  go_ret
  exact tells1 rfl HS.out
set_option maxHeartbeats 1600000 in
theorem may_3_k (n pl : Int) (T : ByteArray) (K : Int) (w : World) (HW : WholeK T K true w) (hK : (K == 3) = false) : Calls Tryd.prog 27 #[.agg #[.int .i64 3, .string T, .int .i64 n, .int .i64 pl]] w (Tells1 w false) := by
  have HW := Lib.hid HW
  obtain ⟨X, hX⟩ : ∃ X, w.alloc (.cells #[.int .i64 3, .string T, .int .i64 n, .int .i64 pl] 30) = X := ⟨_, rfl⟩
  have HX : Hid (Below w.heap.size w X) := Lib.hid (by rw [← hX]; exact (Below.refl _ _).alloc (Nat.le_refl _) _)
  have HXB : Hid (Blk X w.heap.size 30 #[.int .i64 3, .string T, .int .i64 n, .int .i64 pl]) := Lib.hid (by rw [← hX]; exact Blk.new w _ _)
  have k0 : X.cell? ⟨w.heap.size, 0, none⟩ = some (.int .i64 3) := HXB.out.cell 0
  have k1 : X.cell? ⟨w.heap.size, 1, none⟩ = some (.string T) := HXB.out.cell 1
  go_enter Tryd.func27, Tryd.ntmps27
  go_wp2_with (first | (go_at_call 21; refine (HW.out _ HX.out).mono ?_; rintro e w2 ⟨hb2, K', TX, NX, PX, hKK, rfl⟩; have hKK := hKK rfl; subst hKK;  have HB2 := Lib.hid (HXB.out.after hb2); have HL2 := Lib.hid (HX.out.trans (hb2.mono HX.out.size)); clear hb2) | ((with_reducible show wpList _ _ _ (Oper.mk _ (Op.store 30 _ _) _ _ _ _ :: _) _ _); refine wpList_store_row rfl _ _ _ rfl w2.heap.size _ rfl rfl 30 tok0 (Blk.new w2 _ _) infoTok rfl (one_tok _ _ _ _) ?_; rw [World.setRow_alloc_new]; obtain ⟨S, hS⟩ : ∃ S, w2.alloc (.cells #[.int .i64 K, .string TX, .int .i64 NX, .int .i64 PX] 30) = S := ⟨_, rfl⟩; have e0 : S.cell? ⟨w2.heap.size, 0, none⟩ = some (.int .i64 K) := (by rw [← hS]; exact (Blk.new w2 _ _).cell 0); have x0 : S.cell? ⟨w.heap.size, 0, none⟩ = some (.int .i64 3) := (by rw [← hS]; exact (HB2.out.alloc _).cell 0); have x2 : S.cell? ⟨w.heap.size, 2, none⟩ = some (.int .i64 n) := (by rw [← hS]; exact (HB2.out.alloc _).cell 2); have HS : Hid (Below w.heap.size w S) := Lib.hid (by rw [← hS]; exact HL2.out.alloc HL2.out.size _)))
  go_ret
  exact tells1 rfl HS.out
set_option maxHeartbeats 1600000 in
theorem may_3_o (n pl : Int) (T : ByteArray) (K : Int) (w : World) (HW : WholeK T K true w) (hK : (K == 3) = true) (hn : (n == 0) = false) : Calls Tryd.prog 27 #[.agg #[.int .i64 3, .string T, .int .i64 n, .int .i64 pl]] w (Tells1 w false) := by
  have HW := Lib.hid HW
  obtain ⟨X, hX⟩ : ∃ X, w.alloc (.cells #[.int .i64 3, .string T, .int .i64 n, .int .i64 pl] 30) = X := ⟨_, rfl⟩
  have HX : Hid (Below w.heap.size w X) := Lib.hid (by rw [← hX]; exact (Below.refl _ _).alloc (Nat.le_refl _) _)
  have HXB : Hid (Blk X w.heap.size 30 #[.int .i64 3, .string T, .int .i64 n, .int .i64 pl]) := Lib.hid (by rw [← hX]; exact Blk.new w _ _)
  have k0 : X.cell? ⟨w.heap.size, 0, none⟩ = some (.int .i64 3) := HXB.out.cell 0
  have k1 : X.cell? ⟨w.heap.size, 1, none⟩ = some (.string T) := HXB.out.cell 1
  go_enter Tryd.func27, Tryd.ntmps27
  go_wp2_with (first | (go_at_call 21; refine (HW.out _ HX.out).mono ?_; rintro e w2 ⟨hb2, K', TX, NX, PX, hKK, rfl⟩; have hKK := hKK rfl; subst hKK;  have HB2 := Lib.hid (HXB.out.after hb2); have HL2 := Lib.hid (HX.out.trans (hb2.mono HX.out.size)); clear hb2) | ((with_reducible show wpList _ _ _ (Oper.mk _ (Op.store 30 _ _) _ _ _ _ :: _) _ _); refine wpList_store_row rfl _ _ _ rfl w2.heap.size _ rfl rfl 30 tok0 (Blk.new w2 _ _) infoTok rfl (one_tok _ _ _ _) ?_; rw [World.setRow_alloc_new]; obtain ⟨S, hS⟩ : ∃ S, w2.alloc (.cells #[.int .i64 K, .string TX, .int .i64 NX, .int .i64 PX] 30) = S := ⟨_, rfl⟩; have e0 : S.cell? ⟨w2.heap.size, 0, none⟩ = some (.int .i64 K) := (by rw [← hS]; exact (Blk.new w2 _ _).cell 0); have x0 : S.cell? ⟨w.heap.size, 0, none⟩ = some (.int .i64 3) := (by rw [← hS]; exact (HB2.out.alloc _).cell 0); have x2 : S.cell? ⟨w.heap.size, 2, none⟩ = some (.int .i64 n) := (by rw [← hS]; exact (HB2.out.alloc _).cell 2); have HS : Hid (Below w.heap.size w S) := Lib.hid (by rw [← hS]; exact HL2.out.alloc HL2.out.size _)))
  go_ret
  exact tells1 rfl HS.out
set_option maxHeartbeats 1600000 in
theorem may_3_z (n pl : Int) (T : ByteArray) (K : Int) (w : World) (HW : WholeK T K true w) (hK : (K == 3) = true) (hn : (n == 0) = true) : Calls Tryd.prog 27 #[.agg #[.int .i64 3, .string T, .int .i64 n, .int .i64 pl]] w (Tells1 w true) := by
  have HW := Lib.hid HW
  obtain ⟨X, hX⟩ : ∃ X, w.alloc (.cells #[.int .i64 3, .string T, .int .i64 n, .int .i64 pl] 30) = X := ⟨_, rfl⟩
  have HX : Hid (Below w.heap.size w X) := Lib.hid (by rw [← hX]; exact (Below.refl _ _).alloc (Nat.le_refl _) _)
  have HXB : Hid (Blk X w.heap.size 30 #[.int .i64 3, .string T, .int .i64 n, .int .i64 pl]) := Lib.hid (by rw [← hX]; exact Blk.new w _ _)
  have k0 : X.cell? ⟨w.heap.size, 0, none⟩ = some (.int .i64 3) := HXB.out.cell 0
  have k1 : X.cell? ⟨w.heap.size, 1, none⟩ = some (.string T) := HXB.out.cell 1
  go_enter Tryd.func27, Tryd.ntmps27
  go_wp2_with (first | (go_at_call 21; refine (HW.out _ HX.out).mono ?_; rintro e w2 ⟨hb2, K', TX, NX, PX, hKK, rfl⟩; have hKK := hKK rfl; subst hKK;  have HB2 := Lib.hid (HXB.out.after hb2); have HL2 := Lib.hid (HX.out.trans (hb2.mono HX.out.size)); clear hb2) | ((with_reducible show wpList _ _ _ (Oper.mk _ (Op.store 30 _ _) _ _ _ _ :: _) _ _); refine wpList_store_row rfl _ _ _ rfl w2.heap.size _ rfl rfl 30 tok0 (Blk.new w2 _ _) infoTok rfl (one_tok _ _ _ _) ?_; rw [World.setRow_alloc_new]; obtain ⟨S, hS⟩ : ∃ S, w2.alloc (.cells #[.int .i64 K, .string TX, .int .i64 NX, .int .i64 PX] 30) = S := ⟨_, rfl⟩; have e0 : S.cell? ⟨w2.heap.size, 0, none⟩ = some (.int .i64 K) := (by rw [← hS]; exact (Blk.new w2 _ _).cell 0); have x0 : S.cell? ⟨w.heap.size, 0, none⟩ = some (.int .i64 3) := (by rw [← hS]; exact (HB2.out.alloc _).cell 0); have x2 : S.cell? ⟨w.heap.size, 2, none⟩ = some (.int .i64 n) := (by rw [← hS]; exact (HB2.out.alloc _).cell 2); have HS : Hid (Below w.heap.size w S) := Lib.hid (by rw [← hS]; exact HL2.out.alloc HL2.out.size _)))
  go_ret
  exact tells1 rfl HS.out
set_option maxHeartbeats 1600000 in
theorem may_4_n (n pl : Int) (T : ByteArray) (K : Int) (w : World) (HW : WholeK T K false w) : Calls Tryd.prog 27 #[.agg #[.int .i64 4, .string T, .int .i64 n, .int .i64 pl]] w (Tells1 w false) := by
  have HW := Lib.hid HW
  obtain ⟨X, hX⟩ : ∃ X, w.alloc (.cells #[.int .i64 4, .string T, .int .i64 n, .int .i64 pl] 30) = X := ⟨_, rfl⟩
  have HX : Hid (Below w.heap.size w X) := Lib.hid (by rw [← hX]; exact (Below.refl _ _).alloc (Nat.le_refl _) _)
  have HXB : Hid (Blk X w.heap.size 30 #[.int .i64 4, .string T, .int .i64 n, .int .i64 pl]) := Lib.hid (by rw [← hX]; exact Blk.new w _ _)
  have k0 : X.cell? ⟨w.heap.size, 0, none⟩ = some (.int .i64 4) := HXB.out.cell 0
  have k1 : X.cell? ⟨w.heap.size, 1, none⟩ = some (.string T) := HXB.out.cell 1
  go_enter Tryd.func27, Tryd.ntmps27
  go_wp2_with (first | (go_at_call 21; refine (HW.out _ HX.out).mono ?_; rintro e w2 ⟨hb2, K', TX, NX, PX, hKK, rfl⟩; clear hKK;  have HB2 := Lib.hid (HXB.out.after hb2); have HL2 := Lib.hid (HX.out.trans (hb2.mono HX.out.size)); clear hb2) | ((with_reducible show wpList _ _ _ (Oper.mk _ (Op.store 30 _ _) _ _ _ _ :: _) _ _); refine wpList_store_row rfl _ _ _ rfl w2.heap.size _ rfl rfl 30 tok0 (Blk.new w2 _ _) infoTok rfl (one_tok _ _ _ _) ?_; rw [World.setRow_alloc_new]; obtain ⟨S, hS⟩ : ∃ S, w2.alloc (.cells #[.int .i64 K', .string TX, .int .i64 NX, .int .i64 PX] 30) = S := ⟨_, rfl⟩; have e0 : S.cell? ⟨w2.heap.size, 0, none⟩ = some (.int .i64 K') := (by rw [← hS]; exact (Blk.new w2 _ _).cell 0); have x0 : S.cell? ⟨w.heap.size, 0, none⟩ = some (.int .i64 4) := (by rw [← hS]; exact (HB2.out.alloc _).cell 0); have x2 : S.cell? ⟨w.heap.size, 2, none⟩ = some (.int .i64 n) := (by rw [← hS]; exact (HB2.out.alloc _).cell 2); have HS : Hid (Below w.heap.size w S) := Lib.hid (by rw [← hS]; exact HL2.out.alloc HL2.out.size _)))
  go_ret
  exact tells1 rfl HS.out
set_option maxHeartbeats 1600000 in
theorem may_4_k (n pl : Int) (T : ByteArray) (K : Int) (w : World) (HW : WholeK T K true w) (hK : (K == 4) = false) : Calls Tryd.prog 27 #[.agg #[.int .i64 4, .string T, .int .i64 n, .int .i64 pl]] w (Tells1 w false) := by
  have HW := Lib.hid HW
  obtain ⟨X, hX⟩ : ∃ X, w.alloc (.cells #[.int .i64 4, .string T, .int .i64 n, .int .i64 pl] 30) = X := ⟨_, rfl⟩
  have HX : Hid (Below w.heap.size w X) := Lib.hid (by rw [← hX]; exact (Below.refl _ _).alloc (Nat.le_refl _) _)
  have HXB : Hid (Blk X w.heap.size 30 #[.int .i64 4, .string T, .int .i64 n, .int .i64 pl]) := Lib.hid (by rw [← hX]; exact Blk.new w _ _)
  have k0 : X.cell? ⟨w.heap.size, 0, none⟩ = some (.int .i64 4) := HXB.out.cell 0
  have k1 : X.cell? ⟨w.heap.size, 1, none⟩ = some (.string T) := HXB.out.cell 1
  go_enter Tryd.func27, Tryd.ntmps27
  go_wp2_with (first | (go_at_call 21; refine (HW.out _ HX.out).mono ?_; rintro e w2 ⟨hb2, K', TX, NX, PX, hKK, rfl⟩; have hKK := hKK rfl; subst hKK;  have HB2 := Lib.hid (HXB.out.after hb2); have HL2 := Lib.hid (HX.out.trans (hb2.mono HX.out.size)); clear hb2) | ((with_reducible show wpList _ _ _ (Oper.mk _ (Op.store 30 _ _) _ _ _ _ :: _) _ _); refine wpList_store_row rfl _ _ _ rfl w2.heap.size _ rfl rfl 30 tok0 (Blk.new w2 _ _) infoTok rfl (one_tok _ _ _ _) ?_; rw [World.setRow_alloc_new]; obtain ⟨S, hS⟩ : ∃ S, w2.alloc (.cells #[.int .i64 K, .string TX, .int .i64 NX, .int .i64 PX] 30) = S := ⟨_, rfl⟩; have e0 : S.cell? ⟨w2.heap.size, 0, none⟩ = some (.int .i64 K) := (by rw [← hS]; exact (Blk.new w2 _ _).cell 0); have x0 : S.cell? ⟨w.heap.size, 0, none⟩ = some (.int .i64 4) := (by rw [← hS]; exact (HB2.out.alloc _).cell 0); have x2 : S.cell? ⟨w.heap.size, 2, none⟩ = some (.int .i64 n) := (by rw [← hS]; exact (HB2.out.alloc _).cell 2); have HS : Hid (Below w.heap.size w S) := Lib.hid (by rw [← hS]; exact HL2.out.alloc HL2.out.size _)))
  go_ret
  exact tells1 rfl HS.out
set_option maxHeartbeats 1600000 in
theorem may_4_o (n pl : Int) (T : ByteArray) (K : Int) (w : World) (HW : WholeK T K true w) (hK : (K == 4) = true) (hn : (n == 0) = false) : Calls Tryd.prog 27 #[.agg #[.int .i64 4, .string T, .int .i64 n, .int .i64 pl]] w (Tells1 w false) := by
  have HW := Lib.hid HW
  obtain ⟨X, hX⟩ : ∃ X, w.alloc (.cells #[.int .i64 4, .string T, .int .i64 n, .int .i64 pl] 30) = X := ⟨_, rfl⟩
  have HX : Hid (Below w.heap.size w X) := Lib.hid (by rw [← hX]; exact (Below.refl _ _).alloc (Nat.le_refl _) _)
  have HXB : Hid (Blk X w.heap.size 30 #[.int .i64 4, .string T, .int .i64 n, .int .i64 pl]) := Lib.hid (by rw [← hX]; exact Blk.new w _ _)
  have k0 : X.cell? ⟨w.heap.size, 0, none⟩ = some (.int .i64 4) := HXB.out.cell 0
  have k1 : X.cell? ⟨w.heap.size, 1, none⟩ = some (.string T) := HXB.out.cell 1
  go_enter Tryd.func27, Tryd.ntmps27
  go_wp2_with (first | (go_at_call 21; refine (HW.out _ HX.out).mono ?_; rintro e w2 ⟨hb2, K', TX, NX, PX, hKK, rfl⟩; have hKK := hKK rfl; subst hKK;  have HB2 := Lib.hid (HXB.out.after hb2); have HL2 := Lib.hid (HX.out.trans (hb2.mono HX.out.size)); clear hb2) | ((with_reducible show wpList _ _ _ (Oper.mk _ (Op.store 30 _ _) _ _ _ _ :: _) _ _); refine wpList_store_row rfl _ _ _ rfl w2.heap.size _ rfl rfl 30 tok0 (Blk.new w2 _ _) infoTok rfl (one_tok _ _ _ _) ?_; rw [World.setRow_alloc_new]; obtain ⟨S, hS⟩ : ∃ S, w2.alloc (.cells #[.int .i64 K, .string TX, .int .i64 NX, .int .i64 PX] 30) = S := ⟨_, rfl⟩; have e0 : S.cell? ⟨w2.heap.size, 0, none⟩ = some (.int .i64 K) := (by rw [← hS]; exact (Blk.new w2 _ _).cell 0); have x0 : S.cell? ⟨w.heap.size, 0, none⟩ = some (.int .i64 4) := (by rw [← hS]; exact (HB2.out.alloc _).cell 0); have x2 : S.cell? ⟨w.heap.size, 2, none⟩ = some (.int .i64 n) := (by rw [← hS]; exact (HB2.out.alloc _).cell 2); have HS : Hid (Below w.heap.size w S) := Lib.hid (by rw [← hS]; exact HL2.out.alloc HL2.out.size _)))
  go_ret
  exact tells1 rfl HS.out
set_option maxHeartbeats 1600000 in
theorem may_4_z (n pl : Int) (T : ByteArray) (K : Int) (w : World) (HW : WholeK T K true w) (hK : (K == 4) = true) (hn : (n == 0) = true) : Calls Tryd.prog 27 #[.agg #[.int .i64 4, .string T, .int .i64 n, .int .i64 pl]] w (Tells1 w true) := by
  have HW := Lib.hid HW
  obtain ⟨X, hX⟩ : ∃ X, w.alloc (.cells #[.int .i64 4, .string T, .int .i64 n, .int .i64 pl] 30) = X := ⟨_, rfl⟩
  have HX : Hid (Below w.heap.size w X) := Lib.hid (by rw [← hX]; exact (Below.refl _ _).alloc (Nat.le_refl _) _)
  have HXB : Hid (Blk X w.heap.size 30 #[.int .i64 4, .string T, .int .i64 n, .int .i64 pl]) := Lib.hid (by rw [← hX]; exact Blk.new w _ _)
  have k0 : X.cell? ⟨w.heap.size, 0, none⟩ = some (.int .i64 4) := HXB.out.cell 0
  have k1 : X.cell? ⟨w.heap.size, 1, none⟩ = some (.string T) := HXB.out.cell 1
  go_enter Tryd.func27, Tryd.ntmps27
  go_wp2_with (first | (go_at_call 21; refine (HW.out _ HX.out).mono ?_; rintro e w2 ⟨hb2, K', TX, NX, PX, hKK, rfl⟩; have hKK := hKK rfl; subst hKK;  have HB2 := Lib.hid (HXB.out.after hb2); have HL2 := Lib.hid (HX.out.trans (hb2.mono HX.out.size)); clear hb2) | ((with_reducible show wpList _ _ _ (Oper.mk _ (Op.store 30 _ _) _ _ _ _ :: _) _ _); refine wpList_store_row rfl _ _ _ rfl w2.heap.size _ rfl rfl 30 tok0 (Blk.new w2 _ _) infoTok rfl (one_tok _ _ _ _) ?_; rw [World.setRow_alloc_new]; obtain ⟨S, hS⟩ : ∃ S, w2.alloc (.cells #[.int .i64 K, .string TX, .int .i64 NX, .int .i64 PX] 30) = S := ⟨_, rfl⟩; have e0 : S.cell? ⟨w2.heap.size, 0, none⟩ = some (.int .i64 K) := (by rw [← hS]; exact (Blk.new w2 _ _).cell 0); have x0 : S.cell? ⟨w.heap.size, 0, none⟩ = some (.int .i64 4) := (by rw [← hS]; exact (HB2.out.alloc _).cell 0); have x2 : S.cell? ⟨w.heap.size, 2, none⟩ = some (.int .i64 n) := (by rw [← hS]; exact (HB2.out.alloc _).cell 2); have HS : Hid (Below w.heap.size w S) := Lib.hid (by rw [← hS]; exact HL2.out.alloc HL2.out.size _)))
  go_ret
  exact tells1 rfl HS.out
set_option maxHeartbeats 1600000 in
theorem may_5_n (n pl : Int) (T : ByteArray) (K : Int) (w : World) (HW : WholeK T K false w) : Calls Tryd.prog 27 #[.agg #[.int .i64 5, .string T, .int .i64 n, .int .i64 pl]] w (Tells1 w false) := by
  have HW := Lib.hid HW
  obtain ⟨X, hX⟩ : ∃ X, w.alloc (.cells #[.int .i64 5, .string T, .int .i64 n, .int .i64 pl] 30) = X := ⟨_, rfl⟩
  have HX : Hid (Below w.heap.size w X) := Lib.hid (by rw [← hX]; exact (Below.refl _ _).alloc (Nat.le_refl _) _)
  have HXB : Hid (Blk X w.heap.size 30 #[.int .i64 5, .string T, .int .i64 n, .int .i64 pl]) := Lib.hid (by rw [← hX]; exact Blk.new w _ _)
  have k0 : X.cell? ⟨w.heap.size, 0, none⟩ = some (.int .i64 5) := HXB.out.cell 0
  have k1 : X.cell? ⟨w.heap.size, 1, none⟩ = some (.string T) := HXB.out.cell 1
  go_enter Tryd.func27, Tryd.ntmps27
  go_wp2_with (first | (go_at_call 21; refine (HW.out _ HX.out).mono ?_; rintro e w2 ⟨hb2, K', TX, NX, PX, hKK, rfl⟩; clear hKK;  have HB2 := Lib.hid (HXB.out.after hb2); have HL2 := Lib.hid (HX.out.trans (hb2.mono HX.out.size)); clear hb2) | ((with_reducible show wpList _ _ _ (Oper.mk _ (Op.store 30 _ _) _ _ _ _ :: _) _ _); refine wpList_store_row rfl _ _ _ rfl w2.heap.size _ rfl rfl 30 tok0 (Blk.new w2 _ _) infoTok rfl (one_tok _ _ _ _) ?_; rw [World.setRow_alloc_new]; obtain ⟨S, hS⟩ : ∃ S, w2.alloc (.cells #[.int .i64 K', .string TX, .int .i64 NX, .int .i64 PX] 30) = S := ⟨_, rfl⟩; have e0 : S.cell? ⟨w2.heap.size, 0, none⟩ = some (.int .i64 K') := (by rw [← hS]; exact (Blk.new w2 _ _).cell 0); have x0 : S.cell? ⟨w.heap.size, 0, none⟩ = some (.int .i64 5) := (by rw [← hS]; exact (HB2.out.alloc _).cell 0); have x2 : S.cell? ⟨w.heap.size, 2, none⟩ = some (.int .i64 n) := (by rw [← hS]; exact (HB2.out.alloc _).cell 2); have HS : Hid (Below w.heap.size w S) := Lib.hid (by rw [← hS]; exact HL2.out.alloc HL2.out.size _)))
  go_ret
  exact tells1 rfl HS.out
set_option maxHeartbeats 1600000 in
theorem may_5_k (n pl : Int) (T : ByteArray) (K : Int) (w : World) (HW : WholeK T K true w) (hK : (K == 5) = false) : Calls Tryd.prog 27 #[.agg #[.int .i64 5, .string T, .int .i64 n, .int .i64 pl]] w (Tells1 w false) := by
  have HW := Lib.hid HW
  obtain ⟨X, hX⟩ : ∃ X, w.alloc (.cells #[.int .i64 5, .string T, .int .i64 n, .int .i64 pl] 30) = X := ⟨_, rfl⟩
  have HX : Hid (Below w.heap.size w X) := Lib.hid (by rw [← hX]; exact (Below.refl _ _).alloc (Nat.le_refl _) _)
  have HXB : Hid (Blk X w.heap.size 30 #[.int .i64 5, .string T, .int .i64 n, .int .i64 pl]) := Lib.hid (by rw [← hX]; exact Blk.new w _ _)
  have k0 : X.cell? ⟨w.heap.size, 0, none⟩ = some (.int .i64 5) := HXB.out.cell 0
  have k1 : X.cell? ⟨w.heap.size, 1, none⟩ = some (.string T) := HXB.out.cell 1
  go_enter Tryd.func27, Tryd.ntmps27
  go_wp2_with (first | (go_at_call 21; refine (HW.out _ HX.out).mono ?_; rintro e w2 ⟨hb2, K', TX, NX, PX, hKK, rfl⟩; have hKK := hKK rfl; subst hKK;  have HB2 := Lib.hid (HXB.out.after hb2); have HL2 := Lib.hid (HX.out.trans (hb2.mono HX.out.size)); clear hb2) | ((with_reducible show wpList _ _ _ (Oper.mk _ (Op.store 30 _ _) _ _ _ _ :: _) _ _); refine wpList_store_row rfl _ _ _ rfl w2.heap.size _ rfl rfl 30 tok0 (Blk.new w2 _ _) infoTok rfl (one_tok _ _ _ _) ?_; rw [World.setRow_alloc_new]; obtain ⟨S, hS⟩ : ∃ S, w2.alloc (.cells #[.int .i64 K, .string TX, .int .i64 NX, .int .i64 PX] 30) = S := ⟨_, rfl⟩; have e0 : S.cell? ⟨w2.heap.size, 0, none⟩ = some (.int .i64 K) := (by rw [← hS]; exact (Blk.new w2 _ _).cell 0); have x0 : S.cell? ⟨w.heap.size, 0, none⟩ = some (.int .i64 5) := (by rw [← hS]; exact (HB2.out.alloc _).cell 0); have x2 : S.cell? ⟨w.heap.size, 2, none⟩ = some (.int .i64 n) := (by rw [← hS]; exact (HB2.out.alloc _).cell 2); have HS : Hid (Below w.heap.size w S) := Lib.hid (by rw [← hS]; exact HL2.out.alloc HL2.out.size _)))
  go_ret
  exact tells1 rfl HS.out
set_option maxHeartbeats 1600000 in
theorem may_5_o (n pl : Int) (T : ByteArray) (K : Int) (w : World) (HW : WholeK T K true w) (hK : (K == 5) = true) (hn : (n == 0) = false) : Calls Tryd.prog 27 #[.agg #[.int .i64 5, .string T, .int .i64 n, .int .i64 pl]] w (Tells1 w false) := by
  have HW := Lib.hid HW
  obtain ⟨X, hX⟩ : ∃ X, w.alloc (.cells #[.int .i64 5, .string T, .int .i64 n, .int .i64 pl] 30) = X := ⟨_, rfl⟩
  have HX : Hid (Below w.heap.size w X) := Lib.hid (by rw [← hX]; exact (Below.refl _ _).alloc (Nat.le_refl _) _)
  have HXB : Hid (Blk X w.heap.size 30 #[.int .i64 5, .string T, .int .i64 n, .int .i64 pl]) := Lib.hid (by rw [← hX]; exact Blk.new w _ _)
  have k0 : X.cell? ⟨w.heap.size, 0, none⟩ = some (.int .i64 5) := HXB.out.cell 0
  have k1 : X.cell? ⟨w.heap.size, 1, none⟩ = some (.string T) := HXB.out.cell 1
  go_enter Tryd.func27, Tryd.ntmps27
  go_wp2_with (first | (go_at_call 21; refine (HW.out _ HX.out).mono ?_; rintro e w2 ⟨hb2, K', TX, NX, PX, hKK, rfl⟩; have hKK := hKK rfl; subst hKK;  have HB2 := Lib.hid (HXB.out.after hb2); have HL2 := Lib.hid (HX.out.trans (hb2.mono HX.out.size)); clear hb2) | ((with_reducible show wpList _ _ _ (Oper.mk _ (Op.store 30 _ _) _ _ _ _ :: _) _ _); refine wpList_store_row rfl _ _ _ rfl w2.heap.size _ rfl rfl 30 tok0 (Blk.new w2 _ _) infoTok rfl (one_tok _ _ _ _) ?_; rw [World.setRow_alloc_new]; obtain ⟨S, hS⟩ : ∃ S, w2.alloc (.cells #[.int .i64 K, .string TX, .int .i64 NX, .int .i64 PX] 30) = S := ⟨_, rfl⟩; have e0 : S.cell? ⟨w2.heap.size, 0, none⟩ = some (.int .i64 K) := (by rw [← hS]; exact (Blk.new w2 _ _).cell 0); have x0 : S.cell? ⟨w.heap.size, 0, none⟩ = some (.int .i64 5) := (by rw [← hS]; exact (HB2.out.alloc _).cell 0); have x2 : S.cell? ⟨w.heap.size, 2, none⟩ = some (.int .i64 n) := (by rw [← hS]; exact (HB2.out.alloc _).cell 2); have HS : Hid (Below w.heap.size w S) := Lib.hid (by rw [← hS]; exact HL2.out.alloc HL2.out.size _)))
  go_ret
  exact tells1 rfl HS.out
set_option maxHeartbeats 1600000 in
theorem may_5_z (n pl : Int) (T : ByteArray) (K : Int) (w : World) (HW : WholeK T K true w) (hK : (K == 5) = true) (hn : (n == 0) = true) : Calls Tryd.prog 27 #[.agg #[.int .i64 5, .string T, .int .i64 n, .int .i64 pl]] w (Tells1 w true) := by
  have HW := Lib.hid HW
  obtain ⟨X, hX⟩ : ∃ X, w.alloc (.cells #[.int .i64 5, .string T, .int .i64 n, .int .i64 pl] 30) = X := ⟨_, rfl⟩
  have HX : Hid (Below w.heap.size w X) := Lib.hid (by rw [← hX]; exact (Below.refl _ _).alloc (Nat.le_refl _) _)
  have HXB : Hid (Blk X w.heap.size 30 #[.int .i64 5, .string T, .int .i64 n, .int .i64 pl]) := Lib.hid (by rw [← hX]; exact Blk.new w _ _)
  have k0 : X.cell? ⟨w.heap.size, 0, none⟩ = some (.int .i64 5) := HXB.out.cell 0
  have k1 : X.cell? ⟨w.heap.size, 1, none⟩ = some (.string T) := HXB.out.cell 1
  go_enter Tryd.func27, Tryd.ntmps27
  go_wp2_with (first | (go_at_call 21; refine (HW.out _ HX.out).mono ?_; rintro e w2 ⟨hb2, K', TX, NX, PX, hKK, rfl⟩; have hKK := hKK rfl; subst hKK;  have HB2 := Lib.hid (HXB.out.after hb2); have HL2 := Lib.hid (HX.out.trans (hb2.mono HX.out.size)); clear hb2) | ((with_reducible show wpList _ _ _ (Oper.mk _ (Op.store 30 _ _) _ _ _ _ :: _) _ _); refine wpList_store_row rfl _ _ _ rfl w2.heap.size _ rfl rfl 30 tok0 (Blk.new w2 _ _) infoTok rfl (one_tok _ _ _ _) ?_; rw [World.setRow_alloc_new]; obtain ⟨S, hS⟩ : ∃ S, w2.alloc (.cells #[.int .i64 K, .string TX, .int .i64 NX, .int .i64 PX] 30) = S := ⟨_, rfl⟩; have e0 : S.cell? ⟨w2.heap.size, 0, none⟩ = some (.int .i64 K) := (by rw [← hS]; exact (Blk.new w2 _ _).cell 0); have x0 : S.cell? ⟨w.heap.size, 0, none⟩ = some (.int .i64 5) := (by rw [← hS]; exact (HB2.out.alloc _).cell 0); have x2 : S.cell? ⟨w.heap.size, 2, none⟩ = some (.int .i64 n) := (by rw [← hS]; exact (HB2.out.alloc _).cell 2); have HS : Hid (Below w.heap.size w S) := Lib.hid (by rw [← hS]; exact HL2.out.alloc HL2.out.size _)))
  go_ret
  exact tells1 rfl HS.out
theorem whole_kind (l : List UInt8) (k : Tok) (h : wholeR l = some k) : kindR l = k.kind := by
  unfold wholeR at h
  unfold kindR
  split at h
  · rename_i h1; obtain rfl := (Option.some.inj h).symm; rw [if_pos h1]
  · rename_i h1
    rw [if_neg h1]
    split at h
    · rename_i h2; obtain rfl := (Option.some.inj h).symm; rw [if_pos h2]
    · rename_i h2
      rw [if_neg h2]
      split at h
      · rename_i h3; obtain rfl := (Option.some.inj h).symm; rw [if_pos h3]
      · rename_i h3
        rw [if_neg h3]
        split at h
        · rename_i h4; obtain rfl := (Option.some.inj h).symm; rw [if_pos h4]
        · cases h
theorem whole_nokind (l : List UInt8) (h : wholeR l = none) : kindR l = 0 := by
  unfold wholeR at h
  unfold kindR
  split at h
  · cases h
  · rename_i h1
    rw [if_neg h1]
    split at h
    · cases h
    · rename_i h2
      rw [if_neg h2]
      split at h
      · cases h
      · rename_i h3
        rw [if_neg h3]
        split at h
        · cases h
        · rename_i h4; rw [if_neg h4]
theorem wholeK_any (T : ByteArray) (w : World) (hs : T.size ≤ maxLen) : WholeK T (kindR T.data.toList) (wholeR T.data.toList).isSome w := by
  intro Y _
  refine (refWhole_any T Y hs).mono ?_
  rintro e w' ⟨hb, k, rfl, hk⟩
  refine ⟨hb, k.kind, k.text, k.int, k.place, fun h => ?_, rfl⟩
  obtain ⟨x, hx⟩ := Option.isSome_iff_exists.1 h
  rw [← hk x hx]
  exact whole_kind _ _ hx
theorem may_by (kd n pl : Int) (T : ByteArray) (h : kd = 3 ∨ kd = 4 ∨ kd = 5) : may ⟨kd, T, n, pl⟩ = ((wholeR T.data.toList).isSome && (kindR T.data.toList == kd) && (n == 0)) := by
  have h3 := kindR_3 T.data.toList
  have h4 := kindR_4 T.data.toList
  have h5 := kindR_5 T.data.toList
  have hb : ∀ x : Int, (kindR T.data.toList == x) = decide (kindR T.data.toList = x) := fun x => rfl
  cases hw : wholeR T.data.toList with
  | none =>
    have := whole_nokind _ hw
    rw [this] at h3 h4 h5
    rcases h with rfl | rfl | rfl
    · simp only [may]; simp at h3; simp; intro _ h; exact h3 h
    · simp only [may]; simp at h4; simp; intro _; exact h4
    · simp only [may]; simp at h5; simp; intro _; exact h5
  | some k =>
    rcases h with rfl | rfl | rfl
    · rw [hb, h3]
      show (decide (n = 0) && right T.data.toList && !wordB T.data.toList) = (true && (right T.data.toList && !wordB T.data.toList) && decide (n = 0))
      cases decide (n = 0) <;> cases right T.data.toList <;> cases wordB T.data.toList <;> rfl
    · rw [hb, h4]
      show (decide (n = 0) && wordB T.data.toList) = (true && wordB T.data.toList && decide (n = 0))
      cases decide (n = 0) <;> cases wordB T.data.toList <;> rfl
    · rw [hb, h5]
      show (decide (n = 0) && markB T.data.toList) = (true && markB T.data.toList && decide (n = 0))
      cases decide (n = 0) <;> cases markB T.data.toList <;> rfl
theorem may_is3 (n pl : Int) (T : ByteArray) (w : World) (hs : T.size ≤ maxLen) : Calls Tryd.prog 27 #[.agg #[.int .i64 3, .string T, .int .i64 n, .int .i64 pl]] w (Tells1 w (may ⟨3, T, n, pl⟩)) := by
  have HW := wholeK_any T w hs
  rw [may_by 3 n pl T (.inl rfl)]
  cases hb : (wholeR T.data.toList).isSome with
  | false => rw [hb] at HW; exact may_3_n n pl T _ w HW
  | true =>
    rw [hb] at HW
    cases hK : (kindR T.data.toList == 3) with
    | false => exact may_3_k n pl T _ w HW hK
    | true =>
      cases hn : (n == 0) with
      | false => exact may_3_o n pl T _ w HW hK hn
      | true => exact may_3_z n pl T _ w HW hK hn
theorem may_is4 (n pl : Int) (T : ByteArray) (w : World) (hs : T.size ≤ maxLen) : Calls Tryd.prog 27 #[.agg #[.int .i64 4, .string T, .int .i64 n, .int .i64 pl]] w (Tells1 w (may ⟨4, T, n, pl⟩)) := by
  have HW := wholeK_any T w hs
  rw [may_by 4 n pl T (.inr (.inl rfl))]
  cases hb : (wholeR T.data.toList).isSome with
  | false => rw [hb] at HW; exact may_4_n n pl T _ w HW
  | true =>
    rw [hb] at HW
    cases hK : (kindR T.data.toList == 4) with
    | false => exact may_4_k n pl T _ w HW hK
    | true =>
      cases hn : (n == 0) with
      | false => exact may_4_o n pl T _ w HW hK hn
      | true => exact may_4_z n pl T _ w HW hK hn
theorem may_is5 (n pl : Int) (T : ByteArray) (w : World) (hs : T.size ≤ maxLen) : Calls Tryd.prog 27 #[.agg #[.int .i64 5, .string T, .int .i64 n, .int .i64 pl]] w (Tells1 w (may ⟨5, T, n, pl⟩)) := by
  have HW := wholeK_any T w hs
  rw [may_by 5 n pl T (.inr (.inr rfl))]
  cases hb : (wholeR T.data.toList).isSome with
  | false => rw [hb] at HW; exact may_5_n n pl T _ w HW
  | true =>
    rw [hb] at HW
    cases hK : (kindR T.data.toList == 5) with
    | false => exact may_5_k n pl T _ w HW hK
    | true =>
      cases hn : (n == 0) with
      | false => exact may_5_o n pl T _ w HW hK hn
      | true => exact may_5_z n pl T _ w HW hK hn
set_option maxHeartbeats 1600000 in
theorem refMay_any (k : Tok) (w : World) (hs : k.text.size ≤ maxLen) : Calls Tryd.prog 27 #[.agg #[.int .i64 k.kind, .string k.text, .int .i64 k.int, .int .i64 k.place]] w (Tells1 w (may k)) := by
  obtain ⟨kd, T, n, pl⟩ := k
  simp only at hs ⊢
  by_cases h3 : kd = 3
  · subst h3; exact may_is3 n pl T w hs
  by_cases h4 : kd = 4
  · subst h4; exact may_is4 n pl T w hs
  by_cases h5 : kd = 5
  · subst h5; exact may_is5 n pl T w hs
  clear hs
  obtain ⟨X, hX⟩ : ∃ X, w.alloc (.cells #[.int .i64 kd, .string T, .int .i64 n, .int .i64 pl] 30) = X := ⟨_, rfl⟩
  have HX : Hid (Below w.heap.size w X) := Lib.hid (by rw [← hX]; exact (Below.refl _ _).alloc (Nat.le_refl _) _)
  have k0 : X.cell? ⟨w.heap.size, 0, none⟩ = some (.int .i64 kd) := by rw [← hX]; exact (Blk.new w _ _).cell 0
  have k1 : X.cell? ⟨w.heap.size, 1, none⟩ = some (.string T) := by rw [← hX]; exact (Blk.new w _ _).cell 1
  have k2 : X.cell? ⟨w.heap.size, 2, none⟩ = some (.int .i64 n) := by rw [← hX]; exact (Blk.new w _ _).cell 2
  by_cases h1 : kd = 1
  · subst h1
    have hm : may ⟨1, T, n, pl⟩ = (decide (0 ≤ n) && (T.toList == [])) := by
      rw [Lib.toList_data]
      show (decide (0 ≤ n) && decide (T.data.toList = [])) = _
      cases T.data.toList <;> simp
    rw [hm]
    clear hm h3 h4 h5
    by_cases hn : 0 ≤ n
    · have hd2 : decide (0 ≤ n) = true := by simpa using hn
      rw [hd2]
      clear hd2
      cases hE : (T.toList == [])
      all_goals
        go_enter Tryd.func27, Tryd.ntmps27
        go_wp2_with fail
        all_goals go_ret
        all_goals exact tells1 rfl HX.out
    · have hd2 : decide (0 ≤ n) = false := by simpa using hn
      rw [hd2]
      clear hd2
      go_enter Tryd.func27, Tryd.ntmps27
      go_wp2_with fail
      all_goals go_ret
      all_goals exact tells1 rfl HX.out
  · by_cases h2 : kd = 2
    · subst h2
      have hm : may ⟨2, T, n, pl⟩ = (n == 0) := rfl
      rw [hm]
      clear hm h1 h3 h4 h5
      cases hn : (n == 0)
      all_goals
        go_enter Tryd.func27, Tryd.ntmps27
        go_wp2_with fail
        all_goals go_ret
        all_goals exact tells1 rfl HX.out
    · have hm : may ⟨kd, T, n, pl⟩ = false := by simp [may, h1, h2, h3, h4, h5]
      have g1 : (kd == 1) = false := by rw [beq_eq_false_iff_ne]; exact h1
      have g2 : (kd == 2) = false := by rw [beq_eq_false_iff_ne]; exact h2
      have g3 : (kd == 3) = false := by rw [beq_eq_false_iff_ne]; exact h3
      have g4 : (kd == 4) = false := by rw [beq_eq_false_iff_ne]; exact h4
      have g5 : (kd == 5) = false := by rw [beq_eq_false_iff_ne]; exact h5
      rw [hm]
      clear hm h1 h2 h3 h4 h5
      go_enter Tryd.func27, Tryd.ntmps27
      go_wp2_with fail
      go_ret
      exact tells1 rfl HX.out
set_option maxHeartbeats 1600000 in
theorem refShown_any (k : Tok) (w : World) (hk : TokOk k) (ht : k.kind = 2 → k.text.size ≤ 4096) : Calls Tryd.prog 28 #[.agg #[.int .i64 k.kind, .string k.text, .int .i64 k.int, .int .i64 k.place]] w (SaidText w (ba (formT k))) := by
  obtain ⟨kd, T, n, pl⟩ := k
  simp only at ht ⊢
  have hk0 := hk.i0
  have hk1 := hk.i1
  simp only at hk0 hk1
  have HS : Hid (∀ Y, Calls Tryd.prog 50 #[.int .i64 n] Y (SaidText Y (ba (Lib.itoa n)))) := Lib.hid fun Y => refShow_any n Y hk0 hk1
  have HQ : Hid (kd = 2 → ∀ Y, Calls Tryd.prog 51 #[.string T] Y (SaidText Y (ba (quote T.data.toList)))) := Lib.hid fun h Y => by
    have h4 := ht h
    refine refQuote_any T Y ?_
    have hf := flat_length T.data.toList
    rw [toList_eq] at hf
    have : (quote T.data.toList).length = (T.data.toList.flatMap form).length + 2 := by unfold quote; rw [List.length_append, List.length_cons]; rfl
    omega
  obtain ⟨X, hX⟩ : ∃ X, w.alloc (.cells #[.int .i64 kd, .string T, .int .i64 n, .int .i64 pl] 30) = X := ⟨_, rfl⟩
  have HX : Hid (Below w.heap.size w X) := Lib.hid (by rw [← hX]; exact (Below.refl _ _).alloc (Nat.le_refl _) _)
  have k0 : X.cell? ⟨w.heap.size, 0, none⟩ = some (.int .i64 kd) := by rw [← hX]; exact (Blk.new w _ _).cell 0
  have k1 : X.cell? ⟨w.heap.size, 1, none⟩ = some (.string T) := by rw [← hX]; exact (Blk.new w _ _).cell 1
  have k2 : X.cell? ⟨w.heap.size, 2, none⟩ = some (.int .i64 n) := by rw [← hX]; exact (Blk.new w _ _).cell 2
  clear hk ht hk0 hk1
  by_cases h1 : kd = 1
  · subst h1
    have hf : formT ⟨1, T, n, pl⟩ = Lib.itoa n := rfl
    rw [hf]
    clear hf HQ
    go_enter Tryd.func28, Tryd.ntmps28
    go_wp2_with (go_at_call 50; refine (HS.out _).mono ?_; rintro e w2 ⟨rfl, hb2⟩)
    go_ret
    exact saidText rfl (HX.out.trans (hb2.mono HX.out.size))
  · by_cases h2 : kd = 2
    · subst h2
      have hf : formT ⟨2, T, n, pl⟩ = quote T.data.toList := rfl
      rw [hf]
      clear hf h1
      go_enter Tryd.func28, Tryd.ntmps28
      go_wp2_with (go_at_call 51; refine (HQ.out rfl _).mono ?_; rintro e w2 ⟨rfl, hb2⟩)
      go_ret
      exact saidText rfl (HX.out.trans (hb2.mono HX.out.size))
    · have hf : formT ⟨kd, T, n, pl⟩ = T.data.toList := by unfold formT; rw [if_neg h1, if_neg h2]
      have g1 : (kd == 1) = false := by rw [beq_eq_false_iff_ne]; exact h1
      have g2 : (kd == 2) = false := by rw [beq_eq_false_iff_ne]; exact h2
      rw [hf, ba_list']
      clear hf h1 h2
      go_enter Tryd.func28, Tryd.ntmps28
      go_wp2_with fail
      go_ret
      exact saidText rfl HX.out
end Go.Proofs.YtinhlemebnlijaaDoor

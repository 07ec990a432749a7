/-
  WALK of the law LexBack.
-/
import Derived.Test.YtinhlemebnlijaaDoorY18
import Derived.Test.YtinhlemebnlijaaDoorY19
namespace Go.Proofs.YtinhlemebnlijaaDoor
open Go Go.RowKit
set_option linter.unusedVariables false
theorem TokIn.named {w : World} {hi n c N : Nat} {A : Option Addr} {l : List Tok} (h : TokIn w hi A n c l) (hN : n = N) : TokIn w hi A N c l := by rw [← hN]; exact h
def JoinB (w : World) (t : ByteArray) (c : Int) (e : Ending) (w' : World) : Prop := e = .returned (.tuple #[.string t, .int .i64 c]) ∧ Below w.heap.size w w'
/-- the first half: what is joined is cut again -/
inductive Half1 (w : World) (A : Option Addr) (n c : Nat) (l : List Tok) : Prop
  | no (k : Int) : k ≠ 0 → (∀ Y, After w Y → Calls Tryd.prog 12 #[.slice A n c] Y (JoinB Y ⟨#[]⟩ k)) → Half1 w A n c l
  | yes (t : ByteArray) (m : List Tok) : (∀ Y, After w Y → Calls Tryd.prog 12 #[.slice A n c] Y (JoinB Y t 0)) → (∀ Y, After w Y → Calls Tryd.prog 9 #[.string t] Y (ScanRowN Y m n)) → AlikeL l m → Half1 w A n c l
/-- the second half: what is cut may be joined -/
inductive Half2 (w : World) (s : ByteArray) : Prop
  | no (k : Nat) (c : Int) : (c = 70 ∨ c = 3) → (∀ Y, After w Y → Calls Tryd.prog 9 #[.string s] Y (ScanRow Y [] k c)) → Half2 w s
  | long (m : List Tok) (N : Nat) : (∀ Y, After w Y → Calls Tryd.prog 9 #[.string s] Y (ScanRowN Y m N)) → (∀ Y A c, After w Y → TokIn Y Y.heap.size A N c m → Calls Tryd.prog 12 #[.slice A N c] Y (JoinB Y ⟨#[]⟩ 3)) → Half2 w s
  | yes (m : List Tok) (N : Nat) (t : ByteArray) (m' : List Tok) : (∀ Y, After w Y → Calls Tryd.prog 9 #[.string s] Y (ScanRowN Y m N)) → (∀ Y A c, After w Y → TokIn Y Y.heap.size A N c m → Calls Tryd.prog 12 #[.slice A N c] Y (JoinB Y t 0)) →
      (∀ Y, After w Y → Calls Tryd.prog 9 #[.string t] Y (ScanRowN Y m' N)) → AlikeL m m' → Half2 w s
theorem scan_rowN {t : ByteArray} {l : List Tok} {N : Nat} {w : World} (ht : t.size ≤ 140737488355328) (hE : ScanEnv w) (h : scanR t.data.toList = (l, 0, 0)) (hN : l.length = N) : Calls Tryd.prog 9 #[.string t] w (ScanRowN w l N) := by
  subst hN
  exact scan_row ht hE h
theorem join_b {w : World} {hi n c : Nat} {A : Option Addr} {l : List Tok} {t : List UInt8} {k : Int} (h : TokIn w hi A n c l) (hh : hi ≤ w.heap.size) (ht : ∀ k ∈ l, TokOk k) (hL : LexEnv w) (hr : joinR l = (t, k)) : Calls Tryd.prog 12 #[.slice A n c] w (JoinB w (ba t) k) := by
  have := join_any w hi A n c l h hh ht hL
  rw [hr] at this
  exact this
theorem half1 (w : World) (hi : Nat) (A : Option Addr) (n c : Nat) (l : List Tok) (h : TokIn w hi A n c l) (hh : hi ≤ w.heap.size) (ht : ∀ k ∈ l, TokOk k) (hE : ScanEnv w) : Half1 w A n c l := by
  have hl := h.len
  have hjb : ∀ (t : List UInt8) (k : Int), joinR l = (t, k) → ∀ Y, After w Y → Calls Tryd.prog 12 #[.slice A n c] Y (JoinB Y (ba t) k) :=
    fun t k hr Y hY => join_b (h.below (hY.below.mono hh)) (Nat.le_trans hh hY.below.size) ht (hE.below hY.below).lex hr
  rcases joinR_cases l with ⟨_, hr⟩ | ⟨_, _, hr⟩ | ⟨ha, h4, hr⟩
  · exact .no 2 (by omega) (hjb _ _ hr)
  · exact .no 3 (by omega) (hjb _ _ hr)
  · obtain ⟨m, hm, hal⟩ := scanR_joinT ha ht h4
    refine .yes (ba (joinT l)) m (hjb _ _ hr) (fun Y hY => scan_rowN (by rw [ba_size]; omega) (hE.below hY.below) (by rw [ba_data]; exact hm) ?_) hal
    rw [← hal.len]; exact hl
theorem half2 (w : World) (s : ByteArray) (hs : s.size ≤ 140737488355328) (hE : ScanEnv w) : Half2 w s := by
  rcases scanR_cases s.data.toList with ⟨_, hr⟩ | ⟨_, m, _, hr⟩ | ⟨_, n, _, hr⟩
  · exact .no 0 3 (.inr rfl) (fun Y hY => scan_row hs (hE.below hY.below) hr)
  · obtain ⟨hm, hk⟩ := scanR_may hr
    have hjb : ∀ (t : List UInt8) (k : Int), joinR m = (t, k) → ∀ Y A c, After w Y → TokIn Y Y.heap.size A m.length c m → Calls Tryd.prog 12 #[.slice A m.length c] Y (JoinB Y (ba t) k) :=
      fun t k hr Y A c hY h => join_b h (Nat.le_refl _) hk (hE.below hY.below).lex hr
    rcases joinR_cases m with ⟨ha, _⟩ | ⟨_, _, hj⟩ | ⟨ha, h4, hj⟩
    · rw [hm] at ha; cases ha
    · exact .long m m.length (fun Y hY => scan_rowN hs (hE.below hY.below) hr rfl) (hjb _ _ hj)
    · obtain ⟨m', hm', hal⟩ := scanR_joinT ha hk h4
      exact .yes m m.length (ba (joinT m)) m' (fun Y hY => scan_rowN hs (hE.below hY.below) hr rfl) (hjb _ _ hj) (fun Y hY => scan_rowN (by rw [ba_size]; omega) (hE.below hY.below) (by rw [ba_data]; exact hm') hal.len.symm) hal
  · exact .no n 70 (.inl rfl) (fun Y hY => scan_row hs (hE.below hY.below) hr)
set_option maxRecDepth 100000 in
set_option maxHeartbeats 6400000 in
theorem back_any (w : World) (hi : Nat) (A : Option Addr) (n c : Nat) (l : List Tok) (s : ByteArray) (h : TokIn w hi A n c l) (hh : hi ≤ w.heap.size) (ht : ∀ k ∈ l, TokOk k) (hs : s.size ≤ 140737488355328) (hE : ScanEnv w) :
    Calls Tryd.prog 5 #[.slice A n c, .string s] w (Tells1 w true) := by
  have HA : Hid (Calls Tryd.prog 14 #[] w (Tells1 w true)) := Lib.hid (awake_any w hE)
  have H1 := half1 w hi A n c l h hh ht hE
  have H2 := half2 w s hs hE
  have HI : Hid (∀ Y, After w Y → TokIn Y hi A n c l ∧ hi ≤ Y.heap.size) := Lib.hid fun Y hY => ⟨h.below (hY.below.mono hh), Nat.le_trans hh hY.below.size⟩
  clear h ht hE hh
  rcases H1 with ⟨k1, hk1, hj1⟩ | ⟨t1, m1, hj1, hs1, hal1⟩
  · have d1 : (k1 == 0) = false := by rw [beq_eq_false_iff_ne]; exact hk1
    clear hk1
    go_enter Tryd.func5, Tryd.ntmps5
    go_wp2_with fail
    refine HA.out.mono ?_
    rintro e w1 ⟨rfl, hb1⟩
    have A1 := (After.refl w).next hb1
    clear hb1
    go_wp2_with fail
    refine (hj1 _ A1).mono ?_
    rintro e w2 ⟨rfl, hb2⟩
    have A2 := A1.next hb2
    clear hb2 hj1
    rcases H2 with ⟨k2, c2, hc2, hs2⟩ | ⟨m2, N2, hs2, hj2⟩ | ⟨m2, N2, t2, m3, hs2, hj2, hs3, hal2⟩
    · rcases hc2 with rfl | rfl
      all_goals
        go_wp2_with fail
        refine (hs2 _ A2).mono ?_
        rintro e x1 ⟨B1, b1, rfl, _, _, hx1⟩
        have X1 := A2.next hx1
        clear hx1 hs2
        go_wp2_with fail
        go_ret
        exact tells1 (by first | rfl | (simp; done)) X1.below
    · go_wp2_with fail
      refine (hs2 _ A2).mono ?_
      rintro e x1 ⟨B1, b1, rfl, _, ht1, hx1⟩
      have X1 := A2.next hx1
      clear hx1 hs2
      go_wp2_with fail
      refine (hj2 _ _ _ X1 ht1).mono ?_
      rintro e x2 ⟨rfl, hx2⟩
      have X2 := X1.next hx2
      clear hx2 hj2 ht1
      go_wp2_with fail
      go_ret
      exact tells1 (by first | rfl | (simp; done)) X2.below
    · go_wp2_with fail
      refine (hs2 _ A2).mono ?_
      rintro e x1 ⟨B1, b1, rfl, _, ht1, hx1⟩
      have X1 := A2.next hx1
      clear hx1 hs2
      go_wp2_with fail
      refine (hj2 _ _ _ X1 ht1).mono ?_
      rintro e x2 ⟨rfl, hx2⟩
      have X2 := X1.next hx2
      have ht2 := ht1.after hx2
      clear hx2 hj2 ht1
      go_wp2_with fail
      refine (hs3 _ X2).mono ?_
      rintro e x3 ⟨B3, b3, rfl, _, ht3, hx3⟩
      have X3 := X2.next hx3
      have ht23 := ht2.after hx3
      clear hx3 hs3 ht2
      go_wp2_with fail
      refine (same_true x3 _ _ _ _ N2 b1 b3 m2 m3 ht23 ht3 (Nat.le_refl _) (Nat.le_refl _) hal2).mono ?_
      rintro e x4 ⟨rfl, hx4⟩
      have X4 := X3.next hx4
      clear hx4
      go_wp2_with fail
      go_ret
      exact tells1 (by first | rfl | (simp; done)) X4.below
  · go_enter Tryd.func5, Tryd.ntmps5
    go_wp2_with fail
    refine HA.out.mono ?_
    rintro e w1 ⟨rfl, hb1⟩
    have A1 := (After.refl w).next hb1
    clear hb1
    go_wp2_with fail
    refine (hj1 _ A1).mono ?_
    rintro e w2 ⟨rfl, hb2⟩
    have A2 := A1.next hb2
    clear hb2 hj1
    go_wp2_with fail
    refine (hs1 _ A2).mono ?_
    rintro e w3 ⟨A3', k3, rfl, _, ht3', hb3⟩
    have A3 := A2.next hb3
    clear hb3 hs1
    go_wp2_with fail
    refine (same_true w3 _ _ _ _ n c k3 l m1 (HI.out _ A3).1 ht3' (HI.out _ A3).2 (Nat.le_refl _) hal1).mono ?_
    rintro e w4 ⟨rfl, hb4⟩
    have A4 := A3.next hb4
    clear hb4 ht3'
    rcases H2 with ⟨k2, c2, hc2, hs2⟩ | ⟨m2, N2, hs2, hj2⟩ | ⟨m2, N2, t2, m3, hs2, hj2, hs3, hal2⟩
    · rcases hc2 with rfl | rfl
      all_goals
        go_wp2_with fail
        refine (hs2 _ A4).mono ?_
        rintro e x1 ⟨B1, b1, rfl, _, _, hx1⟩
        have X1 := A4.next hx1
        clear hx1 hs2
        go_wp2_with fail
        go_ret
        exact tells1 (by first | rfl | (simp; done)) X1.below
    · go_wp2_with fail
      refine (hs2 _ A4).mono ?_
      rintro e x1 ⟨B1, b1, rfl, _, ht1, hx1⟩
      have X1 := A4.next hx1
      clear hx1 hs2
      go_wp2_with fail
      refine (hj2 _ _ _ X1 ht1).mono ?_
      rintro e x2 ⟨rfl, hx2⟩
      have X2 := X1.next hx2
      clear hx2 hj2 ht1
      go_wp2_with fail
      go_ret
      exact tells1 (by first | rfl | (simp; done)) X2.below
    · go_wp2_with fail
      refine (hs2 _ A4).mono ?_
      rintro e x1 ⟨B1, b1, rfl, _, ht1, hx1⟩
      have X1 := A4.next hx1
      clear hx1 hs2
      go_wp2_with fail
      refine (hj2 _ _ _ X1 ht1).mono ?_
      rintro e x2 ⟨rfl, hx2⟩
      have X2 := X1.next hx2
      have ht2 := ht1.after hx2
      clear hx2 hj2 ht1
      go_wp2_with fail
      refine (hs3 _ X2).mono ?_
      rintro e x3 ⟨B3, b3, rfl, _, ht3, hx3⟩
      have X3 := X2.next hx3
      have ht23 := ht2.after hx3
      clear hx3 hs3 ht2
      go_wp2_with fail
      refine (same_true x3 _ _ _ _ N2 b1 b3 m2 m3 ht23 ht3 (Nat.le_refl _) (Nat.le_refl _) hal2).mono ?_
      rintro e x4 ⟨rfl, hx4⟩
      have X4 := X3.next hx4
      clear hx4
      go_wp2_with fail
      go_ret
      exact tells1 (by first | rfl | (simp; done)) X4.below
end Go.Proofs.YtinhlemebnlijaaDoor

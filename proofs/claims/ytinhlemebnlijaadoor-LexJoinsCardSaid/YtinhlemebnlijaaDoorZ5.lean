/-
  WALK of the law LexJoins.
-/
import Derived.Test.YtinhlemebnlijaaDoorZ4
import Derived.Test.YtinhlemebnlijaaDoorY9
namespace Go.Proofs.YtinhlemebnlijaaDoor
open Go Go.RowKit
set_option linter.unusedVariables false
theorem TokIn.later {w w' : World} {n c : Nat} {A : Option Addr} {l : List Tok} (h : TokIn w w.heap.size A n c l) (hb : Below w.heap.size w w') : TokIn w' w'.heap.size A n c l :=
  (h.below hb).mono (Nat.le_refl _) hb.size
/-- append of tokens that lie in memory -/
theorem app_toks {X : World} {ops : Array Oper} {rest : List Oper} {o : Oper} {a : Act} {Q : Exit → Act → World → Prop} (hgd : o.guard = none) (s x : Operand)
    (ho : o.op = .call { callee := .builtin .append, args := #[s, x], argTypes := #[22, 22] })
    (B : Nat) (v : Value) (l : List Tok) (hs : a.eval s = v) (hown : OwnT X B v l) (lo hi : Nat) (A : Option Addr) (m c : Nat) (ks : List Tok) (hx : a.eval x = .slice A m c) (hr : Row X lo hi 4 A m c (toksCells ks))
    (hroom : (l.length + m) * 40 ≤ 140737488355328) (hB : B ≤ X.heap.size)
    (h : ∀ v' w', OwnT w' B v' (l ++ ks) → Below B X w' → wpList Tryd.prog ops Q rest (a.put o.dst v') w') : wpList Tryd.prog ops Q (o :: rest) a X := by
  obtain ⟨i0, hi0, hz0, hz1, hz2⟩ := info_parts tokInfo
  have hm : ks.length = m := by have := hr.1; rw [toksCells_len] at this; omega
  refine wpList_app X hgd s x _ ho B 30 i0 (.agg tok0) 4 40 Tryd.underlying22 hi0 hz0 hz1 hz2 rfl (by decide) v l.length (toksCells l) hs hown lo hi A m c (toksCells ks) hx hr (toksCells_one ks) (by unfold maxLen; omega) hroom hB ?_
  intro v' w' hown' hg _
  refine h v' w' ?_ ((Below.refl _ _).grown hg hB (fun k hk => (World.ownsRow.lt hown k hk).1))
  unfold OwnT
  rw [List.length_append, hm, show toksCells (l ++ ks) = toksCells l ++ toksCells ks from List.flatMap_append]
  exact hown'
set_option maxRecDepth 100000 in
set_option maxHeartbeats 3200000 in
theorem joins_any (w : World) (hi : Nat) (A : Option Addr) (n c : Nat) (l : List Tok) (h : TokIn w hi A n c l) (hh : hi ≤ w.heap.size) (ht : ∀ k ∈ l, TokOk k) (h40 : n * 40 ≤ 140737488355328) (hL : LexEnv w) :
    Calls Tryd.prog 4 #[.slice A n c] w (Tells1 w true) := by
  have hl := h.len
  have HLN := Lib.hid hl
  obtain ⟨r, hr⟩ : ∃ r, joinR l = r := ⟨_, rfl⟩
  obtain ⟨r1, r2⟩ := r
  have HI : Hid (∀ Y, Below w.heap.size w Y → TokIn Y hi A n c l ∧ hi ≤ Y.heap.size) := Lib.hid fun Y hb => ⟨h.below (hb.mono hh), Nat.le_trans hh hb.size⟩
  have HJ : Hid (∀ Y A' c', Below w.heap.size w Y → TokIn Y Y.heap.size A' n c' l → Calls Tryd.prog 12 #[.slice A' n c'] Y (JoinPost Y (r1, r2))) := Lib.hid fun Y A' c' hb hT => by
    rw [← hr]; exact join_any Y _ A' n c' l hT (Nat.le_refl _) ht (hL.below hb)
  have HR : Hid (∀ Y, Below w.heap.size w Y → Calls Tryd.prog 13 #[.slice A n c] Y (JoinPost Y (r1, r2))) := Lib.hid fun Y hb => by
    rw [← hr]; exact refJoin_any Y hi A n c l (h.below (hb.mono hh)) (Nat.le_trans hh hb.size) ht
  clear h hh ht hL hr hl
  obtain ⟨X, hX⟩ : ∃ X, w.alloc (.cells #[] 30) = X := ⟨_, rfl⟩
  have HX : Hid (Below w.heap.size w X) := Lib.hid (by rw [← hX]; exact (Below.refl _ _).alloc (Nat.le_refl _) _)
  have HE : Hid (OwnT X w.heap.size (.slice (some ⟨w.heap.size, 0, none⟩) 0 0) []) := Lib.hid (by rw [← hX]; exact own_empty (heap_alloc_new w _) (Nat.le_refl _))
  go_enter Tryd.func4, Tryd.ntmps4
  go_wp2_with (first | (at_builtin; go_must (refine app_toks rfl _ _ rfl w.heap.size _ [] rfl HE.out 0 hi A n c l rfl (HI.out _ HX.out).1 (by simp; omega) HX.out.size ?_; intro v1 w1 hown1 hb1; rw [List.nil_append] at hown1; have HB1 := Lib.hid (HX.out.trans hb1); have HO1 := Lib.hid hown1; obtain ⟨A1, c1, rfl⟩ : ∃ A1 c1, v1 = .slice A1 n c1 := (by obtain ⟨A1, c1, e1⟩ := own_form HO1.out; exact ⟨A1, c1, by rw [e1, HLN.out]⟩); have HT1 := Lib.hid (own_tokIn HO1.out HLN.out); clear hown1 hb1)) | (go_at_call 12; go_must (refine (HJ.out _ _ _ HB1.out HT1.out).mono ?_; rintro e w2 ⟨rfl, hb2⟩; have HB2 := Lib.hid (HB1.out.trans (hb2.mono HB1.out.size)); have HT2 := Lib.hid (HT1.out.later hb2); clear hb2)) | (go_at_call 13; go_must (refine (HR.out _ HB2.out).mono ?_; rintro e w3 ⟨rfl, hb3⟩; have HB3 := Lib.hid (HB2.out.trans (hb3.mono HB2.out.size)); have HT3 := Lib.hid (HT2.out.later hb3); clear hb3)) | (go_at_call 11; go_must (refine (refAlike_true _ _ _ _ _ _ _ _ l HT3.out (HI.out _ HB3.out).1 (Nat.le_refl _) (HI.out _ HB3.out).2).mono ?_; rintro e w4 ⟨rfl, hb4⟩; have HB4 := Lib.hid (HB3.out.trans (hb4.mono HB3.out.size)); clear hb4)))
  go_ret
  exact tells1 (by first | rfl | (simp; done)) HB4.out
end Go.Proofs.YtinhlemebnlijaaDoor

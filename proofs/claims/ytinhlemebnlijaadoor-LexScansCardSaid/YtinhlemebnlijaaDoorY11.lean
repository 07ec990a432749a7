/-
  WALKS over package lex: a token's form; which token of a list may not be.
-/
import Derived.Test.YtinhlemebnlijaaDoorY10
namespace Go.Proofs.YtinhlemebnlijaaDoor
open Go Go.RowKit
set_option linter.unusedVariables false
/-- the slice value '.slice A n c' holds these tokens, in a block below hi -/
def TokIn (w : World) (hi : Nat) (A : Option Addr) (n c : Nat) (l : List Tok) : Prop := Row w 0 hi 4 A n c (toksCells l)
structure CellsAt (w : World) (b o : Nat) (k : Tok) : Prop where
  c0 : w.cell? ⟨b, o, none⟩ = some (.int .i64 k.kind)
  c1 : w.cell? ⟨b, o + 1, none⟩ = some (.string k.text)
  c2 : w.cell? ⟨b, o + 2, none⟩ = some (.int .i64 k.int)
  c3 : w.cell? ⟨b, o + 3, none⟩ = some (.int .i64 k.place)
section
variable {w w' : World} {hi n c : Nat} {A : Option Addr} {l : List Tok}
theorem TokIn.len (h : TokIn w hi A n c l) : l.length = n := by have := h.1; rw [toksCells_len] at this; omega
theorem TokIn.below (h : TokIn w hi A n c l) (hb : Below hi w w') : TokIn w' hi A n c l := Row.below h hb
theorem TokIn.max (h : TokIn w hi A n c l) : n ≤ maxLen := Nat.le_trans h.2.1 h.2.2.1
theorem TokIn.at_ (h : TokIn w hi A n c l) {i : Nat} (hi' : i < n) : ∃ b o k, A = some ⟨b, o, none⟩ ∧ b < hi ∧ l[i]? = some k ∧ CellsAt w b (o + i * 4) k := by
  have hl := h.len
  obtain ⟨b, o, e, _, hlt, hc⟩ := Row.at_ h (by omega)
  have hk : l[i]? = some (l[i]'(by omega)) := List.getElem?_eq_getElem _
  have key : ∀ j u, j < 4 → (tokCells (l[i]'(by omega)))[j]? = some u → w.cell? ⟨b, o + i * 4 + j, none⟩ = some u := by
    intro j u hj hu
    have := hc (i * 4 + j) u (by unfold toksCells; rw [flatN_get tokCells_len l i _ hk j hj]; exact hu)
    rwa [← Nat.add_assoc] at this
  exact ⟨b, o, _, e, hlt, hk, key 0 _ (by omega) rfl, key 1 _ (by omega) rfl, key 2 _ (by omega) rfl, key 3 _ (by omega) rfl⟩
end
theorem CellsAt.below {w w' : World} {b o hi : Nat} {k : Tok} (h : CellsAt w b o k) (hb : Below hi w w') (hlt : b < hi) : CellsAt w' b o k :=
  ⟨(hb.cell (p := ⟨b, _, none⟩) hlt).trans h.c0, (hb.cell (p := ⟨b, _, none⟩) hlt).trans h.c1, (hb.cell (p := ⟨b, _, none⟩) hlt).trans h.c2, (hb.cell (p := ⟨b, _, none⟩) hlt).trans h.c3⟩
theorem own_tokIn {w : World} {B n c : Nat} {A : Option Addr} {l : List Tok} (h : OwnT w B (.slice A n c) l) (hn : l.length = n) : TokIn w w.heap.size A n c l := by
  subst hn
  exact (own_row h).mono (Nat.zero_le _) (Nat.le_refl _)
def formT (k : Tok) : List UInt8 := if k.kind = 1 then Lib.itoa k.int else if k.kind = 2 then quote k.text.data.toList else k.text.data.toList
/-- a token's number fits, and its text is no longer than any memory -/
structure TokOk (k : Tok) : Prop where
  i0 : -9223372036854775808 ≤ k.int
  i1 : k.int ≤ 9223372036854775807
  t : k.text.size ≤ 140737488355328
set_option maxHeartbeats 400000 in
theorem show_tab (n : Int) (w : World) (h0 : -9223372036854775808 ≤ n) (h1 : n ≤ 9223372036854775807) (hE : LexEnv w) : Calls Tryd.prog 48 #[.int .i64 n] w (Tells w (Lib.itoa n)) := by
  have H : Hid (Calls Tryd.prog 60 #[.int .i64 n, .int .i64 10] w (Tells w (Lib.itoa n))) :=
    (Tryd.strconv_FormatInt_10 n h0 h1 w hE.tab).mono fun e w' ⟨he, k, os, hw⟩ => ⟨he, by rw [hw]; exact below_grown_sl _ _ _ _ (Nat.le_refl _)⟩
  clear h0 h1 hE
  go_enter Tryd.func48, Tryd.ntmps48
  go_wp2_with (go_at_call 60; refine H.out.mono ?_; rintro e w' ⟨rfl, hb⟩)
  go_ret
  exact ⟨rfl, hb⟩
def SaidText (w : World) (t : ByteArray) (e : Ending) (w' : World) : Prop := e = .returned (.string t) ∧ Below w.heap.size w w'
theorem saidText {w w' : World} {t u : ByteArray} (h : t = u) (hb : Below w.heap.size w w') : SaidText w u (.returned (.string t)) w' := ⟨by rw [h], hb⟩
set_option maxHeartbeats 1600000 in
theorem form_any (k : Tok) (w : World) (hk : TokOk k) (ht : k.kind = 2 → k.text.size ≤ 4096) (hL : LexEnv w) : Calls Tryd.prog 26 #[tokV k] w (SaidText w (ba (formT k))) := by
  obtain ⟨kd, T, n, pl⟩ := k
  unfold tokV
  simp only at ht ⊢
  have hk0 := hk.i0
  have hk1 := hk.i1
  simp only at hk0 hk1
  have HS : Hid (∀ Y, Below w.heap.size w Y → Calls Tryd.prog 48 #[.int .i64 n] Y (SaidText Y (ba (Lib.itoa n)))) := Lib.hid fun Y h => show_tab n Y hk0 hk1 (hL.below h)
  have HQ : Hid (kd = 2 → ∀ Y, Calls Tryd.prog 49 #[.string T] Y (SaidText Y (ba (quote T.data.toList)))) := Lib.hid fun h Y => by
    have h4 := ht h
    refine quote_any T Y ?_
    have hf := flat_length T.data.toList
    rw [toList_eq] at hf
    have : (quote T.data.toList).length = (T.data.toList.flatMap form).length + 2 := by unfold quote; rw [List.length_append, List.length_cons]; rfl
    omega
  obtain ⟨X, hX⟩ : ∃ X, w.alloc (.cells #[.int .i64 kd, .string T, .int .i64 n, .int .i64 pl] 30) = X := ⟨_, rfl⟩
  have HX : Hid (Below w.heap.size w X) := Lib.hid (by rw [← hX]; exact (Below.refl _ _).alloc (Nat.le_refl _) _)
  have k0 : X.cell? ⟨w.heap.size, 0, none⟩ = some (.int .i64 kd) := by rw [← hX]; exact (Blk.new w _ _).cell 0
  have k1 : X.cell? ⟨w.heap.size, 1, none⟩ = some (.string T) := by rw [← hX]; exact (Blk.new w _ _).cell 1
  have k2 : X.cell? ⟨w.heap.size, 2, none⟩ = some (.int .i64 n) := by rw [← hX]; exact (Blk.new w _ _).cell 2
  clear hk hL ht hk0 hk1
  by_cases h1 : kd = 1
  · subst h1
    have hf : formT ⟨1, T, n, pl⟩ = Lib.itoa n := rfl
    rw [hf]
    clear hf HQ
    go_enter Tryd.func26, Tryd.ntmps26
    go_wp2_with (go_at_call 48; refine (HS.out _ HX.out).mono ?_; rintro e w2 ⟨rfl, hb2⟩)
    go_ret
    exact saidText rfl (HX.out.trans (hb2.mono HX.out.size))
  · by_cases h2 : kd = 2
    · subst h2
      have hf : formT ⟨2, T, n, pl⟩ = quote T.data.toList := rfl
      rw [hf]
      clear hf h1
      go_enter Tryd.func26, Tryd.ntmps26
      go_wp2_with (go_at_call 49; refine (HQ.out rfl _).mono ?_; rintro e w2 ⟨rfl, hb2⟩)
      go_ret
      exact saidText rfl (HX.out.trans (hb2.mono HX.out.size))
    · have hf : formT ⟨kd, T, n, pl⟩ = T.data.toList := by unfold formT; rw [if_neg h1, if_neg h2]
      have g1 : (kd == 1) = false := by rw [beq_eq_false_iff_ne]; exact h1
      have g2 : (kd == 2) = false := by rw [beq_eq_false_iff_ne]; exact h2
      rw [hf, ba_list']
      clear hf h1 h2
      go_enter Tryd.func26, Tryd.ntmps26
      go_wp2_with fail
      go_ret
      exact saidText rfl HX.out
set_option maxHeartbeats 800000 in
theorem joinF_any (k : Tok) (w : World) (hs : k.text.size ≤ maxLen) (hL : LexEnv w) : Calls Tryd.prog 24 #[tokV k] w (Tells1 w (!may k)) := by
  have HM : Hid (∀ Y, Below w.heap.size w Y → Calls Tryd.prog 25 #[.agg #[.int .i64 k.kind, .string k.text, .int .i64 k.int, .int .i64 k.place]] Y (Tells1 Y (may k))) := Lib.hid fun Y h => mayBe_any k Y hs (hL.below h)
  clear hL hs
  obtain ⟨X, hX⟩ : ∃ X, w.alloc (.cells #[.int .i64 k.kind, .string k.text, .int .i64 k.int, .int .i64 k.place] 30) = X := ⟨_, rfl⟩
  have HX : Hid (Below w.heap.size w X) := Lib.hid (by rw [← hX]; exact (Below.refl _ _).alloc (Nat.le_refl _) _)
  have k0 : X.cell? ⟨w.heap.size, 0, none⟩ = some (.int .i64 k.kind) := by rw [← hX]; exact (Blk.new w _ _).cell 0
  have k1 : X.cell? ⟨w.heap.size, 1, none⟩ = some (.string k.text) := by rw [← hX]; exact (Blk.new w _ _).cell 1
  have k2 : X.cell? ⟨w.heap.size, 2, none⟩ = some (.int .i64 k.int) := by rw [← hX]; exact (Blk.new w _ _).cell 2
  have k3 : X.cell? ⟨w.heap.size, 3, none⟩ = some (.int .i64 k.place) := by rw [← hX]; exact (Blk.new w _ _).cell 3
  unfold tokV
  generalize may k = b at *
  go_enter Tryd.func24, Tryd.ntmps24
  go_wp2_with (go_at_call 25; refine (HM.out _ HX.out).mono ?_; rintro e w2 ⟨rfl, hb2⟩)
  go_ret
  exact tells1 rfl (HX.out.trans (hb2.mono HX.out.size))
def SaysIx (w : World) (b : Bool) (e : Ending) (w' : World) : Prop := ∃ z : Int, e = .returned (.int .i64 z) ∧ decide (0 ≤ z) = b ∧ Below w.heap.size w w'
structure NoneBad (l : List Tok) (k : Nat) : Prop where
  out : (l.take k).all may = true
theorem NoneBad.next {l : List Tok} {k : Nat} {t : Tok} (h : NoneBad l k) (ht : l[k]? = some t) (hm : may t = true) : NoneBad l (k + 1) := by
  refine ⟨?_⟩
  rw [List.take_add_one, ht]
  simp [List.all_append, h.out, hm]
theorem NoneBad.bad {l : List Tok} {k : Nat} {t : Tok} (ht : l[k]? = some t) (hm : may t = false) : l.all may = false := by
  rw [Bool.eq_false_iff]
  intro h
  rw [List.all_eq_true] at h
  have := h t (List.mem_of_getElem? ht)
  rw [hm] at this; cases this
theorem NoneBad.fin {l : List Tok} {k : Nat} (h : NoneBad l k) (hk : l.length ≤ k) : l.all may = true := by
  have := h.out
  rwa [List.take_of_length_le hk] at this
set_option maxHeartbeats 1600000 in
theorem indexFunc_any (w : World) (hi : Nat) (A : Option Addr) (n c : Nat) (l : List Tok) (h : TokIn w hi A n c l) (hh : hi ≤ w.heap.size) (ht : ∀ k ∈ l, TokOk k) (hL : LexEnv w) :
    Calls Tryd.prog 45 #[.slice A n c, .func (.func 24) #[] #[]] w (SaysIx w (!l.all may)) := by
  have hl := h.len
  have hn := h.max
  have HJ : Hid (∀ k ∈ l, ∀ Y, Below w.heap.size w Y → Calls Tryd.prog 24 #[.agg #[.int .i64 k.kind, .string k.text, .int .i64 k.int, .int .i64 k.place]] Y (Tells1 Y (!may k))) := Lib.hid fun k hk Y hb => joinF_any k Y (by have := (ht k hk).t; unfold maxLen; omega) (hL.below hb)
  have HI : Hid (∀ Y, Below w.heap.size w Y → TokIn Y hi A n c l) := Lib.hid fun Y hb => h.below (hb.mono hh)
  unfold maxLen at hn
  clear h ht hL
  go_enter Tryd.func45, Tryd.ntmps45
  go_wp2_with fail
  go_loopw [5, 8] (fun _ i wr => ∃ k : Nat, k ≤ n ∧ i = .int .i64 k ∧ NoneBad l k ∧ Below w.heap.size w wr) (fun _ i _ => n - (intOf i).toNat)
  case atStart => exact ⟨0, by omega, rfl, ⟨rfl⟩, Below.refl _ _⟩
  case round =>
    obtain ⟨k, hk, rfl, HK, hb⟩ := hrel
    by_cases hlt : k < n
    · obtain ⟨b, o, t, rfl, hbl, htk, hc⟩ := (HI.out wr hb).at_ hlt
      have c0 := hc.c0
      have c1 := hc.c1
      have c2 := hc.c2
      have c3 := hc.c3
      have HJT := Lib.hid (HJ.out t (List.mem_of_getElem? htk) wr hb)
      have HB := Lib.hid hb
      have HTK := Lib.hid htk
      clear hc hb htk
      cases hm : may t with
      | true =>
        rw [hm] at HJT
        have HX := HK.next HTK.out hm
        clear hm
        go_wp2_with (go_at_call 24; refine HJT.out.mono ?_; rintro e w2 ⟨rfl, hb2⟩)
        exact ⟨⟨k + 1, by omega, by go_num, HX, HB.out.trans (hb2.mono HB.out.size)⟩, by simp [intOf]; omega⟩
      | false =>
        rw [hm] at HJT
        have HX := Lib.hid (NoneBad.bad HTK.out hm)
        clear hm
        go_wp2_with (go_at_call 24; refine HJT.out.mono ?_; rintro e w2 ⟨rfl, hb2⟩)
        go_ret
        exact ⟨k, rfl, by rw [HX.out]; simp, HB.out.trans (hb2.mono HB.out.size)⟩
    · have HX := Lib.hid (HK.fin (by omega))
      go_wp2_with fail
      go_ret
      exact ⟨-1, rfl, by rw [HX.out]; rfl, hb⟩
theorem containsFunc_any (w : World) (hi : Nat) (A : Option Addr) (n c : Nat) (l : List Tok) (h : TokIn w hi A n c l) (hh : hi ≤ w.heap.size) (ht : ∀ k ∈ l, TokOk k) (hL : LexEnv w) :
    Calls Tryd.prog 23 #[.slice A n c, .func (.func 24) #[] #[]] w (Tells1 w (!l.all may)) := by
  have H := Lib.hid (indexFunc_any w hi A n c l h hh ht hL)
  clear h ht hL
  go_enter Tryd.func23, Tryd.ntmps23
  go_wp2_with (go_at_call 45; refine H.out.mono ?_; rintro e w2 ⟨z, rfl, hz, hb2⟩)
  go_ret
  exact tells1 (by rw [← hz]) hb2
end Go.Proofs.YtinhlemebnlijaaDoor

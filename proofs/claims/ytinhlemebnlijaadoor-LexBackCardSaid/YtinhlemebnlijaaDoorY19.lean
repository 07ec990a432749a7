/-
  PLAIN: what is joined is cut again as it was; what is cut may be joined. No program stands in it.
-/
import Derived.Test.YtinhlemebnlijaaDoorY13
import Derived.Test.YtinhlemebnlijaaDoorY17
import Derived.Test.YtinhlemebnlijaaDoorYE
namespace Go.Proofs.YtinhlemebnlijaaDoor
open Go
set_option linter.unusedVariables false
/-- nothing, or a blank first -/
def Tail (v : List UInt8) : Prop := v = [] ∨ ∃ b u, v = b :: u ∧ blank b = true
theorem Tail.apart {v : List UInt8} (h : Tail v) : apart v = true := by
  rcases h with rfl | ⟨b, u, rfl, hb⟩
  · rfl
  · have hc : innC b = false := by rcases blank_cases hb with rfl | rfl <;> decide
    simp [Go.Proofs.YtinhlemebnlijaaDoor.apart, hc]
theorem farIs_app {P : List UInt8 → Bool} {l v : List UInt8} (hb : ∀ l c, blank c = true → P (l ++ [c]) = false) (hy : ∀ k, k < l.length → P (l.take (k + 1)) = true) (hv : Tail v) : FarIs P (l ++ v) l.length := by
  refine ⟨by rw [List.length_append]; omega, fun k hk => ?_, fun hlt => ?_⟩
  · rw [List.take_append_of_le_length (by omega)]; exact hy k hk
  · rcases hv with rfl | ⟨b, u, rfl, hbl⟩
    · simp at hlt
    · have : (l ++ b :: u).take (l.length + 1) = l ++ [b] := by rw [List.take_length_add_append]; rfl
      rw [this]; exact hb _ _ hbl
theorem farIs_front {P : List UInt8 → Bool} {c : UInt8} {t : List UInt8} (h : P [c] = false) : FarIs P (c :: t) 0 :=
  ⟨Nat.zero_le _, fun k hk => absurd hk (by omega), fun _ => by simpa using h⟩
theorem right_prefix {l : List UInt8} (h : right l = true) (k : Nat) (hk : k < l.length) : right (l.take (k + 1)) = true := by
  cases l with
  | nil => simp at hk
  | cons c t =>
    simp only [right, Bool.and_eq_true, decide_eq_true_eq] at h
    rw [List.take_succ_cons]
    simp only [right, Bool.and_eq_true, decide_eq_true_eq]
    refine ⟨⟨by rw [List.length_take]; omega, h.1.2⟩, ?_⟩
    rw [List.all_eq_true] at h ⊢
    exact fun x hx => h.2 x (List.mem_of_mem_take hx)
theorem dec_prefix : ∀ (u : Nat), u ≤ 9223372036854775807 → ∀ k, k < (Lib.decDigits u).length → digP ((Lib.decDigits u).take (k + 1)) = true := by
  intro u
  induction u using Nat.strongRecOn with
  | _ u ih =>
    intro hu k hk
    by_cases he : k + 1 = (Lib.decDigits u).length
    · rw [he, List.take_length, ← itoa_of_nat]
      unfold digP
      rw [intT_show u (by omega) (by omega)]; rfl
    · by_cases h10 : u < 10
      · exfalso
        rw [Lib.decDigits, dif_pos h10] at hk he
        simp at hk he; omega
      · have e : Lib.decDigits u = Lib.decDigits (u / 10) ++ [UInt8.ofNat (48 + u % 10)] := by rw [Lib.decDigits, dif_neg h10]
        rw [e] at hk he ⊢
        rw [List.length_append, List.length_singleton] at hk he
        rw [List.take_append_of_le_length (by omega)]
        exact ih (u / 10) (by omega) (by omega) k (by omega)
theorem lexT_form {k : Tok} {v : List UInt8} (hm : may k = true) (hk : TokOk k) (hv : Tail v) : lexT (formT k ++ v) = (some k.core, (formT k).length) := by
  obtain ⟨kd, T, n, pl⟩ := k
  unfold may at hm
  simp only at hm
  split at hm
  · rename_i h1
    subst h1
    rw [Bool.and_eq_true, decide_eq_true_eq, decide_eq_true_eq] at hm
    obtain ⟨u, rfl⟩ := Int.eq_ofNat_of_zero_le hm.1
    have hu := hk.i1
    simp only at hu
    have hf : formT ⟨1, T, (u : Int), pl⟩ = Lib.decDigits u := itoa_of_nat u
    rw [hf]
    have hd := (dec_val u).2
    have hne := dec_ne u
    have hI : intT (Lib.decDigits u) = some (u : Int) := by rw [← itoa_of_nat]; exact intT_show u (by omega) (by omega)
    have hpre := dec_prefix u (by omega)
    generalize Lib.decDigits u = D at *
    cases D with
    | nil => exact absurd rfl hne
    | cons c t =>
      have hc : isDg c = true := by rw [List.all_cons, Bool.and_eq_true] at hd; exact hd.1
      have hp := dg_plain c hc
      have hr : right [c] = false := by
        rw [Bool.eq_false_iff]; intro h
        have := (right_head h).1
        rw [hp.1] at this; cases this
      rw [way_lexT (r := c :: t ++ v) (.int _ (farIs_front (t := t ++ v) hr) (farIs_app digP_blank hpre hv) (by simp))]
      unfold intTk
      rw [List.drop_left, if_pos hv.apart, List.take_left, hI]
      have hT : ba [] = T := by rw [← ba_list' T, hm.2]
      simp [Tok.core, hT]
  · rename_i h1
    split at hm
    · rename_i h2
      subst h2
      simp only [decide_eq_true_eq] at hm
      subst hm
      have hf : formT ⟨2, T, 0, pl⟩ = quote T.data.toList := rfl
      rw [hf]
      have e : quote T.data.toList ++ v = 34 :: (T.data.toList.flatMap form ++ 34 :: v) := by simp [quote]
      rw [e, way_lexT (.text _ (farIs_front (by decide)) (farIs_front (by decide +kernel)) rfl)]
      unfold textT
      rw [scanL_back]
      have hl : (quote T.data.toList).length = (T.data.toList.flatMap form).length + 2 := by unfold quote; rw [List.length_append, List.length_cons]; rfl
      simp [Tok.core, ba_list', hl]
    · rename_i h2
      have hf : formT ⟨kd, T, n, pl⟩ = T.data.toList := by unfold formT; rw [if_neg h1, if_neg h2]
      have hname : right T.data.toList = true → n = 0 → kindOf T.data.toList = kd → lexT (T.data.toList ++ v) = (some (Tok.core ⟨kd, T, n, pl⟩), T.data.toList.length) := by
        intro hr hn hkd
        have hl : 0 < T.data.toList.length := by
          cases hT : T.data.toList with
          | nil => rw [hT] at hr; cases hr
          | cons a b => simp
        rw [way_lexT (.name _ (farIs_app right_blank (right_prefix hr) hv) hl)]
        unfold nameT
        rw [List.drop_left, if_pos hv.apart, List.take_left, hkd, ba_list', hn]; rfl
      rw [hf]
      split at hm
      · rename_i h3
        rw [Bool.and_eq_true, Bool.and_eq_true, decide_eq_true_eq] at hm
        refine hname hm.1.2 hm.1.1 ?_
        unfold kindOf
        rw [if_neg (by have := hm.2; simp at this; simp [this]), h3]
      · split at hm
        · rename_i h4
          rw [Bool.and_eq_true, decide_eq_true_eq] at hm
          refine hname (wordB_right hm.2) hm.1 ?_
          unfold kindOf
          rw [if_pos hm.2, h4]
        · split at hm
          · rename_i h5
            rw [Bool.and_eq_true, decide_eq_true_eq] at hm
            obtain ⟨hn, hmk⟩ := hm
            have hpl := mark_plain hmk
            have hmem : T.data.toList ∈ marksL := by simpa [markB] using hmk
            have hpre : ∀ k, k < T.data.toList.length → begM (T.data.toList.take (k + 1)) = true := by
              intro k _
              unfold begM
              rw [List.any_eq_true]
              exact ⟨_, hmem, by rw [List.isPrefixOf_iff_prefix]; exact List.take_prefix _ _⟩
            have hfar := farIs_app begM_blank hpre hv
            obtain ⟨c, hcf, hh⟩ := marks_first _ hmem
            cases hT : T.data.toList with
            | nil => rw [hT] at hh; cases hh
            | cons a t =>
              rw [hT] at hh hfar hmk
              simp at hh; subst hh
              have hfp := first_plain a hcf
              have hr : right [a] = false := by
                rw [Bool.eq_false_iff]; intro h
                have := (right_head h).1
                rw [hfp.1] at this; cases this
              have hd : digP [a] = false := by
                rw [Bool.eq_false_iff]; intro h
                have := dig_one a h
                rw [hfp.2] at this; cases this
              have h34 : a ≠ 34 := by
                have : ∀ c ∈ firsts, c ≠ 34 := by decide
                exact this a hcf
              rw [List.cons_append] at hfar ⊢
              rw [way_lexT (.mark _ (farIs_front hr) (farIs_front hd) (by simp; exact h34) hfar)]
              unfold markT
              rw [← List.cons_append, List.take_left, if_pos hmk, ← hT, ba_list', hn, h5]; rfl
          · cases hm
theorem lexT_front {c : UInt8} {t : List UInt8} {k : Tok} {n : Nat} (h : lexT (c :: t) = (some k, n)) : blank c = false := by
  rw [Bool.eq_false_iff]
  intro hb
  have hr : right [c] = false := right_blank [] c hb
  have hd : digP [c] = false := digP_blank [] c hb
  have hg : begM [c] = false := begM_blank [] c hb
  have h34 : c ≠ 34 := by rcases blank_cases hb with rfl | rfl <;> decide
  rw [way_lexT (.mark 0 (farIs_front hr) (farIs_front hd) (by simp; exact h34) (farIs_front hg))] at h
  unfold markT at h
  rw [List.take_zero, if_neg (by decide)] at h
  simp at h
theorem core_at (k : Tok) (p : Nat) : (k.core.at p).core = k.core := rfl
theorem scanT_form {k : Tok} {v : List UInt8} (p : Nat) (hm : may k = true) (hk : TokOk k) (hv : Tail v) : scanT p (formT k ++ v) = ahd (k.core.at p) (scanT (p + (formT k).length) v) := by
  have h := lexT_form hm hk hv
  have hl := (lexT_len h).1
  cases hf : formT k ++ v with
  | nil => rw [hf] at h; have := (lexT_len h).2; rw [List.length_nil] at this; omega
  | cons c t =>
    rw [hf] at h
    rw [scanT_tok (lexT_front h) h, ← hf, List.drop_left]
theorem tail_tail (l : List Tok) : Tail (tailT l) := by
  cases l with
  | nil => exact .inl rfl
  | cons k l => exact .inr ⟨32, _, rfl, by decide⟩
theorem scanT_tailT : ∀ (l : List Tok) (p : Nat), l.all may = true → (∀ k ∈ l, TokOk k) → ∃ m, scanT p (tailT l) = (some m, 0) ∧ AlikeL l m
  | [], p, _, _ => ⟨[], scanT_nil p, rfl⟩
  | k :: l, p, hm, hk => by
    rw [List.all_cons, Bool.and_eq_true] at hm
    obtain ⟨m, hs, ha⟩ := scanT_tailT l (p + 1 + (formT k).length) hm.2 (fun x hx => hk x (by simp [hx]))
    have e : tailT (k :: l) = 32 :: (formT k ++ tailT l) := rfl
    rw [e, scanT_blank (by decide), scanT_form _ hm.1 (hk k (by simp)) (tail_tail l), hs]
    refine ⟨_, rfl, ?_⟩
    unfold AlikeL at ha ⊢
    rw [List.map_cons, List.map_cons, ha]; rfl
theorem scanT_joinT (l : List Tok) (hm : l.all may = true) (hk : ∀ k ∈ l, TokOk k) : ∃ m, scanT 0 (joinT l) = (some m, 0) ∧ AlikeL l m := by
  cases l with
  | nil => exact ⟨[], scanT_nil 0, rfl⟩
  | cons k l =>
    rw [List.all_cons, Bool.and_eq_true] at hm
    obtain ⟨m, hs, ha⟩ := scanT_tailT l (0 + (formT k).length) hm.2 (fun x hx => hk x (by simp [hx]))
    have e : joinT (k :: l) = formT k ++ tailT l := rfl
    rw [e, scanT_form _ hm.1 (hk k (by simp)) (tail_tail l), hs]
    refine ⟨_, rfl, ?_⟩
    unfold AlikeL at ha ⊢
    rw [List.map_cons, List.map_cons, ha]; rfl
theorem joinR_cases (l : List Tok) : (l.all may = false ∧ joinR l = ([], 2)) ∨ (l.all may = true ∧ 4096 < (joinT l).length ∧ joinR l = ([], 3)) ∨ (l.all may = true ∧ (joinT l).length ≤ 4096 ∧ joinR l = (joinT l, 0)) := by
  cases ha : l.all may with
  | false => left; exact ⟨rfl, by unfold joinR; rw [if_pos ha]⟩
  | true =>
    right
    by_cases h : 4096 < (joinT l).length
    · left; exact ⟨rfl, h, joinR_long ha h⟩
    · right; refine ⟨rfl, by omega, ?_⟩; unfold joinR; rw [if_neg (by rw [ha]; simp), if_neg h]
theorem scanR_joinT {l : List Tok} (hm : l.all may = true) (hk : ∀ k ∈ l, TokOk k) (h4 : (joinT l).length ≤ 4096) : ∃ m, scanR (joinT l) = (m, 0, 0) ∧ AlikeL l m := by
  obtain ⟨m, hs, ha⟩ := scanT_joinT l hm hk
  refine ⟨m, ?_, ha⟩
  unfold scanR; rw [if_neg (by omega), hs]
theorem scanL_len {t l : List UInt8} {n : Nat} (h : scanL t = (some l, n)) : l.length ≤ t.length := by
  obtain ⟨e, hn⟩ := scanL_is t.length t l n (Nat.le_refl _) h
  have h1 := flat_ge l
  have h2 := congrArg List.length e
  rw [List.length_take, List.length_append] at h2
  simp only [List.length_cons, List.length_nil] at h2
  omega
theorem lexT_may {r : List UInt8} {k : Tok} {n : Nat} (h : lexT r = (some k, n)) (hr : r.length ≤ 100000) : may k = true ∧ TokOk k := by
  have hw := lexT_way r
  generalize hq : lexT r = y at hw
  rw [hq] at h
  clear hq
  have hbt : ∀ m, (ba (r.take m)).size ≤ 140737488355328 := fun m => by rw [ba_size, List.length_take]; omega
  cases hw with
  | name m h1 h2 =>
    unfold nameT at h
    split at h
    · simp only [Prod.mk.injEq, Option.some.injEq] at h
      obtain ⟨rfl, _⟩ := h
      have hR := h1.yes (m - 1) (by omega)
      rw [show m - 1 + 1 = m by omega] at hR
      refine ⟨?_, ⟨by simp, by simp, hbt m⟩⟩
      unfold may kindOf
      simp only [ba_data]
      cases hwd : wordB (r.take m) with
      | true => simp
      | false => simp [hR]
    · simp at h
  | int m h1 h2 h3 =>
    unfold intTk at h
    split at h
    · simp only [Prod.mk.injEq, Option.some.injEq] at h
      obtain ⟨rfl, _⟩ := h
      have hD := h2.yes (m - 1) (by omega)
      rw [show m - 1 + 1 = m by omega] at hD
      obtain ⟨c, t, rfl, hc⟩ := far_pos_head h2 h3
      obtain ⟨u, hu⟩ := take_cons (c := c) (t := t) (n := m) h3
      have hq := is_numQ (dig_one c hc) (by rw [← hu]; exact hD)
      rw [hu]
      unfold numQ at hq
      cases hv : intT (c :: u) with
      | none => rw [hv] at hq; cases hq
      | some v =>
        rw [hv] at hq
        have h0 : 0 ≤ v := by simpa using hq
        have hb := intT_out hv
        refine ⟨?_, ⟨hb.2.1, hb.2.2.1, by rw [ba_size]; simp⟩⟩
        unfold may
        simp [h0, ba]
    · simp at h
  | text t h1 h2 h3 =>
    unfold textT at h
    split at h
    · rename_i l m hs
      simp only [Prod.mk.injEq, Option.some.injEq] at h
      obtain ⟨rfl, _⟩ := h
      have hl := scanL_len hs
      subst h3
      simp at hr
      exact ⟨by unfold may; simp, ⟨by simp, by simp, by rw [ba_size]; omega⟩⟩
    · simp at h
  | mark m h1 h2 h3 h4 =>
    unfold markT at h
    split at h
    · rename_i hm
      simp only [Prod.mk.injEq, Option.some.injEq] at h
      obtain ⟨rfl, _⟩ := h
      refine ⟨?_, ⟨by simp, by simp, hbt m⟩⟩
      unfold may
      simp only [ba_data]
      simp [hm]
    · simp at h
theorem scanT_may : ∀ (d p : Nat) (r : List UInt8) (l : List Tok), r.length ≤ d → r.length ≤ 100000 → scanT p r = (some l, 0) → l.all may = true ∧ ∀ k ∈ l, TokOk k := by
  intro d
  induction d with
  | zero =>
    intro p r l hd hr h
    obtain rfl : r = [] := List.length_eq_zero_iff.1 (by omega)
    rw [scanT_nil] at h
    simp only [Prod.mk.injEq, Option.some.injEq, and_true] at h
    subst h
    exact ⟨rfl, by simp⟩
  | succ d ih =>
    intro p r l hd hr h
    rcases scanT_ways r with rfl | ⟨c, t, rfl, hc⟩ | ⟨c, t, k, n, rfl, hc, hk⟩ | ⟨c, t, n, rfl, hc, hk⟩
    · rw [scanT_nil] at h
      simp only [Prod.mk.injEq, Option.some.injEq, and_true] at h
      subst h
      exact ⟨rfl, by simp⟩
    · rw [scanT_blank hc] at h
      exact ih _ _ _ (by simp at hd; omega) (by simp at hr; omega) h
    · have hl := lexT_len hk
      rw [scanT_tok hc hk] at h
      rcases hs : scanT (p + n) ((c :: t).drop n) with ⟨o, j⟩
      rw [hs] at h
      cases o with
      | none => simp [ahd] at h
      | some l' =>
        have := scanT_zero _ _ _ _ _ (Nat.le_refl _) hs
        subst this
        simp only [ahd, Prod.mk.injEq, Option.some.injEq, and_true] at h
        subst h
        obtain ⟨h1, h2⟩ := ih _ _ _ (by rw [List.length_drop]; omega) (by rw [List.length_drop]; omega) hs
        obtain ⟨m1, m2⟩ := lexT_may hk hr
        refine ⟨by rw [List.all_cons, h1]; simp; exact m1, fun x hx => ?_⟩
        rcases List.mem_cons.1 hx with rfl | hx
        · exact ⟨m2.i0, m2.i1, m2.t⟩
        · exact h2 x hx
    · rw [scanT_bad hc hk] at h; simp at h
theorem scanR_may {S : List UInt8} {l : List Tok} (h : scanR S = (l, 0, 0)) : l.all may = true ∧ ∀ k ∈ l, TokOk k := by
  rcases scanR_cases S with ⟨_, hr⟩ | ⟨h4, m, hs, hr⟩ | ⟨_, n, _, hr⟩
  · rw [hr] at h; simp at h
  · rw [hr] at h
    simp only [Prod.mk.injEq, and_true] at h
    subst h
    exact scanT_may _ 0 S m (Nat.le_refl _) (by omega) hs
  · rw [hr] at h; simp at h
end Go.Proofs.YtinhlemebnlijaaDoor

/-
  PLAIN: two texts with a blank between them. No program stands in it.
-/
import Derived.Test.YtinhlemebnlijaaDoorY15
namespace Go.Proofs.YtinhlemebnlijaaDoor
open Go
set_option linter.unusedVariables false
theorem stepL_le_scanL {r : List UInt8} (h0 : r ≠ []) (h34 : r.head? ≠ some 34) : (stepL r).1 ≤ (scanL r).2 := by
  rcases hs : stepL r with ⟨m, o⟩
  cases o with
  | some b => rw [scanL_some h34 hs]; exact Nat.le_add_right _ _
  | none => rw [scanL_stop h0 h34 hs]; exact Nat.le_refl _
theorem numL_alive {v w : List UInt8} {k : Nat} (h : numL v = (k, none)) : k ≤ (numL (v.take k ++ w)).1 := by
  by_cases h0 : k = 0
  · omega
  · unfold numL at h
    cases g1 : digL v with
    | none => rw [g1] at h; simp at h; omega
    | some a =>
      obtain ⟨ha, z, rfl⟩ := digL_some g1
      rw [g1] at h
      simp only [List.tail_cons] at h
      cases hn : numB (16 * (a : Int) + 15) with
      | false => rw [hn] at h; simp at h; omega
      | true =>
        rw [hn] at h
        have hk : k = 1 := by
          simp only [if_true] at h
          split at h
          · simp at h; omega
          · split at h <;> simp at h; omega
        subst hk
        show 1 ≤ (numL (hexOf a :: w)).1
        unfold numL
        rw [digL_of a ha]
        simp only [List.tail_cons, hn, if_true]
        split
        · simp
        · split <;> simp
theorem escL_alive {u w : List UInt8} {k : Nat} (h : escL u = (k, none)) : k ≤ (escL (u.take k ++ w)).1 := by
  cases u with
  | nil => simp [escL] at h; omega
  | cons y v =>
    simp only [escL] at h
    split at h
    · simp at h
    · rename_i h1
      split at h
      · simp at h
      · rename_i h2
        split at h
        · rename_i h3
          simp only [Prod.mk.injEq] at h
          obtain ⟨rfl, hn⟩ := h
          have := numL_alive (w := w) (v := v) (k := (numL v).1) (by rw [← hn])
          rw [show 1 + (numL v).1 = (numL v).1 + 1 by omega, List.take_succ_cons, List.cons_append]
          simp only [escL]
          rw [if_neg h1, if_neg h2, if_pos h3]
          simp only; omega
        · simp at h; omega
theorem stepL_alive {t w : List UInt8} {m : Nat} (h : stepL t = (m, none)) (h0 : 0 < m) : ∃ u, t.take m ++ w = 92 :: u ∧ m ≤ (stepL (t.take m ++ w)).1 := by
  cases t with
  | nil => simp [stepL] at h; omega
  | cons x u =>
    simp only [stepL] at h
    split at h
    · rename_i hx
      simp only [Prod.mk.injEq] at h
      obtain ⟨rfl, hn⟩ := h
      have := escL_alive (w := w) (u := u) (k := (escL u).1) (by rw [← hn])
      have e : x = 92 := UInt8.toNat_inj.1 hx
      rw [show 1 + (escL u).1 = (escL u).1 + 1 by omega, List.take_succ_cons, List.cons_append]
      refine ⟨_, by rw [e], ?_⟩
      simp only [stepL]
      rw [if_pos hx]
      simp only; omega
    · split at h
      · simp at h; omega
      · simp at h
theorem scanL_alive : ∀ (d : Nat) (t : List UInt8) (n : Nat) (w : List UInt8), t.length ≤ d → scanL t = (none, n) → n ≤ (scanL (t.take n ++ w)).2 := by
  intro d
  induction d with
  | zero =>
    intro t n w hd h
    obtain rfl : t = [] := List.length_eq_zero_iff.1 (by omega)
    rw [scanL_nil] at h; simp at h; omega
  | succ d ih =>
    intro t n w hd h
    rcases scan_ways t with rfl | ⟨v, rfl⟩ | ⟨c, v, rfl⟩ | ⟨h0, h34, m, hm⟩
    · rw [scanL_nil] at h; simp at h; omega
    · rw [scanL_quote] at h; simp at h
    · rw [scanL_form] at h
      simp only [Prod.mk.injEq, Option.map_eq_none_iff] at h
      obtain ⟨hl, rfl⟩ := h
      have hf := form_length c
      have := ih v (scanL v).2 w (by rw [List.length_append] at hd; omega) (by rw [← hl])
      rw [List.take_length_add_append, List.append_assoc, scanL_form]
      simp only; omega
    · rw [scanL_stop h0 h34 hm] at h
      simp only [Prod.mk.injEq, true_and] at h
      subst h
      by_cases hz : m = 0
      · omega
      · obtain ⟨u, hu, hle⟩ := stepL_alive (w := w) hm (by omega)
        refine Nat.le_trans hle (stepL_le_scanL ?_ ?_)
        · rw [hu]; simp
        · rw [hu]; simp
theorem lexT_alive {r w : List UInt8} {n : Nat} (h : lexT r = (none, n)) : n ≤ (lexT (r.take n ++ w)).2 := by
  by_cases h0 : n = 0
  · omega
  have hw := lexT_way r
  generalize hq : lexT r = y at hw
  rw [hq] at h
  clear hq
  have hhead : ∀ m, n = m → m ≤ r.length → (r.take m ++ w).head? = r.head? := by
    intro m e hm
    cases r with
    | nil => simp at hm; omega
    | cons c t =>
      obtain ⟨u, hu⟩ := take_cons (c := c) (t := t) (n := m) (by omega)
      rw [hu]; rfl
  cases hw with
  | name m h1 h2 =>
    have e : m = n := by unfold nameT at h; split at h <;> simp at h; omega
    subst e
    have hg := far_grow (w := w) h1
    rw [way_lexT (.name _ (far_is right (r.take m ++ w)) (by omega))]
    unfold nameT
    split <;> exact hg
  | int m h1 h2 h3 =>
    have e : m = n := by unfold intTk at h; split at h <;> simp at h; omega
    subst e
    have hg := far_grow (w := w) h2
    rw [way_lexT (.int _ (far_zero h1 (hhead m rfl h2.le)) (far_is digP (r.take m ++ w)) (by omega))]
    unfold intTk
    split <;> exact hg
  | text t h1 h2 h3 =>
    unfold textT at h
    split at h
    · simp at h
    · rename_i m hs
      simp only [Prod.mk.injEq, true_and] at h; subst h
      subst h3
      have ha := scanL_alive t.length t m w (Nat.le_refl _) hs
      rw [List.take_succ_cons, List.cons_append, way_lexT (r := 34 :: (t.take m ++ w)) (.text _ (far_zero h1 rfl) (far_zero h2 rfl) rfl)]
      unfold textT
      rcases hs2 : scanL (t.take m ++ w) with ⟨o, j⟩
      rw [hs2] at ha
      cases o with
      | some l => simp only at ha ⊢; omega
      | none => simp only at ha ⊢; omega
  | mark m h1 h2 h3 h4 =>
    have e : m = n := by unfold markT at h; split at h <;> simp at h; omega
    subst e
    have hg := far_grow (w := w) h4
    have hh := hhead m rfl h4.le
    rw [way_lexT (.mark _ (far_zero h1 hh) (far_zero h2 hh) (by rw [hh]; exact h3) (far_is begM (r.take m ++ w)))]
    unfold markT
    split <;> exact hg
theorem scanT_ge : ∀ (d p : Nat) (r : List UInt8) (e : Nat), r.length ≤ d → scanT p r = (none, e) → p ≤ e := by
  intro d
  induction d with
  | zero =>
    intro p r e hd h
    obtain rfl : r = [] := List.length_eq_zero_iff.1 (by omega)
    rw [scanT_nil] at h; simp at h
  | succ d ih =>
    intro p r e hd h
    rcases scanT_ways r with rfl | ⟨c, t, rfl, hb⟩ | ⟨c, t, k, n, rfl, hb, hk⟩ | ⟨c, t, n, rfl, hb, hk⟩
    · rw [scanT_nil] at h; simp at h
    · rw [scanT_blank hb] at h
      have := ih (p + 1) t e (by simp at hd; omega) h
      omega
    · have hl := lexT_len hk
      rw [scanT_tok hb hk] at h
      unfold ahd at h
      split at h
      · simp at h
      · rename_i e' hs
        simp only [Prod.mk.injEq, true_and] at h; subst h
        have := ih (p + n) _ _ (by rw [List.length_drop]; omega) hs
        omega
    · rw [scanT_bad hb hk] at h
      simp at h; omega
theorem ext_behind {a : UInt8} {t v : List UInt8} {n : Nat} (hn : n ≤ (a :: t).length) (hv : (a :: t).drop n ≠ [] ∨ ∃ b u, v = b :: u ∧ blank b = true) : Ext (a :: t) (a :: t ++ v) n := by
  refine ⟨hn, by rw [List.length_append]; omega, by rw [List.take_append_of_le_length hn], fun c hc => ?_⟩
  rw [List.drop_append_of_le_length hn] at hc
  cases hd : (a :: t).drop n with
  | cons x y => rw [hd] at hc; right; simpa using hc
  | nil =>
    rw [hd] at hc hv
    rcases hv with hv | ⟨b, u, rfl, hb⟩
    · exact absurd rfl hv
    · simp at hc; left; rw [← hc]; exact hb
theorem scanT_bad_more : ∀ (d p : Nat) (r v : List UInt8) (e : Nat), r.length ≤ d → scanT p r = (none, e) → (∃ l, scanT p (r ++ v) = (some l, 0)) ∨ ∃ k, e ≤ k ∧ scanT p (r ++ v) = (none, k) := by
  intro d
  induction d with
  | zero =>
    intro p r v e hd h
    obtain rfl : r = [] := List.length_eq_zero_iff.1 (by omega)
    rw [scanT_nil] at h; simp at h
  | succ d ih =>
    intro p r v e hd h
    rcases scanT_ways r with rfl | ⟨c, t, rfl, hb⟩ | ⟨c, t, k, n, rfl, hb, hk⟩ | ⟨c, t, n, rfl, hb, hk⟩
    · rw [scanT_nil] at h; simp at h
    · rw [scanT_blank hb] at h
      rw [List.cons_append, scanT_blank hb]
      exact ih (p + 1) t v e (by simp at hd; omega) h
    · have hl := lexT_len hk
      rw [scanT_tok hb hk] at h
      have h' : scanT (p + n) ((c :: t).drop n) = (none, e) := by
        unfold ahd at h
        split at h
        · simp at h
        · rename_i e' hs; rw [hs]; exact h
      have hne : (c :: t).drop n ≠ [] := by intro e0; rw [e0, scanT_nil] at h'; simp at h'
      have hx := lexT_ext hk (ext_behind (v := v) hl.2 (.inl hne))
      rw [List.cons_append] at hx ⊢
      rw [scanT_tok hb hx, ← List.cons_append, List.drop_append_of_le_length hl.2]
      rcases ih (p + n) ((c :: t).drop n) v e (by rw [List.length_drop]; omega) h' with ⟨l, hl'⟩ | ⟨j, hj, hj'⟩
      · exact .inl (ahd_some ⟨l, hl'⟩)
      · right; exact ⟨j, hj, by rw [hj']; rfl⟩
    · rw [scanT_bad hb hk] at h
      simp only [Prod.mk.injEq, true_and] at h
      have ha := lexT_alive (w := (c :: t).drop n ++ v) hk
      rw [← List.append_assoc, List.take_append_drop] at ha
      rw [List.cons_append] at ha ⊢
      rcases hx : lexT (c :: (t ++ v)) with ⟨o, m⟩
      rw [hx] at ha
      cases o with
      | none => right; exact ⟨p + m, by simp only at ha; omega, by rw [scanT_bad hb hx]⟩
      | some k =>
        rw [scanT_tok hb hx]
        rcases hs : scanT (p + m) ((c :: (t ++ v)).drop m) with ⟨o2, j⟩
        cases o2 with
        | some l => left; exact ⟨_, rfl⟩
        | none =>
          right
          have := scanT_ge _ _ _ _ (Nat.le_refl _) hs
          exact ⟨j, by simp only at ha; omega, rfl⟩
theorem comb_cons {acc : List Tok} {k : Tok} {x : Option (List Tok) × Nat} (hx : ∀ l n, x = (some l, n) → n = 0) : ahd k (comb acc x) = comb (k :: acc) x := by
  obtain ⟨o, n⟩ := x
  cases o with
  | some l => simp [comb, ahd, hx l n rfl]
  | none => rfl
theorem scanT_behind : ∀ (d p : Nat) (r v : List UInt8) (b : UInt8) (l : List Tok), blank b = true → r.length ≤ d → scanT p r = (some l, 0) → scanT p (r ++ b :: v) = comb l (scanT (p + r.length + 1) v) := by
  intro d
  induction d with
  | zero =>
    intro p r v b l hb hd h
    obtain rfl : r = [] := List.length_eq_zero_iff.1 (by omega)
    rw [scanT_nil] at h
    simp only [Prod.mk.injEq, Option.some.injEq, and_true] at h
    subst h
    rw [List.nil_append, scanT_blank hb, comb_nil]; rfl
  | succ d ih =>
    intro p r v b l hb hd h
    rcases scanT_ways r with rfl | ⟨c, t, rfl, hc⟩ | ⟨c, t, k, n, rfl, hc, hk⟩ | ⟨c, t, n, rfl, hc, hk⟩
    · rw [scanT_nil] at h
      simp only [Prod.mk.injEq, Option.some.injEq, and_true] at h
      subst h
      rw [List.nil_append, scanT_blank hb, comb_nil]; rfl
    · rw [scanT_blank hc] at h
      rw [List.cons_append, scanT_blank hc, ih (p + 1) t v b l hb (by simp at hd; omega) h, List.length_cons]
      congr 2; omega
    · have hl := lexT_len hk
      rw [scanT_tok hc hk] at h
      obtain ⟨l', h', rfl⟩ : ∃ l', scanT (p + n) ((c :: t).drop n) = (some l', 0) ∧ l = k.at p :: l' := by
        rcases hs : scanT (p + n) ((c :: t).drop n) with ⟨o, j⟩
        rw [hs] at h
        cases o with
        | none => simp [ahd] at h
        | some l' =>
          have := scanT_zero _ _ _ _ _ (Nat.le_refl _) hs
          subst this
          simp only [ahd, Prod.mk.injEq, Option.some.injEq, and_true] at h
          exact ⟨l', rfl, h.symm⟩
      have hx := lexT_ext hk (ext_behind (v := b :: v) hl.2 (.inr ⟨b, v, rfl, hb⟩))
      rw [List.cons_append] at hx ⊢
      rw [scanT_tok hc hx, ← List.cons_append, List.drop_append_of_le_length hl.2, ih (p + n) _ v b l' hb (by rw [List.length_drop]; omega) h', comb_cons (fun l n h => scanT_zero _ _ _ _ _ (Nat.le_refl _) h), List.length_drop]
      congr 2; omega
    · rw [scanT_bad hc hk] at h; simp at h
/-- places moved on -/
def Tok.up (k : Tok) (q : Nat) : Tok := { k with place := k.place + q }
def shiftR (q : Nat) : Option (List Tok) × Nat → Option (List Tok) × Nat
  | (some l, n) => (some (l.map (·.up q)), n)
  | (none, e) => (none, e + q)
theorem scanT_shift (q : Nat) : ∀ (d p : Nat) (r : List UInt8), r.length ≤ d → scanT (p + q) r = shiftR q (scanT p r) := by
  intro d
  induction d with
  | zero =>
    intro p r hd
    obtain rfl : r = [] := List.length_eq_zero_iff.1 (by omega)
    rw [scanT_nil, scanT_nil]; rfl
  | succ d ih =>
    intro p r hd
    rcases scanT_ways r with rfl | ⟨c, t, rfl, hc⟩ | ⟨c, t, k, n, rfl, hc, hk⟩ | ⟨c, t, n, rfl, hc, hk⟩
    · rw [scanT_nil, scanT_nil]; rfl
    · rw [scanT_blank hc, scanT_blank hc, show p + q + 1 = p + 1 + q by omega, ih _ _ (by simp at hd; omega)]
    · have hl := lexT_len hk
      rw [scanT_tok hc hk, scanT_tok hc hk, show p + q + n = p + n + q by omega, ih _ _ (by rw [List.length_drop]; omega)]
      rcases scanT (p + n) ((c :: t).drop n) with ⟨o, j⟩
      cases o with
      | some l => simp [shiftR, ahd, Tok.at, Tok.up]
      | none => rfl
    · rw [scanT_bad hc hk, scanT_bad hc hk]
      simp [shiftR]; omega
def scanD : Option (List Tok) × Nat → List Tok × Nat × Int
  | (some l, _) => (l, 0, 0)
  | (none, n) => ([], n, 70)
theorem scanR_short {S : List UInt8} (h : S.length ≤ 4096) : scanR S = scanD (scanT 0 S) := by
  unfold scanR
  rw [if_neg (by omega)]
  rcases scanT 0 S with ⟨o, n⟩
  cases o <;> rfl
/-- what two texts with a blank between them have -/
theorem scanR_parts {A B : List UInt8} (h : A.length + B.length + 1 ≤ 4096) :
    (∀ l, scanR A = (l, 0, 0) → ∀ m, scanR B = (m, 0, 0) → scanR (A ++ 32 :: B) = (l ++ m.map (·.up (A.length + 1)), 0, 0)) ∧
    (∀ l, scanR A = (l, 0, 0) → ∀ n, scanR B = ([], n, 70) → scanR (A ++ 32 :: B) = ([], A.length + 1 + n, 70)) ∧
    (∀ n, scanR A = ([], n, 70) → (∃ l, scanR (A ++ 32 :: B) = (l, 0, 0)) ∨ ∃ k, n ≤ k ∧ scanR (A ++ 32 :: B) = ([], k, 70)) := by
  have hAB : scanR (A ++ 32 :: B) = scanD (scanT 0 (A ++ 32 :: B)) := scanR_short (by rw [List.length_append, List.length_cons]; omega)
  have hA : scanR A = scanD (scanT 0 A) := scanR_short (by omega)
  have hB : scanR B = scanD (scanT 0 B) := scanR_short (by omega)
  have hbl : blank 32 = true := by decide
  have hsh := scanT_shift (A.length + 1) B.length 0 B (Nat.le_refl _)
  rw [Nat.zero_add] at hsh
  have hok : ∀ l, scanR A = (l, 0, 0) → scanT 0 A = (some l, 0) := by
    intro l hl
    rw [hA] at hl
    rcases hs : scanT 0 A with ⟨o, n⟩
    rw [hs] at hl
    cases o with
    | some l' => have := scanT_zero _ _ _ _ _ (Nat.le_refl _) hs; simp [scanD] at hl; rw [this, hl]
    | none => simp [scanD] at hl
  refine ⟨fun l hl m hm => ?_, fun l hl n hn => ?_, fun n hn => ?_⟩
  · have h1 := scanT_behind A.length 0 A B 32 l hbl (Nat.le_refl _) (hok l hl)
    rw [Nat.zero_add, hsh] at h1
    rw [hB] at hm
    rcases hs : scanT 0 B with ⟨o, j⟩
    rw [hs] at hm h1
    cases o with
    | none => simp [scanD] at hm
    | some m' =>
      simp [scanD] at hm; subst hm
      rw [hAB, h1]; rfl
  · have h1 := scanT_behind A.length 0 A B 32 l hbl (Nat.le_refl _) (hok l hl)
    rw [Nat.zero_add, hsh] at h1
    rw [hB] at hn
    rcases hs : scanT 0 B with ⟨o, j⟩
    rw [hs] at hn h1
    cases o with
    | some m' => simp [scanD] at hn
    | none =>
      simp [scanD] at hn; subst hn
      rw [hAB, h1]
      simp [comb, shiftR, scanD]; omega
  · rw [hA] at hn
    rcases hs : scanT 0 A with ⟨o, j⟩
    rw [hs] at hn
    cases o with
    | some m' => simp [scanD] at hn
    | none =>
      simp [scanD] at hn; subst hn
      rw [hAB]
      rcases scanT_bad_more A.length 0 A (32 :: B) j (Nat.le_refl _) hs with ⟨l, hl⟩ | ⟨k, hk, hk'⟩
      · left; exact ⟨l, by rw [hl]; rfl⟩
      · right; exact ⟨k, hk, by rw [hk']; rfl⟩
end Go.Proofs.YtinhlemebnlijaaDoor

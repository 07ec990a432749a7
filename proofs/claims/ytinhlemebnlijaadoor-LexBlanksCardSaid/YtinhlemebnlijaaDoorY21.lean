/-
  PLAIN: more blanks between the tokens of a text. No program stands in it.
-/
import Derived.Test.YtinhlemebnlijaaDoorY17
import Derived.Test.YtinhlemebnlijaaDoorYE
namespace Go.Proofs.YtinhlemebnlijaaDoor
open Go
set_option linter.unusedVariables false
theorem scanT_blanks {b : List UInt8} (hb : b.all blank = true) (p : Nat) (r : List UInt8) : scanT p (b ++ r) = scanT (p + b.length) r := by
  induction b generalizing p with
  | nil => rfl
  | cons c b ih =>
    rw [List.all_cons, Bool.and_eq_true] at hb
    rw [List.cons_append, scanT_blank hb.1, ih hb.2, List.length_cons]
    congr 1; omega
/-- how a text that has tokens begins -/
theorem scanT_first : ∀ (d p : Nat) (r : List UInt8) (k : Tok) (l : List Tok), r.length ≤ d → scanT p r = (some (k :: l), 0) →
    ∃ w n k0, w + n ≤ r.length ∧ 0 < n ∧ (r.take w).all blank = true ∧ lexT (r.drop w) = (some k0, n) ∧ k = k0.at (p + w) ∧ scanT (p + w + n) (r.drop (w + n)) = (some l, 0) := by
  intro d
  induction d with
  | zero =>
    intro p r k l hd h
    obtain rfl : r = [] := List.length_eq_zero_iff.1 (by omega)
    rw [scanT_nil] at h; simp at h
  | succ d ih =>
    intro p r k l hd h
    rcases scanT_ways r with rfl | ⟨c, t, rfl, hc⟩ | ⟨c, t, k0, n, rfl, hc, hk⟩ | ⟨c, t, n, rfl, hc, hk⟩
    · rw [scanT_nil] at h; simp at h
    · rw [scanT_blank hc] at h
      obtain ⟨w, n, k0, h1, h2, h3, h4, h5, h6⟩ := ih (p + 1) t k l (by simp at hd; omega) h
      refine ⟨w + 1, n, k0, by simp; omega, h2, ?_, by simpa using h4, by rw [h5, show p + (w + 1) = p + 1 + w by omega], ?_⟩
      · rw [List.take_succ_cons, List.all_cons, h3, hc]; rfl
      · rw [show p + (w + 1) + n = p + 1 + w + n by omega, show w + 1 + n = w + n + 1 by omega, List.drop_succ_cons]; exact h6
    · have hl := lexT_len hk
      rw [scanT_tok hc hk] at h
      rcases hs : scanT (p + n) ((c :: t).drop n) with ⟨o, j⟩
      rw [hs] at h
      cases o with
      | none => simp [ahd] at h
      | some l' =>
        have := scanT_zero _ _ _ _ _ (Nat.le_refl _) hs
        subst this
        simp only [ahd, Prod.mk.injEq, Option.some.injEq, and_true] at h
        obtain ⟨rfl, rfl⟩ := List.cons.inj h
        exact ⟨0, n, k0, by omega, hl.1, rfl, hk, rfl, by simpa using hs⟩
    · rw [scanT_bad hc hk] at h; simp at h
theorem scanT_none_left : ∀ (d p : Nat) (r : List UInt8), r.length ≤ d → scanT p r = (some [], 0) → r.all blank = true := by
  intro d
  induction d with
  | zero =>
    intro p r hd h
    obtain rfl : r = [] := List.length_eq_zero_iff.1 (by omega)
    rfl
  | succ d ih =>
    intro p r hd h
    rcases scanT_ways r with rfl | ⟨c, t, rfl, hc⟩ | ⟨c, t, k0, n, rfl, hc, hk⟩ | ⟨c, t, n, rfl, hc, hk⟩
    · rfl
    · rw [scanT_blank hc] at h
      rw [List.all_cons, hc, ih _ _ (by simp at hd; omega) h]; rfl
    · rw [scanT_tok hc hk] at h
      rcases hs : scanT (p + n) ((c :: t).drop n) with ⟨o, j⟩
      rw [hs] at h
      cases o <;> simp [ahd] at h
    · rw [scanT_bad hc hk] at h; simp at h
/-- the text with blanks put ahead of each token and behind the last one: from the place a on, where the tokens l are still to come -/
def outL (b : Nat → List UInt8) (S : List UInt8) : Nat → List Tok → Nat → List UInt8
  | a, [], i => S.drop a ++ b i
  | a, k :: l, i => (S.drop a).take (k.place.toNat - a) ++ b i ++ outL b S k.place.toNat l (i + 1)
/-- from a on the text has these tokens -/
structure Lies (S : List UInt8) (a : Nat) (l : List Tok) : Prop where
  le : a ≤ S.length
  out : scanT a (S.drop a) = (some l, 0)
theorem Lies.head {S : List UInt8} {a : Nat} {k : Tok} {l : List Tok} (h : Lies S a (k :: l)) :
    ∃ (q n : Nat) (k0 : Tok), k = k0.at q ∧ a ≤ q ∧ 0 < n ∧ q + n ≤ S.length ∧ ((S.drop a).take (q - a)).all blank = true ∧ lexT (S.drop q) = (some k0, n) ∧ Lies S (q + n) l := by
  obtain ⟨w, n, k0, h1, h2, h3, h4, h5, h6⟩ := scanT_first _ _ _ _ _ (Nat.le_refl _) h.out
  rw [List.length_drop] at h1
  rw [List.drop_drop] at h4 h6
  have := h.le
  refine ⟨a + w, n, k0, h5, by omega, h2, by omega, by rw [show a + w - a = w by omega]; exact h3, h4, ⟨by omega, ?_⟩⟩
  rw [show a + w + n = a + (w + n) by omega]
  rw [show a + (w + n) = a + w + n by omega] at h6 ⊢
  exact h6
theorem place_at (k : Tok) (q : Nat) : (k.at q).place.toNat = q := by simp [Tok.at]
/-- at a token's place: the token's bytes, and what comes behind them -/
theorem outL_tok {b : Nat → List UInt8} {S : List UInt8} {q n : Nat} {l : List Tok} {i : Nat} (hn : q + n ≤ S.length) (h : Lies S (q + n) l) : outL b S q l i = (S.drop q).take n ++ outL b S (q + n) l i := by
  have hd : S.drop q = (S.drop q).take n ++ S.drop (q + n) := by rw [← List.drop_drop, List.take_append_drop]
  cases l with
  | nil =>
    simp only [outL]
    rw [← List.append_assoc, ← hd]
  | cons k l =>
    obtain ⟨q', n', k0, rfl, h1, h2, h3, h4, h5, h6⟩ := h.head
    simp only [outL, place_at]
    have : (S.drop q).take (q' - q) = (S.drop q).take n ++ (S.drop (q + n)).take (q' - (q + n)) := by
      conv => lhs; rw [hd]
      have hl : ((S.drop q).take n).length = n := by rw [List.length_take, List.length_drop]; omega
      rw [List.take_append, List.take_of_length_le (by rw [hl]; omega), hl]
      congr 2; omega
    rw [this]
    simp only [List.append_assoc]
theorem drop_head {S : List UInt8} {q : Nat} (h : q < S.length) : ∃ c t, S.drop q = c :: t := by
  cases hd : S.drop q with
  | nil => have := congrArg List.length hd; rw [List.length_drop] at this; simp at this; omega
  | cons c t => exact ⟨c, t, rfl⟩
/-- what comes first is a blank, or what comes first in the text -/
theorem outL_head {b : Nat → List UInt8} (hb : ∀ i, (b i).all blank = true) {S : List UInt8} {a : Nat} {l : List Tok} {i : Nat} (h : Lies S a l) : ∀ c, (outL b S a l i).head? = some c → blank c = true ∨ (S.drop a).head? = some c := by
  intro c hc
  have hbl : ∀ j v, (b j ++ v).head? = some c → b j ≠ [] → blank c = true := by
    intro j v hj hne
    cases hbj : b j with
    | nil => exact absurd hbj hne
    | cons x y =>
      rw [hbj] at hj
      have := hb j
      rw [hbj, List.all_cons, Bool.and_eq_true] at this
      simp at hj; rw [← hj]; exact this.1
  cases l with
  | nil =>
    simp only [outL] at hc
    cases hd : S.drop a with
    | nil =>
      rw [hd, List.nil_append] at hc
      left
      refine hbl i [] (by simpa using hc) ?_
      intro e; rw [e] at hc; cases hc
    | cons x y => rw [hd] at hc; right; simpa using hc
  | cons k l =>
    obtain ⟨q, n, k0, rfl, h1, h2, h3, h4, h5, h6⟩ := h.head
    simp only [outL, place_at] at hc
    obtain ⟨x, y, hd⟩ := drop_head (S := S) (q := a) (by omega)
    by_cases hq : q = a
    · subst hq
      rw [Nat.sub_self, List.take_zero, List.nil_append] at hc
      cases hbi : b i with
      | cons u v => left; exact hbl i _ hc (by rw [hbi]; simp)
      | nil =>
        rw [hbi, List.nil_append, outL_tok h3 h6] at hc
        right
        rw [hd] at hc ⊢
        obtain ⟨t', ht'⟩ := take_cons (c := x) (t := y) (n := n) h2
        rw [ht'] at hc
        simpa using hc
    · right
      rw [hd] at hc ⊢
      obtain ⟨t', ht'⟩ := take_cons (c := x) (t := y) (n := q - a) (by omega)
      rw [ht'] at hc
      simpa using hc
theorem lexT_front' {c : UInt8} {t : List UInt8} {k : Tok} {n : Nat} (h : lexT (c :: t) = (some k, n)) : blank c = false := by
  rw [Bool.eq_false_iff]
  intro hb
  have hz : ∀ P : List UInt8 → Bool, P [c] = false → FarIs P (c :: t) 0 := fun P hP => ⟨Nat.zero_le _, fun k hk => absurd hk (by omega), fun _ => by simpa using hP⟩
  have h34 : c ≠ 34 := by rcases blank_cases hb with rfl | rfl <;> decide
  rw [way_lexT (.mark 0 (hz _ (right_blank [] c hb)) (hz _ (digP_blank [] c hb)) (by simp; exact h34) (hz _ (begM_blank [] c hb)))] at h
  unfold markT at h
  rw [List.take_zero, if_neg (by decide)] at h
  simp at h
theorem outL_scan {b : Nat → List UInt8} (hb : ∀ i, (b i).all blank = true) {S : List UInt8} : ∀ (l : List Tok) (a i p : Nat), Lies S a l → ∃ m, scanT p (outL b S a l i) = (some m, 0) ∧ AlikeL l m
  | [], a, i, p, h => by
    refine ⟨[], ?_, rfl⟩
    simp only [outL]
    have h1 := scanT_none_left _ _ _ (Nat.le_refl _) h.out
    rw [scanT_blanks h1, ← List.append_nil (b i), scanT_blanks (hb i), scanT_nil]
  | k :: l, a, i, p, h => by
    obtain ⟨q, n, k0, rfl, h1, h2, h3, h4, h5, h6⟩ := h.head
    simp only [outL, place_at]
    rw [List.append_assoc, scanT_blanks h4, scanT_blanks (hb i), outL_tok h3 h6]
    generalize p + ((S.drop a).take (q - a)).length + (b i).length = p'
    obtain ⟨m, hm, ha⟩ := outL_scan hb l (q + n) (i + 1) (p' + n) h6
    have hx : Ext (S.drop q) ((S.drop q).take n ++ outL b S (q + n) l (i + 1)) n :=
      Ext.app _ _ _ _ rfl (by rw [List.length_drop]; omega) (fun c hc => by rw [List.drop_drop]; exact outL_head hb h6 c hc)
    have hk := lexT_ext h5 hx
    obtain ⟨x, y, hd⟩ := drop_head (S := S) (q := q) (by omega)
    obtain ⟨t', ht'⟩ := take_cons (c := x) (t := y) (n := n) h2
    have hl : ((S.drop q).take n).length = n := by rw [List.length_take, List.length_drop]; omega
    have hdrop : ((S.drop q).take n ++ outL b S (q + n) l (i + 1)).drop n = outL b S (q + n) l (i + 1) := by
      conv => lhs; rw [← hl]
      rw [hl, List.drop_append_of_le_length (by rw [hl]; exact Nat.le_refl _), List.drop_eq_nil_of_le (by rw [hl]; exact Nat.le_refl _), List.nil_append]
    rw [hd, ht', List.cons_append] at hk hdrop
    rw [hd, ht', List.cons_append, scanT_tok (lexT_front' hk) hk, hdrop, hm]
    refine ⟨_, rfl, ?_⟩
    unfold AlikeL at ha ⊢
    rw [List.map_cons, List.map_cons, ha]; rfl
end Go.Proofs.YtinhlemebnlijaaDoor

/-
  PLAIN: where a text is refused it was right up to there, and something makes it right. No program stands in it.
-/
import Derived.Test.YtinhlemebnlijaaDoorY2
import Derived.Test.YtinhlemebnlijaaDoorY8
import Derived.KernelRfl
namespace Go.Proofs.YtinhlemebnlijaaDoor
open Go
set_option linter.unusedVariables false
def endsQ : List (List UInt8) := [[34], [110, 34], [102, 102, 34], [102, 34]]
theorem stop_takeQ {r : List UInt8} {m : Nat} (h0 : r ≠ []) (h34 : r.head? ≠ some 34) (h : stepL r = (m, none)) :
    scanL (r.take m) = (none, m) ∧ m ≤ r.length ∧ ∃ x ∈ endsQ, ∃ l, scanL (r.take m ++ x) = (some l, m + x.length) := by
  cases r with
  | nil => exact absurd rfl h0
  | cons x t =>
    simp only [stepL] at h
    split at h
    · rename_i hx
      obtain rfl : x = 92 := UInt8.toNat_inj.1 hx
      simp only [Prod.mk.injEq] at h
      obtain ⟨rfl, h⟩ := h
      have one : ∀ t : List UInt8, (escL t).1 = 0 → scanL (((92 : UInt8) :: t).take (1 + (escL t).1)) = (none, 1 + (escL t).1) ∧ ∃ x ∈ endsQ, ∃ l, scanL (((92 : UInt8) :: t).take (1 + (escL t).1) ++ x) = (some l, 1 + (escL t).1 + x.length) := by
        intro t e
        rw [e]
        refine ⟨?_, [110, 34], by decide, [10], ?_⟩
        · exact scanL_stop (r := [92]) (by simp) (by simp) (by decide)
        · have := scanL_form 10 [34]
          rw [scanL_quote, show form 10 = [92, 110] by decide] at this
          exact this
      cases t with
      | nil => obtain ⟨a, b⟩ := one [] rfl; exact ⟨a, by simp [escL], b⟩
      | cons y u =>
        by_cases hy : y.toNat = 34 ∨ y.toNat = 92
        · simp only [escL] at h; rw [if_pos hy] at h; simp at h
        · by_cases hy2 : y.toNat = 110
          · simp only [escL] at h; rw [if_neg hy, if_pos hy2] at h; simp at h
          · by_cases hy3 : y.toNat = 120
            · obtain rfl : y = 120 := UInt8.toNat_inj.1 hy3
              have eE : escL (120 :: u) = (1 + (numL u).1, (numL u).2) := by simp [escL]
              rw [eE] at h ⊢
              simp only at h ⊢
              have zero : (numL u).1 = 0 → scanL (((92 : UInt8) :: 120 :: u).take (1 + (1 + (numL u).1))) = (none, 1 + (1 + (numL u).1)) ∧ ∃ x ∈ endsQ, ∃ l, scanL (((92 : UInt8) :: 120 :: u).take (1 + (1 + (numL u).1)) ++ x) = (some l, 1 + (1 + (numL u).1) + x.length) := by
                intro e
                rw [e]
                refine ⟨?_, [102, 102, 34], by decide, [255], ?_⟩
                · exact scanL_stop (r := [92, 120]) (by simp) (by simp) (by decide)
                · have := scanL_form 255 [34]
                  rw [scanL_quote, show form 255 = [92, 120, 102, 102] by decide] at this
                  exact this
              cases g1 : digL u with
              | none =>
                have e0 : (numL u).1 = 0 := by unfold numL; rw [g1]
                obtain ⟨a, b⟩ := zero e0
                exact ⟨a, by rw [e0]; simp, b⟩
              | some a =>
                obtain ⟨ha, v, rfl⟩ := digL_some g1
                cases hn : numB (16 * (a : Int) + 15) with
                | false =>
                  have e0 : (numL (hexOf a :: v)).1 = 0 := by unfold numL; rw [g1]; simp only; rw [if_neg (by rw [hn]; simp)]
                  obtain ⟨p, q⟩ := zero e0
                  exact ⟨p, by rw [e0]; simp, q⟩
                | true =>
                  have e1 : (numL (hexOf a :: v)).1 = 1 := by
                    unfold numL at h ⊢
                    rw [g1] at h ⊢
                    simp only [List.tail_cons] at h ⊢
                    rw [if_pos hn] at h ⊢
                    cases g2 : digL v with
                    | none => rfl
                    | some l =>
                      rw [g2] at h
                      simp only at h ⊢
                      split at h
                      · simp at h
                      · rename_i hm; rw [if_neg hm]
                  rw [e1]
                  have ef := num_form a ha hn
                  refine ⟨?_, by simp, [102, 34], by decide, [UInt8.ofNat (16 * a + 15)], ?_⟩
                  · have hl : numL [hexOf a] = (1, none) := by
                      unfold numL
                      rw [digL_of a ha]
                      simp only [List.tail_cons]
                      rw [if_pos hn]
                      rfl
                    exact scanL_stop (r := [92, 120, hexOf a]) (by simp) (by simp) (by simp [stepL, escL, hl])
                  · have := scanL_form (UInt8.ofNat (16 * a + 15)) [34]
                    rw [scanL_quote, ef, hex15] at this
                    exact this
            · have e0 : (escL (y :: u)).1 = 0 := by simp only [escL]; rw [if_neg hy, if_neg hy2, if_neg hy3]
              obtain ⟨a, b⟩ := one (y :: u) e0
              exact ⟨a, by rw [e0]; simp, b⟩
    · split at h
      · simp only [Prod.mk.injEq] at h
        obtain ⟨rfl, _⟩ := h
        exact ⟨by simpa using scanL_nil, by simp, [34], by decide, [], by simpa using scanL_quote []⟩
      · simp at h
/-- where it stops it was right up to there, and something makes it right -/
theorem scanL_stopsQ : ∀ (k : Nat) (r : List UInt8) (n : Nat), r.length ≤ k → scanL r = (none, n) →
    scanL (r.take n) = (none, n) ∧ n ≤ r.length ∧ ∃ x ∈ endsQ, ∃ l, scanL (r.take n ++ x) = (some l, n + x.length) := by
  intro k
  induction k with
  | zero =>
    intro r n hk h
    obtain rfl : r = [] := List.length_eq_zero_iff.1 (by omega)
    rw [scanL_nil] at h
    simp only [Prod.mk.injEq, true_and] at h
    subst h
    exact ⟨by simpa using scanL_nil, by simp, [34], by decide, [], by simpa using scanL_quote []⟩
  | succ k ih =>
    intro r n hk h
    rcases scan_ways r with rfl | ⟨v, rfl⟩ | ⟨c, v, rfl⟩ | ⟨h0, h34, m, hm⟩
    · rw [scanL_nil] at h
      simp only [Prod.mk.injEq, true_and] at h
      subst h
      exact ⟨by simpa using scanL_nil, by simp, [34], by decide, [], by simpa using scanL_quote []⟩
    · rw [scanL_quote] at h; simp at h
    · rw [scanL_form] at h
      simp only [Prod.mk.injEq, Option.map_eq_none_iff] at h
      obtain ⟨hl', rfl⟩ := h
      have hf := form_length c
      obtain ⟨a, b, x, hx, l, e⟩ := ih v (scanL v).2 (by rw [List.length_append] at hk; omega) (by rw [← hl'])
      rw [List.take_length_add_append]
      refine ⟨by rw [scanL_form, a]; rfl, by rw [List.length_append]; omega, x, hx, c :: l, ?_⟩
      rw [List.append_assoc, scanL_form, e]
      simp; omega
    · rw [scanL_stop h0 h34 hm] at h
      simp only [Prod.mk.injEq, true_and] at h
      subst h
      exact stop_takeQ h0 h34 hm
def ends6 : List (List UInt8) := [[], [34], [110, 34], [102, 102, 34], [102, 34], [61]]
theorem endsQ_6 : ∀ x ∈ endsQ, x ∈ ends6 := by decide
theorem begun_marks : ∀ m ∈ marksL, ∀ k, k ≤ 2 → m.take k = [] ∨ markB (m.take k) = true ∨ m.take k = [33] ∨ m.take k = [61] := by decide
theorem begun_mark {l : List UInt8} (h : begM l = true) (hm : markB l = false) (hn : l ≠ []) : l = [33] ∨ l = [61] := by
  unfold begM at h
  rw [List.any_eq_true] at h
  obtain ⟨m, hmm, hp⟩ := h
  have hp := List.isPrefixOf_iff_prefix.1 hp
  have e : m.take l.length = l := (List.prefix_iff_eq_take.1 hp).symm
  have hl : l.length ≤ 2 := Nat.le_trans hp.length_le (marks_two m hmm).1
  have := begun_marks m hmm l.length hl
  rw [e] at this
  rcases this with h | h | h | h
  · exact absurd h hn
  · rw [hm] at h; cases h
  · exact .inl h
  · exact .inr h
theorem lex_33 : lexT [33, 61] = (some ⟨5, ba [33, 61], 0, 0⟩, 2) := by kernel_rfl
theorem lex_61 : lexT [61, 61] = (some ⟨5, ba [61, 61], 0, 0⟩, 2) := by kernel_rfl
theorem lexT_stops {r : List UInt8} {n : Nat} (h : lexT r = (none, n)) : n ≤ r.length ∧ (0 < n →
    ((∃ k, lexT (r.take n) = (some k, n)) ∨ lexT (r.take n) = (none, n)) ∧ ∃ x ∈ ends6, ∃ k, lexT (r.take n ++ x) = (some k, (r.take n ++ x).length)) := by
  have hw := lexT_way r
  generalize hq : lexT r = y at hw
  rw [hq] at h
  clear hq
  cases hw with
  | name m h1 h2 =>
    unfold nameT at h
    split at h
    · simp at h
    · simp only [Prod.mk.injEq, true_and] at h; subst h
      have hl : (r.take m).length = m := by rw [List.length_take]; have := h1.le; omega
      have he : lexT (r.take m) = (some ⟨kindOf (r.take m), ba (r.take m), 0, 0⟩, m) := by
        rw [way_lexT (.name m (far_ext right_blank h1 (Ext.cut r m m h1.le (Nat.le_refl _))) h2)]
        unfold nameT
        rw [List.drop_eq_nil_of_le (by omega), if_pos (show apart [] = true from rfl), List.take_take, Nat.min_self]
      refine ⟨h1.le, fun _ => ⟨.inl ⟨_, he⟩, [], by decide, ?_⟩⟩
      rw [List.append_nil, hl]; exact ⟨_, he⟩
  | int m h1 h2 h3 =>
    unfold intTk at h
    split at h
    · simp at h
    · simp only [Prod.mk.injEq, true_and] at h; subst h
      have hl : (r.take m).length = m := by rw [List.length_take]; have := h2.le; omega
      have hx := Ext.cut r m m h2.le (Nat.le_refl _)
      have he : lexT (r.take m) = (some ⟨1, ba [], (intT (r.take m)).getD 0, 0⟩, m) := by
        rw [way_lexT (.int m (far_zero h1 (hx.head h3)) (far_ext digP_blank h2 hx) h3)]
        unfold intTk
        rw [List.drop_eq_nil_of_le (by omega), if_pos (show apart [] = true from rfl), List.take_take, Nat.min_self]
      refine ⟨h2.le, fun _ => ⟨.inl ⟨_, he⟩, [], by decide, ?_⟩⟩
      rw [List.append_nil, hl]; exact ⟨_, he⟩
  | text t h1 h2 h3 =>
    unfold textT at h
    split at h
    · simp at h
    · rename_i m hs
      simp only [Prod.mk.injEq, true_and] at h; subst h
      obtain ⟨a, b, x, hx, l, e⟩ := scanL_stopsQ t.length t m (Nat.le_refl _) hs
      subst h3
      have hlt : ∀ u, lexT (34 :: u) = textT u := fun u => way_lexT (r := 34 :: u) (.text u (far_zero h1 rfl) (far_zero h2 rfl) rfl)
      refine ⟨by simp; omega, fun _ => ⟨.inr ?_, x, endsQ_6 x hx, ⟨2, ba l, 0, 0⟩, ?_⟩⟩
      · rw [List.take_succ_cons, hlt]
        unfold textT
        rw [a]
      · rw [List.take_succ_cons, List.cons_append, hlt]
        unfold textT
        rw [e]
        simp; omega
  | mark m h1 h2 h3 h4 =>
    unfold markT at h
    split at h
    · simp at h
    · rename_i hm
      simp only [Prod.mk.injEq, true_and] at h; subst h
      refine ⟨h4.le, fun h0 => ?_⟩
      have hx := Ext.cut r m m h4.le (Nat.le_refl _)
      have hl : (r.take m).length = m := by rw [List.length_take]; have := h4.le; omega
      have hh := hx.head h0
      have he : lexT (r.take m) = (none, m) := by
        rw [way_lexT (.mark m (far_zero h1 hh) (far_zero h2 hh) (by rw [hh]; exact h3) (far_ext begM_blank h4 hx))]
        unfold markT
        rw [List.take_take, Nat.min_self, if_neg hm]
      have hb : begM (r.take m) = true := by have := h4.yes (m - 1) (by omega); rwa [show m - 1 + 1 = m by omega] at this
      refine ⟨.inr he, [61], by decide, ?_⟩
      rcases begun_mark hb (by simpa using hm) (by intro e; rw [e] at hl; simp at hl; omega) with e | e
      · rw [e]; exact ⟨_, lex_33⟩
      · rw [e]; exact ⟨_, lex_61⟩
theorem scanT_one {p n : Nat} {r : List UInt8} {k : Tok} (hb : ∀ c t, r = c :: t → blank c = false) (h : lexT r = (some k, n)) (hn : n = r.length) : scanT p r = (some [k.at p], 0) := by
  have := (lexT_len h).1
  cases r with
  | nil => simp at hn; omega
  | cons c t => rw [scanT_tok (hb c t rfl) h, List.drop_eq_nil_of_le (by omega), scanT_nil]; rfl
theorem ahd_some {k : Tok} {x : Option (List Tok) × Nat} (h : ∃ l, x = (some l, 0)) : ∃ l, ahd k x = (some l, 0) := by
  obtain ⟨l, rfl⟩ := h; exact ⟨k :: l, rfl⟩
theorem scanT_stops : ∀ (d p : Nat) (r : List UInt8) (e : Nat), r.length ≤ d → scanT p r = (none, e) → ∃ q, e = p + q ∧ q ≤ r.length ∧
    ((∃ l, scanT p (r.take q) = (some l, 0)) ∨ scanT p (r.take q) = (none, e)) ∧ ∃ x ∈ ends6, ∃ l, scanT p (r.take q ++ x) = (some l, 0) := by
  intro d
  induction d with
  | zero =>
    intro p r e hd h
    obtain rfl : r = [] := List.length_eq_zero_iff.1 (by omega)
    rw [scanT_nil] at h; simp at h
  | succ d ih =>
    intro p r e hd h
    rcases scanT_ways r with rfl | ⟨c, t, rfl, hb⟩ | ⟨c, t, k, n, rfl, hb, hk⟩ | ⟨c, t, n, rfl, hb, hk⟩
    · rw [scanT_nil] at h; simp at h
    · rw [scanT_blank hb] at h
      obtain ⟨q, he, hq, hc, x, hx, l, hl⟩ := ih (p + 1) t e (by simp at hd; omega) h
      refine ⟨q + 1, by omega, by simp; omega, ?_, x, hx, l, ?_⟩
      · rw [List.take_succ_cons, scanT_blank hb]; exact hc
      · rw [List.take_succ_cons, List.cons_append, scanT_blank hb]; exact hl
    · have hlen := lexT_len hk
      rw [scanT_tok hb hk] at h
      have h' : scanT (p + n) ((c :: t).drop n) = (none, e) := by
        unfold ahd at h
        split at h
        · simp at h
        · rename_i e' hs; rw [hs]; exact h
      obtain ⟨q, he, hq, hc, x, hx, l, hl⟩ := ih (p + n) ((c :: t).drop n) e (by rw [List.length_drop]; omega) h'
      rw [List.length_drop] at hq
      have htk : ∀ v, ((c :: t).take (n + q) ++ v).drop n = ((c :: t).drop n).take q ++ v := by
        intro v
        rw [List.drop_append_of_le_length (by rw [List.length_take]; omega), List.drop_take, show n + q - n = q by omega]
      have hne : ∀ v, ∃ t', (c :: t).take (n + q) ++ v = c :: t' := by
        intro v
        obtain ⟨u, hu⟩ := take_cons (c := c) (t := t) (n := n + q) (by omega)
        rw [hu]; exact ⟨u ++ v, rfl⟩
      have hgo : ∀ v, Ext (c :: t) ((c :: t).take (n + q) ++ v) n → scanT p ((c :: t).take (n + q) ++ v) = ahd (k.at p) (scanT (p + n) (((c :: t).drop n).take q ++ v)) := by
        intro v hv
        obtain ⟨t', ht'⟩ := hne v
        have := lexT_ext hk hv
        rw [ht'] at this
        have h2 := scanT_tok (p := p) hb this
        rw [← ht', htk] at h2
        exact h2
      have hcut : Ext (c :: t) ((c :: t).take (n + q) ++ []) n := by rw [List.append_nil]; exact Ext.cut _ _ _ hlen.2 (by omega)
      refine ⟨n + q, by omega, by omega, ?_, ?_⟩
      · have := hgo [] hcut
        rw [List.append_nil, List.append_nil] at this
        rw [this]
        rcases hc with ⟨l', hl'⟩ | hn'
        · exact .inl (ahd_some ⟨l', hl'⟩)
        · right; rw [hn']; rfl
      · by_cases hq0 : q = 0
        · subst hq0
          refine ⟨[], by decide, ?_⟩
          rw [hgo [] hcut]
          refine ahd_some ⟨[], ?_⟩
          rw [List.take_zero]; exact scanT_nil _
        · refine ⟨x, hx, ?_⟩
          have hv : Ext (c :: t) ((c :: t).take (n + q) ++ x) n := by
            refine ⟨hlen.2, by rw [List.length_append, List.length_take]; omega, ?_, ?_⟩
            · rw [List.take_append_of_le_length (by rw [List.length_take]; omega), List.take_take, Nat.min_eq_left (by omega)]
            · intro b hb'
              right
              rw [htk] at hb'
              cases hdr : (c :: t).drop n with
              | nil => have := congrArg List.length hdr; rw [List.length_drop] at this; simp at this; simp at hq; omega
              | cons a u =>
                rw [hdr] at hb'
                obtain ⟨u', hu'⟩ := take_cons (c := a) (t := u) (n := q) (by omega)
                rw [hu'] at hb'
                simpa using hb'
          rw [hgo x hv]
          exact ahd_some ⟨l, hl⟩
    · rw [scanT_bad hb hk] at h
      simp only [Prod.mk.injEq, true_and] at h
      have hs := lexT_stops hk
      refine ⟨n, by omega, hs.1, ?_⟩
      by_cases h0 : n = 0
      · subst h0
        refine ⟨.inl ⟨[], by rw [List.take_zero]; exact scanT_nil _⟩, [], by decide, [], by rw [List.take_zero]; exact scanT_nil _⟩
      · obtain ⟨hc, x, hx, k, hkx⟩ := hs.2 (by omega)
        obtain ⟨u, hu⟩ := take_cons (c := c) (t := t) (n := n) (by omega)
        have hl : ((c :: t).take n).length = n := by rw [List.length_take]; have := hs.1; omega
        refine ⟨?_, x, hx, ?_⟩
        · rcases hc with ⟨k', hk'⟩ | hn'
          · left
            refine ⟨_, scanT_one ?_ hk' hl.symm⟩
            intro a b e; rw [hu] at e; rw [← (List.cons.inj e).1]; exact hb
          · right
            rw [hu] at hn' ⊢
            rw [scanT_bad hb hn', h]
        · refine ⟨_, scanT_one ?_ hkx rfl⟩
          intro a b e; rw [hu, List.cons_append] at e; rw [← (List.cons.inj e).1]; exact hb
/-- of a text that is refused -/
theorem scanR_stops {S : List UInt8} {l : List Tok} {n : Nat} (h : scanR S = (l, n, 70)) : S.length ≤ 4096 ∧ n ≤ S.length ∧ ((∃ m, scanR (S.take n) = (m, 0, 0)) ∨ scanR (S.take n) = ([], n, 70)) ∧
    (n ≤ 4093 → ∃ x ∈ ends6, ∃ m, scanR (S.take n ++ x) = (m, 0, 0)) := by
  unfold scanR at h
  split at h
  · simp at h
  · rename_i h4
    split at h
    · simp at h
    · rename_i e hs
      simp only [Prod.mk.injEq, and_true] at h
      obtain ⟨_, rfl⟩ := h
      obtain ⟨q, he, hq, hc, x, hx, m, hm⟩ := scanT_stops S.length 0 S e (Nat.le_refl _) hs
      obtain rfl : e = q := by omega
      have hlt : (S.take e).length = e := by rw [List.length_take]; omega
      refine ⟨by omega, hq, ?_, fun h93 => ⟨x, hx, m, ?_⟩⟩
      · rcases hc with ⟨m', hm'⟩ | hn'
        · left; refine ⟨m', ?_⟩; unfold scanR; rw [if_neg (by omega), hm']
        · right; unfold scanR; rw [if_neg (by omega), hn']
      · have hx3 : x.length ≤ 3 := by
          have : ∀ x ∈ ends6, x.length ≤ 3 := by decide
          exact this x hx
        unfold scanR
        rw [if_neg (by rw [List.length_append, hlt]; omega), hm]
theorem scanR_cases (S : List UInt8) : (4096 < S.length ∧ scanR S = ([], 0, 3)) ∨ (S.length ≤ 4096 ∧ ∃ l, scanT 0 S = (some l, 0) ∧ scanR S = (l, 0, 0)) ∨ (S.length ≤ 4096 ∧ ∃ n, scanT 0 S = (none, n) ∧ scanR S = ([], n, 70)) := by
  by_cases h : 4096 < S.length
  · left; refine ⟨h, ?_⟩; unfold scanR; rw [if_pos h]
  · right
    rcases hs : scanT 0 S with ⟨o, n⟩
    cases o with
    | some l =>
      left
      obtain rfl := scanT_zero _ _ _ _ _ (Nat.le_refl _) hs
      refine ⟨by omega, l, rfl, ?_⟩; unfold scanR; rw [if_neg h, hs]
    | none => right; refine ⟨by omega, n, rfl, ?_⟩; unfold scanR; rw [if_neg h, hs]
end Go.Proofs.YtinhlemebnlijaaDoor

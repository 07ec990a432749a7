/-
  PLAIN: how a text in quotes is scanned, in lists: there and back, and where it stops. No program stands in it.
  PLAIN: tokens: how far a shape goes, one token at a time, a text's tokens. No program stands in it.
-/
import Derived.Test.YtckfcpiedainfaaGreatDoorZE2
namespace Go.Proofs.YtckfcpiedainfaaGreatDoor
open Go
set_option linter.unusedVariables false
theorem stepL_some {r : List UInt8} {m b : Nat} (h : stepL r = (m, some b)) : 1 ≤ m ∧ r ≠ [] := by
  cases r with
  | nil => simp [stepL] at h
  | cons x t =>
    simp only [stepL] at h
    split at h
    · simp only [Prod.mk.injEq] at h; exact ⟨by omega, by simp⟩
    · split at h
      · simp at h
      · simp only [Prod.mk.injEq] at h; exact ⟨by omega, by simp⟩
def scanL (r : List UInt8) : Option (List UInt8) × Nat :=
  if r = [] then (none, 0)
  else if r.head? = some 34 then (some [], 1)
  else match hs : stepL r with
    | (m, some b) => ((scanL (r.drop m)).1.map (UInt8.ofNat b :: ·), m + (scanL (r.drop m)).2)
    | (m, none) => (none, m)
termination_by r.length
decreasing_by all_goals (have h := stepL_some hs; rw [List.length_drop]; have : 0 < r.length := List.length_pos_iff.2 h.2; omega)
theorem scanL_nil : scanL [] = (none, 0) := by rw [scanL, if_pos rfl]
theorem scanL_quote (v : List UInt8) : scanL (34 :: v) = (some [], 1) := by rw [scanL, if_neg (by simp), if_pos (by simp)]
theorem scanL_some {r : List UInt8} {m b : Nat} (h34 : r.head? ≠ some 34) (h : stepL r = (m, some b)) : scanL r = ((scanL (r.drop m)).1.map (UInt8.ofNat b :: ·), m + (scanL (r.drop m)).2) := by
  rw [scanL, if_neg (stepL_some h).2, if_neg h34]
  split
  · rename_i m' b' hq
    rw [h] at hq
    simp only [Prod.mk.injEq, Option.some.injEq] at hq
    obtain ⟨rfl, rfl⟩ := hq
    rfl
  · rename_i m' hq
    rw [h] at hq; simp at hq
theorem scanL_stop {r : List UInt8} {m : Nat} (hne : r ≠ []) (h34 : r.head? ≠ some 34) (h : stepL r = (m, none)) : scanL r = (none, m) := by
  rw [scanL, if_neg hne, if_neg h34]
  split
  · rename_i m' b' hq
    rw [h] at hq; simp at hq
  · rename_i m' hq
    rw [h] at hq
    simp only [Prod.mk.injEq] at hq
    rw [hq.1]
theorem form_head (c : UInt8) (v : List UInt8) : (form c ++ v).head? ≠ some 34 := by
  rcases form_cases c with ⟨h, e⟩ | ⟨h, e⟩ | ⟨h, e⟩ | ⟨h1, h2, h3, h4, e⟩
  · rw [e]; simp
  · rw [e]; simp
  · rw [e]; simp
  · rw [e]; simp; intro hc; exact h1 (by rw [hc]; rfl)
theorem scanL_form (c : UInt8) (v : List UInt8) : scanL (form c ++ v) = ((scanL v).1.map (c :: ·), (form c).length + (scanL v).2) := by
  have h := scanL_some (form_head c v) (step_of_form c v)
  rw [h, List.drop_left]
  have e : UInt8.ofNat c.toNat = c := by simp
  rw [e]
/-- each text begins in one of four ways -/
theorem scan_ways (r : List UInt8) : r = [] ∨ (∃ v, r = 34 :: v) ∨ (∃ c v, r = form c ++ v) ∨ (r ≠ [] ∧ r.head? ≠ some 34 ∧ ∃ m, stepL r = (m, none)) := by
  by_cases h0 : r = []
  · exact .inl h0
  · by_cases h34 : r.head? = some 34
    · right; left
      cases r with
      | nil => exact absurd rfl h0
      | cons x t => simp at h34; exact ⟨t, by rw [h34]⟩
    · right; right
      rcases hs : stepL r with ⟨m, o⟩
      cases o with
      | none => exact .inr ⟨h0, h34, m, rfl⟩
      | some b =>
        left
        obtain ⟨t, ht⟩ := form_of_step (fun x t e => by
          rw [e] at h34; simp at h34
          intro hx; exact h34 (UInt8.toNat_inj.1 hx)) hs
        exact ⟨_, t, ht⟩
/-- what is read has just those quotes -/
theorem scanL_is : ∀ (k : Nat) (r l : List UInt8) (n : Nat), r.length ≤ k → scanL r = (some l, n) → r.take n = l.flatMap form ++ [34] ∧ n ≤ r.length := by
  intro k
  induction k with
  | zero =>
    intro r l n hk h
    obtain rfl : r = [] := List.length_eq_zero_iff.1 (by omega)
    rw [scanL_nil] at h; simp at h
  | succ k ih =>
    intro r l n hk h
    rcases scan_ways r with rfl | ⟨v, rfl⟩ | ⟨c, v, rfl⟩ | ⟨h0, h34, m, hm⟩
    · rw [scanL_nil] at h; simp at h
    · rw [scanL_quote] at h
      simp only [Prod.mk.injEq, Option.some.injEq] at h
      obtain ⟨rfl, rfl⟩ := h
      exact ⟨by simp, by simp⟩
    · rw [scanL_form] at h
      simp only [Prod.mk.injEq, Option.map_eq_some_iff] at h
      obtain ⟨⟨l', hl', rfl⟩, rfl⟩ := h
      have hf := form_length c
      have := ih v l' (scanL v).2 (by rw [List.length_append] at hk; omega) (by rw [← hl'])
      refine ⟨?_, by rw [List.length_append]; omega⟩
      rw [List.take_length_add_append, this.1]; simp
    · rw [scanL_stop h0 h34 hm] at h; simp at h
theorem scan_list (s : ByteArray) : ∀ (k i : Nat), s.size - i ≤ k → i ≤ s.size → scan s i = ((scanL (s.data.toList.drop i)).1, i + (scanL (s.data.toList.drop i)).2) := by
  intro k
  induction k with
  | zero =>
    intro i hk hi
    have hlt : ¬ i < s.size := by omega
    rw [scan_end hlt, drop_none s i hlt, scanL_nil]; rfl
  | succ k ih =>
    intro i hk hi
    by_cases hlt : i < s.size
    · have hd := drop_get s i hlt
      by_cases h34 : s[i].toNat = 34
      · have e : s[i] = 34 := UInt8.toNat_inj.1 h34
        rw [scan_quote hlt h34, hd, e, scanL_quote]
      · have hh : (s.data.toList.drop i).head? ≠ some 34 := by
          rw [hd]; simp; intro e; exact h34 (by rw [e]; rfl)
        rcases hst : stepAt s i hlt with ⟨n, o⟩
        have hL := stepAt_eq s i hlt
        rw [hst] at hL
        cases o with
        | none =>
          rw [scan_stop hlt h34 hst, scanL_stop (by rw [hd]; simp) hh hL.symm]
        | some b =>
          have hle := stepAt_le hst
          rw [scan_step hlt h34 hst, scanL_some hh hL.symm, ih (i + n) (by have := (hle.2 b rfl).2; omega) hle.1, List.drop_drop]
          simp only [Prod.mk.injEq]
          exact ⟨trivial, by omega⟩
    · rw [scan_end hlt, drop_none s i hlt, scanL_nil]; rfl
theorem scan_at (s : ByteArray) (i : Nat) (hi : i ≤ s.size) : scan s i = ((scanL (s.data.toList.drop i)).1, i + (scanL (s.data.toList.drop i)).2) := scan_list s _ i (Nat.le_refl _) hi
theorem unq_quote {s : ByteArray} {t : Nat} {r : List UInt8} (h : s.data.toList.drop t = 34 :: r) : unq s t = (match scanL r with | (some l, n) => (l, ((t + 1 + n : Nat) : Int), 0) | (none, n) => ([], ((t + 1 + n : Nat) : Int), 10)) := by
  have ht : t < s.size := by
    by_cases hlt : t < s.size
    · exact hlt
    · rw [drop_none s t hlt] at h; cases h
  have hd := drop_get s t ht
  rw [h] at hd
  obtain ⟨e1, e2⟩ := List.cons.inj hd
  have hq : s[t].toNat = 34 := by rw [← e1]; rfl
  have hsc := scan_at s (t + 1) (by omega)
  rw [← e2] at hsc
  unfold unq
  rw [if_neg (by omega)]
  simp only [Int.toNat_natCast]
  rw [dif_pos ht, if_pos hq, hsc]
  rcases scanL r with ⟨o, n⟩
  cases o <;> rfl
end Go.Proofs.YtckfcpiedainfaaGreatDoor
namespace Go.Proofs.YtckfcpiedainfaaGreatDoor
open Go
set_option linter.unusedVariables false
def farN (P : List UInt8 → Bool) (r : List UInt8) (n : Nat) : Nat :=
  if n < r.length ∧ P (r.take (n + 1)) = true then farN P r (n + 1) else n
termination_by r.length - n
decreasing_by omega
def far (P : List UInt8 → Bool) (r : List UInt8) : Nat := farN P r 0
structure FarIs (P : List UInt8 → Bool) (r : List UInt8) (n : Nat) : Prop where
  le : n ≤ r.length
  yes : ∀ k, k < n → P (r.take (k + 1)) = true
  no : n < r.length → P (r.take (n + 1)) = false
theorem farN_go {P : List UInt8 → Bool} {r : List UInt8} {n : Nat} (h : n < r.length) (hp : P (r.take (n + 1)) = true) : farN P r n = farN P r (n + 1) := by
  rw [farN, if_pos ⟨h, hp⟩]
theorem farN_end {P : List UInt8 → Bool} {r : List UInt8} {n : Nat} (h : ¬ n < r.length) : farN P r n = n := by
  rw [farN, if_neg (fun hc => h hc.1)]
theorem farN_no {P : List UInt8 → Bool} {r : List UInt8} {n : Nat} (h : P (r.take (n + 1)) = false) : farN P r n = n := by
  rw [farN, if_neg (fun hc => by rw [h] at hc; exact absurd hc.2 (by simp))]
theorem farN_is (P : List UInt8 → Bool) (r : List UInt8) : ∀ (d n : Nat), r.length - n ≤ d → n ≤ r.length → (∀ k, k < n → P (r.take (k + 1)) = true) → FarIs P r (farN P r n) := by
  intro d
  induction d with
  | zero =>
    intro n hd hn hy
    rw [farN_end (by omega)]
    exact ⟨hn, hy, fun h => absurd h (by omega)⟩
  | succ d ih =>
    intro n hd hn hy
    by_cases h : n < r.length
    · cases hp : P (r.take (n + 1)) with
      | true =>
        rw [farN_go h hp]
        refine ih (n + 1) (by omega) (by omega) fun k hk => ?_
        by_cases e : k = n
        · rw [e]; exact hp
        · exact hy k (by omega)
      | false => rw [farN_no hp]; exact ⟨hn, hy, fun _ => hp⟩
    · rw [farN_end h]; exact ⟨hn, hy, fun h' => absurd h' h⟩
theorem far_is (P : List UInt8 → Bool) (r : List UInt8) : FarIs P r (far P r) := farN_is P r _ 0 (Nat.le_refl _) (Nat.zero_le _) (fun k h => absurd h (by omega))
theorem FarIs.le_of {P : List UInt8 → Bool} {r : List UInt8} {n m : Nat} (h : FarIs P r n) (g : FarIs P r m) : m ≤ n := by
  by_cases hlt : n < m
  · have a := g.yes n hlt
    have b := h.no (by have := g.le; omega)
    rw [a] at b; cases b
  · omega
theorem FarIs.eq {P : List UInt8 → Bool} {r : List UInt8} {n : Nat} (h : FarIs P r n) : far P r = n := by
  have a := h.le_of (far_is P r)
  have b := (far_is P r).le_of h
  omega
def blank (c : UInt8) : Bool := c == 32 || c == 10
/-- r' begins with the first n bytes of r; behind them stands nothing, a blank, or what stands there in r -/
structure Ext (r r' : List UInt8) (n : Nat) : Prop where
  le : n ≤ r.length
  len : n ≤ r'.length
  front : r'.take n = r.take n
  next : ∀ c, (r'.drop n).head? = some c → blank c = true ∨ (r.drop n).head? = some c
theorem Ext.take {r r' : List UInt8} {n k : Nat} (h : Ext r r' n) (hk : k ≤ n) : r'.take k = r.take k := by
  have := congrArg (List.take k) h.front
  rwa [List.take_take, List.take_take, Nat.min_eq_left hk] at this
theorem Ext.head {r r' : List UInt8} {n : Nat} (h : Ext r r' n) (hn : 0 < n) : r'.head? = r.head? := by
  have := congrArg List.head? (h.take (k := 1) (by omega))
  cases r with
  | nil => have := h.le; simp at this; omega
  | cons a r => cases r' with
    | nil => have := h.len; simp at this; omega
    | cons b r' => simpa using this
theorem Ext.app (a v : List UInt8) (r : List UInt8) (n : Nat) (ha : r.take n = a) (hn : n ≤ r.length) (hv : ∀ c, v.head? = some c → blank c = true ∨ (r.drop n).head? = some c) : Ext r (a ++ v) n := by
  have hl : a.length = n := by rw [← ha, List.length_take]; omega
  refine ⟨hn, by rw [List.length_append]; omega, ?_, ?_⟩
  · rw [← hl, List.take_left, hl, ha]
  · rw [← hl, List.drop_left, hl]; exact hv
theorem far_pos_head {P : List UInt8 → Bool} {r : List UInt8} {n : Nat} (hf : FarIs P r n) (h : 0 < n) : ∃ c t, r = c :: t ∧ P [c] = true := by
  have hy := hf.yes 0 h
  cases r with
  | nil => have := hf.le; simp at this; omega
  | cons c t => exact ⟨c, t, rfl, by simpa using hy⟩
def ba (l : List UInt8) : ByteArray := ⟨l.toArray⟩
def wordsL : List (List UInt8) := [[97, 110, 100], [97, 110, 121], [99, 111, 110, 99, 101, 112, 116], [101, 108, 115, 101], [101, 110, 100], [101, 118, 101, 114, 121], [102, 97, 108, 115, 101], [102, 105, 114, 115, 116], [105, 100], [105, 102], [105, 110], [105, 110, 116], [110, 111, 110, 101], [110, 111, 116], [111, 110, 108, 121], [111, 114], [115, 101, 108, 102], [115, 105, 122, 101], [115, 117, 109], [116, 101, 120, 116], [116, 104, 101, 110], [116, 114, 117, 101]]
def marksL : List (List UInt8) := [[46], [35], [45, 62], [94], [63], [33, 33], [40], [41], [43], [45], [42], [61, 61], [33, 61], [60], [60, 61], [58]]
def wordB (l : List UInt8) : Bool := wordsL.contains l
def markB (l : List UInt8) : Bool := marksL.contains l
def digP (l : List UInt8) : Bool := (intT l).isSome
def begM (l : List UInt8) : Bool := marksL.any (fun m => l.isPrefixOf m)
def apart : List UInt8 → Bool
  | [] => true
  | c :: _ => !innC c
def kindOf (l : List UInt8) : Int := if wordB l then 4 else 3
structure Tok where
  kind : Int
  text : ByteArray
  int : Int
  place : Int
def nameT (r : List UInt8) (n : Nat) : Option Tok × Nat := if apart (r.drop n) then (some ⟨kindOf (r.take n), ba (r.take n), 0, 0⟩, n) else (none, n)
def intTk (r : List UInt8) (n : Nat) : Option Tok × Nat := if apart (r.drop n) then (some ⟨1, ba [], (intT (r.take n)).getD 0, 0⟩, n) else (none, n)
def textT (t : List UInt8) : Option Tok × Nat :=
  match scanL t with
  | (some l, n) => (some ⟨2, ba l, 0, 0⟩, n + 1)
  | (none, n) => (none, n + 1)
def markT (r : List UInt8) (n : Nat) : Option Tok × Nat := if markB (r.take n) then (some ⟨5, ba (r.take n), 0, 0⟩, n) else (none, n)
/-- the token with which r begins, and its length; or none, and the place of the first wrong byte -/
def lexT (r : List UInt8) : Option Tok × Nat :=
  if 0 < far right r then nameT r (far right r)
  else if 0 < far digP r then intTk r (far digP r)
  else if r.head? = some 34 then textT r.tail
  else markT r (far begM r)
inductive Way (r : List UInt8) : Option Tok × Nat → Prop
  | name (n : Nat) : FarIs right r n → 0 < n → Way r (nameT r n)
  | int (n : Nat) : FarIs right r 0 → FarIs digP r n → 0 < n → Way r (intTk r n)
  | text (t : List UInt8) : FarIs right r 0 → FarIs digP r 0 → r = 34 :: t → Way r (textT t)
  | mark (n : Nat) : FarIs right r 0 → FarIs digP r 0 → r.head? ≠ some 34 → FarIs begM r n → Way r (markT r n)
theorem far_is0 {P : List UInt8 → Bool} {r : List UInt8} (h : ¬ 0 < far P r) : FarIs P r 0 := by
  have := far_is P r
  rwa [show far P r = 0 by omega] at this
theorem lexT_way (r : List UInt8) : Way r (lexT r) := by
  unfold lexT
  split
  · rename_i h; exact .name _ (far_is _ _) h
  · rename_i h1
    split
    · rename_i h; exact .int _ (far_is0 h1) (far_is _ _) h
    · rename_i h2
      split
      · rename_i h
        cases r with
        | nil => simp at h
        | cons c t => simp at h; subst h; exact .text t (far_is0 h1) (far_is0 h2) rfl
      · rename_i h; exact .mark _ (far_is0 h1) (far_is0 h2) h (far_is _ _)
theorem blank_cases {c : UInt8} (h : blank c = true) : c = 32 ∨ c = 10 := by simpa [blank] using h
theorem lexT_len {r : List UInt8} {k : Tok} {n : Nat} (h : lexT r = (some k, n)) : 0 < n ∧ n ≤ r.length := by
  have hw := lexT_way r
  generalize hq : lexT r = x at hw
  rw [hq] at h
  clear hq
  cases hw with
  | name m h1 h2 =>
    unfold nameT at h
    split at h
    · simp only [Prod.mk.injEq] at h; obtain ⟨_, rfl⟩ := h; exact ⟨h2, h1.le⟩
    · simp at h
  | int m h1 h2 h3 =>
    unfold intTk at h
    split at h
    · simp only [Prod.mk.injEq] at h; obtain ⟨_, rfl⟩ := h; exact ⟨h3, h2.le⟩
    · simp at h
  | text t h1 h2 h3 =>
    unfold textT at h
    split at h
    · rename_i l m hs
      simp only [Prod.mk.injEq] at h
      obtain ⟨_, rfl⟩ := h
      have := (scanL_is t.length t l m (Nat.le_refl _) hs).2
      rw [h3]; exact ⟨by omega, by simp; omega⟩
    · simp at h
  | mark m h1 h2 h3 h4 =>
    unfold markT at h
    split at h
    · rename_i hm
      simp only [Prod.mk.injEq] at h
      obtain ⟨_, rfl⟩ := h
      refine ⟨?_, h4.le⟩
      by_cases h0 : m = 0
      · subst h0; rw [List.take_zero] at hm; exact absurd hm (by decide)
      · omega
    · simp at h
def Tok.at (k : Tok) (p : Nat) : Tok := { k with place := (p : Int) }
theorem scanT_dec {c : UInt8} {t : List UInt8} {k : Tok} {n : Nat} (h : lexT (c :: t) = (some k, n)) : ((c :: t).drop n).length < (c :: t).length := by
  have := lexT_len h
  rw [List.length_drop]; omega
def scanT (p : Nat) (r : List UInt8) : Option (List Tok) × Nat :=
  match r with
  | [] => (some [], 0)
  | c :: t =>
    if blank c then scanT (p + 1) t
    else match h : lexT (c :: t) with
      | (some k, n) => match scanT (p + n) ((c :: t).drop n) with
        | (some l, _) => (some (k.at p :: l), 0)
        | (none, e) => (none, e)
      | (none, n) => (none, p + n)
termination_by r.length
decreasing_by
  · simp
  · exact scanT_dec h
theorem scanT_nil (p : Nat) : scanT p [] = (some [], 0) := by rw [scanT]
theorem scanT_blank {p : Nat} {c : UInt8} {t : List UInt8} (h : blank c = true) : scanT p (c :: t) = scanT (p + 1) t := by rw [scanT, if_pos h]
theorem scanT_bad {p n : Nat} {c : UInt8} {t : List UInt8} (hb : blank c = false) (h : lexT (c :: t) = (none, n)) : scanT p (c :: t) = (none, p + n) := by
  rw [scanT, if_neg (by rw [hb]; simp)]
  split
  · rename_i k m hq; rw [h] at hq; simp at hq
  · rename_i m hq; rw [h] at hq; simp at hq; rw [hq]
/-- what a token ahead makes of the rest's answer -/
def ahd (k : Tok) : Option (List Tok) × Nat → Option (List Tok) × Nat
  | (some l, _) => (some (k :: l), 0)
  | (none, e) => (none, e)
theorem scanT_tok {p n : Nat} {c : UInt8} {t : List UInt8} {k : Tok} (hb : blank c = false) (h : lexT (c :: t) = (some k, n)) : scanT p (c :: t) = ahd (k.at p) (scanT (p + n) ((c :: t).drop n)) := by
  rw [scanT, if_neg (by rw [hb]; simp)]
  split
  · rename_i k' m hq
    rw [h] at hq; simp only [Prod.mk.injEq, Option.some.injEq] at hq
    obtain ⟨rfl, rfl⟩ := hq
    unfold ahd
    rfl
  · rename_i m hq; rw [h] at hq; simp at hq
/-- each rest of a text begins in one of four ways -/
theorem scanT_ways (r : List UInt8) : r = [] ∨ (∃ c t, r = c :: t ∧ blank c = true) ∨ (∃ c t k n, r = c :: t ∧ blank c = false ∧ lexT r = (some k, n)) ∨ (∃ c t n, r = c :: t ∧ blank c = false ∧ lexT r = (none, n)) := by
  cases r with
  | nil => exact .inl rfl
  | cons c t =>
    cases hb : blank c with
    | true => exact .inr (.inl ⟨c, t, rfl, hb⟩)
    | false =>
      obtain ⟨o, n, h⟩ : ∃ o n, lexT (c :: t) = (o, n) := ⟨_, _, rfl⟩
      cases o with
      | some k => exact .inr (.inr (.inl ⟨c, t, k, n, rfl, hb, h⟩))
      | none => exact .inr (.inr (.inr ⟨c, t, n, rfl, hb, h⟩))
theorem scanT_zero : ∀ (d p : Nat) (r : List UInt8) (l : List Tok) (n : Nat), r.length ≤ d → scanT p r = (some l, n) → n = 0 := by
  intro d
  induction d with
  | zero =>
    intro p r l n hd h
    obtain rfl : r = [] := List.length_eq_zero_iff.1 (by omega)
    rw [scanT_nil] at h; simp at h; omega
  | succ d ih =>
    intro p r l n hd h
    rcases scanT_ways r with rfl | ⟨c, t, rfl, hb⟩ | ⟨c, t, k, m, rfl, hb, hk⟩ | ⟨c, t, m, rfl, hb, hk⟩
    · rw [scanT_nil] at h; simp at h; omega
    · rw [scanT_blank hb] at h; exact ih _ _ _ _ (by simp at hd; omega) h
    · rw [scanT_tok hb hk] at h
      unfold ahd at h
      split at h <;> simp at h
      omega
    · rw [scanT_bad hb hk] at h; simp at h
end Go.Proofs.YtckfcpiedainfaaGreatDoor

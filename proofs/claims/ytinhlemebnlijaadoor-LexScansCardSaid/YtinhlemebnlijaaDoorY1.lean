/-
  PLAIN: tokens: how far a shape goes, one token at a time, a text's tokens. No program stands in it.
-/
import Derived.Test.YtinhlemebnlijaaDoorN
import Derived.Test.YtinhlemebnlijaaDoorI
import Derived.Test.YtinhlemebnlijaaDoorS
namespace Go.Proofs.YtinhlemebnlijaaDoor
open Go
set_option linter.unusedVariables false
def farN (P : List UInt8 → Bool) (r : List UInt8) (n : Nat) : Nat :=
  if n < r.length ∧ P (r.take (n + 1)) = true then farN P r (n + 1) else n
termination_by r.length - n
decreasing_by omega
def far (P : List UInt8 → Bool) (r : List UInt8) : Nat := farN P r 0
structure FarIs (P : List UInt8 → Bool) (r : List UInt8) (n : Nat) : Prop where
  le : n ≤ r.length
  yes : ∀ k, k < n → P (r.take (k + 1)) = true
  no : n < r.length → P (r.take (n + 1)) = false
theorem farN_go {P : List UInt8 → Bool} {r : List UInt8} {n : Nat} (h : n < r.length) (hp : P (r.take (n + 1)) = true) : farN P r n = farN P r (n + 1) := by
  rw [farN, if_pos ⟨h, hp⟩]
theorem farN_end {P : List UInt8 → Bool} {r : List UInt8} {n : Nat} (h : ¬ n < r.length) : farN P r n = n := by
  rw [farN, if_neg (fun hc => h hc.1)]
theorem farN_no {P : List UInt8 → Bool} {r : List UInt8} {n : Nat} (h : P (r.take (n + 1)) = false) : farN P r n = n := by
  rw [farN, if_neg (fun hc => by rw [h] at hc; exact absurd hc.2 (by simp))]
theorem farN_is (P : List UInt8 → Bool) (r : List UInt8) : ∀ (d n : Nat), r.length - n ≤ d → n ≤ r.length → (∀ k, k < n → P (r.take (k + 1)) = true) → FarIs P r (farN P r n) := by
  intro d
  induction d with
  | zero =>
    intro n hd hn hy
    rw [farN_end (by omega)]
    exact ⟨hn, hy, fun h => absurd h (by omega)⟩
  | succ d ih =>
    intro n hd hn hy
    by_cases h : n < r.length
    · cases hp : P (r.take (n + 1)) with
      | true =>
        rw [farN_go h hp]
        refine ih (n + 1) (by omega) (by omega) fun k hk => ?_
        by_cases e : k = n
        · rw [e]; exact hp
        · exact hy k (by omega)
      | false => rw [farN_no hp]; exact ⟨hn, hy, fun _ => hp⟩
    · rw [farN_end h]; exact ⟨hn, hy, fun h' => absurd h' h⟩
theorem far_is (P : List UInt8 → Bool) (r : List UInt8) : FarIs P r (far P r) := farN_is P r _ 0 (Nat.le_refl _) (Nat.zero_le _) (fun k h => absurd h (by omega))
theorem FarIs.le_of {P : List UInt8 → Bool} {r : List UInt8} {n m : Nat} (h : FarIs P r n) (g : FarIs P r m) : m ≤ n := by
  by_cases hlt : n < m
  · have a := g.yes n hlt
    have b := h.no (by have := g.le; omega)
    rw [a] at b; cases b
  · omega
theorem FarIs.eq {P : List UInt8 → Bool} {r : List UInt8} {n : Nat} (h : FarIs P r n) : far P r = n := by
  have a := h.le_of (far_is P r)
  have b := (far_is P r).le_of h
  omega
def blank (c : UInt8) : Bool := c == 32 || c == 10
/-- r' begins with the first n bytes of r; behind them stands nothing, a blank, or what stands there in r -/
structure Ext (r r' : List UInt8) (n : Nat) : Prop where
  le : n ≤ r.length
  len : n ≤ r'.length
  front : r'.take n = r.take n
  next : ∀ c, (r'.drop n).head? = some c → blank c = true ∨ (r.drop n).head? = some c
theorem Ext.take {r r' : List UInt8} {n k : Nat} (h : Ext r r' n) (hk : k ≤ n) : r'.take k = r.take k := by
  have := congrArg (List.take k) h.front
  rwa [List.take_take, List.take_take, Nat.min_eq_left hk] at this
theorem take_head {r : List UInt8} {n : Nat} {c : UInt8} (h : (r.drop n).head? = some c) : r.take (n + 1) = r.take n ++ [c] := by
  rw [List.head?_drop] at h
  rw [List.take_add_one, h]; rfl
theorem head_lt {r : List UInt8} {n : Nat} {c : UInt8} (h : (r.drop n).head? = some c) : n < r.length := by
  rw [List.head?_drop] at h
  exact (List.getElem?_eq_some_iff.1 h).1
theorem lt_head {r : List UInt8} {n : Nat} (h : n < r.length) : ∃ c, (r.drop n).head? = some c := ⟨r[n], by rw [List.head?_drop, List.getElem?_eq_getElem h]⟩
theorem Ext.head {r r' : List UInt8} {n : Nat} (h : Ext r r' n) (hn : 0 < n) : r'.head? = r.head? := by
  have := congrArg List.head? (h.take (k := 1) (by omega))
  cases r with
  | nil => have := h.le; simp at this; omega
  | cons a r => cases r' with
    | nil => have := h.len; simp at this; omega
    | cons b r' => simpa using this
theorem Ext.self (r : List UInt8) (n : Nat) (h : n ≤ r.length) : Ext r r n := ⟨h, h, rfl, fun c hc => .inr hc⟩
theorem Ext.cut (r : List UInt8) (n m : Nat) (h : n ≤ r.length) (hm : n ≤ m) : Ext r (r.take m) n := by
  refine ⟨h, by rw [List.length_take]; omega, by rw [List.take_take, Nat.min_eq_left hm], fun c hc => .inr ?_⟩
  rw [List.head?_drop] at hc ⊢
  rw [List.getElem?_take] at hc
  split at hc
  · exact hc
  · cases hc
theorem Ext.app (a v : List UInt8) (r : List UInt8) (n : Nat) (ha : r.take n = a) (hn : n ≤ r.length) (hv : ∀ c, v.head? = some c → blank c = true ∨ (r.drop n).head? = some c) : Ext r (a ++ v) n := by
  have hl : a.length = n := by rw [← ha, List.length_take]; omega
  refine ⟨hn, by rw [List.length_append]; omega, ?_, ?_⟩
  · rw [← hl, List.take_left, hl, ha]
  · rw [← hl, List.drop_left, hl]; exact hv
theorem far_ext {P : List UInt8 → Bool} {r r' : List UInt8} {n : Nat} (hb : ∀ l c, blank c = true → P (l ++ [c]) = false) (hf : FarIs P r n) (hx : Ext r r' n) : FarIs P r' n := by
  refine ⟨hx.len, fun k hk => by rw [hx.take (by omega)]; exact hf.yes k hk, fun hlt => ?_⟩
  obtain ⟨c, hc⟩ := lt_head hlt
  rw [take_head hc, hx.front]
  rcases hx.next c hc with h | h
  · exact hb _ _ h
  · have := hf.no (head_lt h)
    rwa [take_head h] at this
theorem far_zero {P : List UInt8 → Bool} {r r' : List UInt8} (hf : FarIs P r 0) (hh : r'.head? = r.head?) : FarIs P r' 0 := by
  refine ⟨Nat.zero_le _, fun k hk => absurd hk (by omega), fun hlt => ?_⟩
  cases r' with
  | nil => simp at hlt
  | cons a r' => cases r with
    | nil => simp at hh
    | cons b r =>
      simp at hh
      have := hf.no (by simp)
      rw [hh]
      simpa using this
theorem far_grow {P : List UInt8 → Bool} {r w : List UInt8} {n : Nat} (hf : FarIs P r n) : n ≤ far P (r.take n ++ w) := by
  have hl : (r.take n).length = n := by rw [List.length_take]; have := hf.le; omega
  have hm := far_is P (r.take n ++ w)
  by_cases h : far P (r.take n ++ w) < n
  · exfalso
    have b := hm.no (by rw [List.length_append]; omega)
    rw [List.take_append_of_le_length (by omega), List.take_take, Nat.min_eq_left (by omega)] at b
    rw [hf.yes _ h] at b; cases b
  · omega
theorem far_pos_head {P : List UInt8 → Bool} {r : List UInt8} {n : Nat} (hf : FarIs P r n) (h : 0 < n) : ∃ c t, r = c :: t ∧ P [c] = true := by
  have hy := hf.yes 0 h
  cases r with
  | nil => have := hf.le; simp at this; omega
  | cons c t => exact ⟨c, t, rfl, by simpa using hy⟩
def ba (l : List UInt8) : ByteArray := ⟨l.toArray⟩
def wordsL : List (List UInt8) := [[97, 110, 100], [97, 110, 121], [99, 111, 110, 99, 101, 112, 116], [101, 108, 115, 101], [101, 110, 100], [101, 118, 101, 114, 121], [102, 97, 108, 115, 101], [102, 105, 114, 115, 116], [105, 100], [105, 102], [105, 110], [105, 110, 116], [110, 111, 110, 101], [110, 111, 116], [111, 110, 108, 121], [111, 114], [115, 101, 108, 102], [115, 105, 122, 101], [115, 117, 109], [116, 101, 120, 116], [116, 104, 101, 110], [116, 114, 117, 101]]
def marksL : List (List UInt8) := [[46], [35], [45, 62], [94], [63], [33, 33], [40], [41], [43], [45], [42], [61, 61], [33, 61], [60], [60, 61], [58]]
def wordB (l : List UInt8) : Bool := wordsL.contains l
def markB (l : List UInt8) : Bool := marksL.contains l
def digP (l : List UInt8) : Bool := (intT l).isSome
def begM (l : List UInt8) : Bool := marksL.any (fun m => l.isPrefixOf m)
def apart : List UInt8 → Bool
  | [] => true
  | c :: _ => !innC c
def kindOf (l : List UInt8) : Int := if wordB l then 4 else 3
structure Tok where
  kind : Int
  text : ByteArray
  int : Int
  place : Int
def nameT (r : List UInt8) (n : Nat) : Option Tok × Nat := if apart (r.drop n) then (some ⟨kindOf (r.take n), ba (r.take n), 0, 0⟩, n) else (none, n)
def intTk (r : List UInt8) (n : Nat) : Option Tok × Nat := if apart (r.drop n) then (some ⟨1, ba [], (intT (r.take n)).getD 0, 0⟩, n) else (none, n)
def textT (t : List UInt8) : Option Tok × Nat :=
  match scanL t with
  | (some l, n) => (some ⟨2, ba l, 0, 0⟩, n + 1)
  | (none, n) => (none, n + 1)
def markT (r : List UInt8) (n : Nat) : Option Tok × Nat := if markB (r.take n) then (some ⟨5, ba (r.take n), 0, 0⟩, n) else (none, n)
/-- the token with which r begins, and its length; or none, and the place of the first wrong byte -/
def lexT (r : List UInt8) : Option Tok × Nat :=
  if 0 < far right r then nameT r (far right r)
  else if 0 < far digP r then intTk r (far digP r)
  else if r.head? = some 34 then textT r.tail
  else markT r (far begM r)
inductive Way (r : List UInt8) : Option Tok × Nat → Prop
  | name (n : Nat) : FarIs right r n → 0 < n → Way r (nameT r n)
  | int (n : Nat) : FarIs right r 0 → FarIs digP r n → 0 < n → Way r (intTk r n)
  | text (t : List UInt8) : FarIs right r 0 → FarIs digP r 0 → r = 34 :: t → Way r (textT t)
  | mark (n : Nat) : FarIs right r 0 → FarIs digP r 0 → r.head? ≠ some 34 → FarIs begM r n → Way r (markT r n)
theorem far_is0 {P : List UInt8 → Bool} {r : List UInt8} (h : ¬ 0 < far P r) : FarIs P r 0 := by
  have := far_is P r
  rwa [show far P r = 0 by omega] at this
theorem lexT_way (r : List UInt8) : Way r (lexT r) := by
  unfold lexT
  split
  · rename_i h; exact .name _ (far_is _ _) h
  · rename_i h1
    split
    · rename_i h; exact .int _ (far_is0 h1) (far_is _ _) h
    · rename_i h2
      split
      · rename_i h
        cases r with
        | nil => simp at h
        | cons c t => simp at h; subst h; exact .text t (far_is0 h1) (far_is0 h2) rfl
      · rename_i h; exact .mark _ (far_is0 h1) (far_is0 h2) h (far_is _ _)
theorem way_lexT {r : List UInt8} {x : Option Tok × Nat} (h : Way r x) : lexT r = x := by
  unfold lexT
  cases h with
  | name n h1 h2 => rw [h1.eq, if_pos h2]
  | int n h1 h2 h3 => rw [h1.eq, if_neg (by omega), h2.eq, if_pos h3]
  | text t h1 h2 h3 => rw [h1.eq, if_neg (by omega), h2.eq, if_neg (by omega), if_pos (by rw [h3]; rfl), h3]; rfl
  | mark n h1 h2 h3 h4 => rw [h1.eq, if_neg (by omega), h2.eq, if_neg (by omega), if_neg h3, h4.eq]
theorem blank_cases {c : UInt8} (h : blank c = true) : c = 32 ∨ c = 10 := by simpa [blank] using h
theorem right_blank (l : List UInt8) (c : UInt8) (h : blank c = true) : right (l ++ [c]) = false := by
  have hc : innC c = false := by rcases blank_cases h with rfl | rfl <;> decide
  have hl : letB (c.toNat : Int) = false := by rcases blank_cases h with rfl | rfl <;> decide
  cases l with
  | nil => simp [right, hl]
  | cons d l => simp [right, hc]
def numC (c : UInt8) : Bool := isDg c || c == 45
theorem itoa_all (v : Int) : (Lib.itoa v).all numC = true := by
  have key : ∀ u : Nat, (Lib.decDigits u).all numC = true := fun u => by
    have := (dec_val u).2
    rw [List.all_eq_true] at this ⊢
    intro x hx; simp [numC, this x hx]
  unfold Lib.itoa
  split
  · rw [List.all_cons, key]; rfl
  · exact key _
theorem digP_all {l : List UInt8} (h : digP l = true) : l.all numC = true := by
  unfold digP at h
  cases hv : intT l with
  | none => rw [hv] at h; cases h
  | some v => rw [← (intT_out hv).1]; exact itoa_all v
theorem digP_blank (l : List UInt8) (c : UInt8) (h : blank c = true) : digP (l ++ [c]) = false := by
  rw [Bool.eq_false_iff]
  intro hd
  have := digP_all hd
  rw [List.all_append, Bool.and_eq_true] at this
  have hc : numC c = false := by rcases blank_cases h with rfl | rfl <;> decide
  simp [hc] at this
theorem mark_bytes : ∀ m ∈ marksL, m.all (fun c => !blank c) = true := by decide
theorem begM_blank (l : List UInt8) (c : UInt8) (h : blank c = true) : begM (l ++ [c]) = false := by
  rw [Bool.eq_false_iff]
  intro hd
  unfold begM at hd
  rw [List.any_eq_true] at hd
  obtain ⟨m, hm, hp⟩ := hd
  have hp := List.isPrefixOf_iff_prefix.1 hp
  have hb := List.all_eq_true.1 (mark_bytes m hm) c (hp.subset (by simp))
  rw [h] at hb; cases hb
theorem apart_ext {r r' : List UInt8} {n : Nat} (h : Ext r r' n) (ha : apart (r.drop n) = true) : apart (r'.drop n) = true := by
  cases hd : r'.drop n with
  | nil => rfl
  | cons c t =>
    have := h.next c (by rw [hd]; rfl)
    rcases this with hb | hs
    · have hc : innC c = false := by rcases blank_cases hb with rfl | rfl <;> decide
      simp [apart, hc]
    · cases hq : r.drop n with
      | nil => rw [hq] at hs; cases hs
      | cons d u =>
        rw [hq] at hs ha
        simp at hs; subst hs
        exact ha
theorem scanL_ext {t t' : List UInt8} {l : List UInt8} {n : Nat} (h : scanL t = (some l, n)) (hf : t'.take n = t.take n) : scanL t' = (some l, n) := by
  obtain ⟨e, hn⟩ := scanL_is t.length t l n (Nat.le_refl _) h
  have hs : t' = l.flatMap form ++ 34 :: t'.drop n := by
    have := List.take_append_drop n t'
    rw [hf, e, List.append_assoc] at this
    exact this.symm
  have hl : (l.flatMap form).length + 1 = n := by
    have := congrArg List.length e
    rw [List.length_take, List.length_append] at this
    simp only [List.length_cons, List.length_nil] at this
    omega
  rw [hs, scanL_back, hl]
theorem lexT_len {r : List UInt8} {k : Tok} {n : Nat} (h : lexT r = (some k, n)) : 0 < n ∧ n ≤ r.length := by
  have hw := lexT_way r
  generalize hq : lexT r = x at hw
  rw [hq] at h
  clear hq
  cases hw with
  | name m h1 h2 =>
    unfold nameT at h
    split at h
    · simp only [Prod.mk.injEq] at h; obtain ⟨_, rfl⟩ := h; exact ⟨h2, h1.le⟩
    · simp at h
  | int m h1 h2 h3 =>
    unfold intTk at h
    split at h
    · simp only [Prod.mk.injEq] at h; obtain ⟨_, rfl⟩ := h; exact ⟨h3, h2.le⟩
    · simp at h
  | text t h1 h2 h3 =>
    unfold textT at h
    split at h
    · rename_i l m hs
      simp only [Prod.mk.injEq] at h
      obtain ⟨_, rfl⟩ := h
      have := (scanL_is t.length t l m (Nat.le_refl _) hs).2
      rw [h3]; exact ⟨by omega, by simp; omega⟩
    · simp at h
  | mark m h1 h2 h3 h4 =>
    unfold markT at h
    split at h
    · rename_i hm
      simp only [Prod.mk.injEq] at h
      obtain ⟨_, rfl⟩ := h
      refine ⟨?_, h4.le⟩
      by_cases h0 : m = 0
      · subst h0; rw [List.take_zero] at hm; exact absurd hm (by decide)
      · omega
    · simp at h
theorem lexT_ext {r r' : List UInt8} {k : Tok} {n : Nat} (h : lexT r = (some k, n)) (hx : Ext r r' n) : lexT r' = (some k, n) := by
  have hn := (lexT_len h).1
  have hh := hx.head hn
  have hw := lexT_way r
  generalize hq : lexT r = x at hw
  rw [hq] at h
  clear hq
  cases hw with
  | name m h1 h2 =>
    unfold nameT at h
    split at h
    · rename_i ha
      simp only [Prod.mk.injEq] at h; obtain ⟨hk, rfl⟩ := h
      rw [way_lexT (.name m (far_ext right_blank h1 hx) h2)]
      unfold nameT
      rw [if_pos (apart_ext hx ha), hx.front, hk]
    · simp at h
  | int m h1 h2 h3 =>
    unfold intTk at h
    split at h
    · rename_i ha
      simp only [Prod.mk.injEq] at h; obtain ⟨hk, rfl⟩ := h
      rw [way_lexT (.int m (far_zero h1 hh) (far_ext digP_blank h2 hx) h3)]
      unfold intTk
      rw [if_pos (apart_ext hx ha), hx.front, hk]
    · simp at h
  | text t h1 h2 h3 =>
    unfold textT at h
    split at h
    · rename_i l m hs
      simp only [Prod.mk.injEq] at h
      obtain ⟨hk, rfl⟩ := h
      subst h3
      cases r' with
      | nil => simp at hh
      | cons c t' =>
        simp at hh; subst hh
        have hf := hx.front
        simp at hf
        rw [way_lexT (r := 34 :: t') (.text t' (far_zero h1 rfl) (far_zero h2 rfl) rfl)]
        unfold textT
        rw [scanL_ext hs hf, ← hk]
    · simp at h
  | mark m h1 h2 h3 h4 =>
    unfold markT at h
    split at h
    · rename_i hm
      simp only [Prod.mk.injEq] at h
      obtain ⟨hk, rfl⟩ := h
      rw [way_lexT (.mark m (far_zero h1 hh) (far_zero h2 hh) (by rw [hh]; exact h3) (far_ext begM_blank h4 hx))]
      unfold markT
      rw [hx.front, if_pos hm, hk]
    · simp at h
def Tok.at (k : Tok) (p : Nat) : Tok := { k with place := (p : Int) }
theorem scanT_dec {c : UInt8} {t : List UInt8} {k : Tok} {n : Nat} (h : lexT (c :: t) = (some k, n)) : ((c :: t).drop n).length < (c :: t).length := by
  have := lexT_len h
  rw [List.length_drop]; omega
def scanT (p : Nat) (r : List UInt8) : Option (List Tok) × Nat :=
  match r with
  | [] => (some [], 0)
  | c :: t =>
    if blank c then scanT (p + 1) t
    else match h : lexT (c :: t) with
      | (some k, n) => match scanT (p + n) ((c :: t).drop n) with
        | (some l, _) => (some (k.at p :: l), 0)
        | (none, e) => (none, e)
      | (none, n) => (none, p + n)
termination_by r.length
decreasing_by
  · simp
  · exact scanT_dec h
theorem scanT_nil (p : Nat) : scanT p [] = (some [], 0) := by rw [scanT]
theorem scanT_blank {p : Nat} {c : UInt8} {t : List UInt8} (h : blank c = true) : scanT p (c :: t) = scanT (p + 1) t := by rw [scanT, if_pos h]
theorem scanT_bad {p n : Nat} {c : UInt8} {t : List UInt8} (hb : blank c = false) (h : lexT (c :: t) = (none, n)) : scanT p (c :: t) = (none, p + n) := by
  rw [scanT, if_neg (by rw [hb]; simp)]
  split
  · rename_i k m hq; rw [h] at hq; simp at hq
  · rename_i m hq; rw [h] at hq; simp at hq; rw [hq]
/-- what a token ahead makes of the rest's answer -/
def ahd (k : Tok) : Option (List Tok) × Nat → Option (List Tok) × Nat
  | (some l, _) => (some (k :: l), 0)
  | (none, e) => (none, e)
theorem scanT_tok {p n : Nat} {c : UInt8} {t : List UInt8} {k : Tok} (hb : blank c = false) (h : lexT (c :: t) = (some k, n)) : scanT p (c :: t) = ahd (k.at p) (scanT (p + n) ((c :: t).drop n)) := by
  rw [scanT, if_neg (by rw [hb]; simp)]
  split
  · rename_i k' m hq
    rw [h] at hq; simp only [Prod.mk.injEq, Option.some.injEq] at hq
    obtain ⟨rfl, rfl⟩ := hq
    unfold ahd
    rfl
  · rename_i m hq; rw [h] at hq; simp at hq
/-- each rest of a text begins in one of four ways -/
theorem scanT_ways (r : List UInt8) : r = [] ∨ (∃ c t, r = c :: t ∧ blank c = true) ∨ (∃ c t k n, r = c :: t ∧ blank c = false ∧ lexT r = (some k, n)) ∨ (∃ c t n, r = c :: t ∧ blank c = false ∧ lexT r = (none, n)) := by
  cases r with
  | nil => exact .inl rfl
  | cons c t =>
    cases hb : blank c with
    | true => exact .inr (.inl ⟨c, t, rfl, hb⟩)
    | false =>
      obtain ⟨o, n, h⟩ : ∃ o n, lexT (c :: t) = (o, n) := ⟨_, _, rfl⟩
      cases o with
      | some k => exact .inr (.inr (.inl ⟨c, t, k, n, rfl, hb, h⟩))
      | none => exact .inr (.inr (.inr ⟨c, t, n, rfl, hb, h⟩))
theorem scanT_zero : ∀ (d p : Nat) (r : List UInt8) (l : List Tok) (n : Nat), r.length ≤ d → scanT p r = (some l, n) → n = 0 := by
  intro d
  induction d with
  | zero =>
    intro p r l n hd h
    obtain rfl : r = [] := List.length_eq_zero_iff.1 (by omega)
    rw [scanT_nil] at h; simp at h; omega
  | succ d ih =>
    intro p r l n hd h
    rcases scanT_ways r with rfl | ⟨c, t, rfl, hb⟩ | ⟨c, t, k, m, rfl, hb, hk⟩ | ⟨c, t, m, rfl, hb, hk⟩
    · rw [scanT_nil] at h; simp at h; omega
    · rw [scanT_blank hb] at h; exact ih _ _ _ _ (by simp at hd; omega) h
    · rw [scanT_tok hb hk] at h
      unfold ahd at h
      split at h <;> simp at h
      omega
    · rw [scanT_bad hb hk] at h; simp at h
end Go.Proofs.YtinhlemebnlijaaDoor

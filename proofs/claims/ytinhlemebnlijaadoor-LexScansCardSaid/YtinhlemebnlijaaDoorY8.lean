/-
  WALKS over package lex: a token in one; Scan.
-/
import Derived.Test.YtinhlemebnlijaaDoorY7
import Derived.Test.YtinhlemebnlijaaDoorO
namespace Go.Proofs.YtinhlemebnlijaaDoor
open Go Go.RowKit
set_option linter.unusedVariables false
theorem ext_ba (s : ByteArray) (p n : Nat) : s.extract p (p + n) = ba ((s.data.toList.drop p).take n) := by
  refine ba_of ?_
  rw [Lib.extract_data, show p + n - p = n by omega]
theorem tokRes_of {w w' : World} {p n : Nat} {k : Option Tok} {b : Bool} {x : Option Tok × Nat} {e : Ending} (h : TokAt w k (p + n) b e w') (h1 : x.2 = n) (h2 : x.1.isSome = b) (h3 : ∀ k', x.1 = some k' → k = some k') : TokRes w p x e w' := by
  obtain ⟨hb, k', he, hk⟩ := h
  exact ⟨hb, k', by rw [he, h1, h2], fun k0 h0 => hk k0 (h3 k0 h0)⟩
theorem token_any (s : ByteArray) (p g : Nat) (w : World) (hp : p < s.size) (hC : TokCtx s g w) :
    Calls Tryd.prog 18 #[.agg #[.string s, rdrF g], .int .i64 p] w (TokRes w p (lexT (s.data.toList.drop p))) := by
  have hl : (s.data.toList.drop p).length = s.size - p := by rw [List.length_drop, toList_eq]
  have hdd : ∀ n, s.data.toList.drop (p + n) = (s.data.toList.drop p).drop n := fun n => by rw [List.drop_drop]
  have hw := lexT_way (s.data.toList.drop p)
  generalize lexT (s.data.toList.drop p) = x at hw
  cases hw with
  | name n h1 h2 =>
    refine (token_name s p g (p + n) w hp hC (by omega) (by have := h1.le; omega) (by rw [h1.eq])).mono fun e w' h => tokRes_of h ?_ ?_ ?_
    · unfold nameT; split <;> rfl
    · unfold nameT; rw [hdd]; cases apart ((s.data.toList.drop p).drop n) <;> rfl
    · intro k' hk
      unfold nameT at hk
      split at hk
      · rw [← hk, ext_ba, show p + n - p = n by omega]
      · cases hk
  | int n h1 h2 h3 =>
    refine (token_int s p g (p + n) w hp hC (by omega) (by have := h2.le; omega) h1.eq (by rw [h2.eq])).mono fun e w' h => tokRes_of h ?_ ?_ ?_
    · unfold intTk; split <;> rfl
    · unfold intTk; rw [hdd]; cases apart ((s.data.toList.drop p).drop n) <;> rfl
    · intro k' hk
      unfold intTk at hk
      split at hk
      · rw [← hk, show p + n - p = n by omega]
      · cases hk
  | text t h1 h2 h3 =>
    have h34 : s[p].toNat = 34 := by
      rw [drop_get s p hp] at h3
      rw [(List.cons.inj h3).1]; rfl
    have hu := unq_quote h3
    unfold textT
    rcases hs : scanL t with ⟨o, m⟩
    rw [hs] at hu
    cases o with
    | some l => exact (token_text s p g l (p + 1 + m) 0 w hp hC h34 h1.eq h2.eq hu).mono fun e w' h => tokRes_of (n := m + 1) (by rw [show p + (m + 1) = p + 1 + m by omega]; exact h) rfl rfl (fun k' hk => hk)
    | none => exact (token_text s p g [] (p + 1 + m) 10 w hp hC h34 h1.eq h2.eq hu).mono fun e w' h => tokRes_of (n := m + 1) (by rw [show p + (m + 1) = p + 1 + m by omega]; exact h) rfl rfl (fun k' hk => by cases hk)
  | mark n h1 h2 h3 h4 =>
    have h34 : s[p].toNat ≠ 34 := by
      intro e
      apply h3
      rw [drop_get s p hp]
      simp; exact UInt8.toNat_inj.1 e
    have ha := ahead_is (s.data.toList.drop p)
    have hn : (ahead (s.data.toList.drop p)).2 = n := by rw [← ha.far.eq, h4.eq]
    have hy := ha.yes
    have hno := ha.no
    rw [hn] at hy hno
    unfold markT
    cases hm : markB ((s.data.toList.drop p).take n) with
    | true =>
      have hl' : ((s.data.toList.drop p).take n).length = n := by rw [List.length_take]; have := h4.le; omega
      have hne : (s.data.toList.drop p).take n ≠ [] := by intro e; rw [e] at hm; exact absurd hm (by decide)
      have := token_mark s p g n ((s.data.toList.drop p).take n) w hp hC h34 h1.eq h2.eq (by rw [← hy hm, ← hn]) hne
      rw [hl'] at this
      exact this.mono fun e w' h => tokRes_of h rfl rfl (fun k' hk => hk)
    | false =>
      exact (token_none s p g n w hp hC h34 h1.eq h2.eq (by rw [← hno hm, ← hn])).mono fun e w' h => tokRes_of h rfl rfl (fun k' hk => by cases hk)
def tokCells (k : Tok) : List Value := [.int .i64 k.kind, .string k.text, .int .i64 k.int, .int .i64 k.place]
theorem tokCells_len (k : Tok) : (tokCells k).length = 4 := rfl
def toksCells (l : List Tok) : List Value := l.flatMap tokCells
theorem toksCells_len (l : List Tok) : (toksCells l).length = l.length * 4 := flatN_len tokCells_len l
theorem toksCells_one (l : List Tok) : ∀ u ∈ toksCells l, u.oneCell' = true := by
  intro u hu
  obtain ⟨p, _, hp⟩ := List.mem_flatMap.1 hu
  simp only [tokCells, List.mem_cons, List.not_mem_nil, or_false] at hp
  rcases hp with rfl | rfl | rfl | rfl <;> rfl
/-- the slice holds these tokens, in memory of the call's own -/
def OwnT (w : World) (B : Nat) (v : Value) (l : List Tok) : Prop := w.ownsRow B 30 4 v l.length (toksCells l)
theorem OwnT.nil (w : World) (B : Nat) : OwnT w B (.slice none 0 0) [] := World.ownsRow_nil w B _ _
theorem tokInfo : (Tryd.prog.info? 30).map (fun i => (i.zero, i.size, i.bytes)) = some (some (.agg tok0), 4, 40) := by kernel_rfl
/-- what Scan tells of a text -/
def scanR (S : List UInt8) : List Tok × Nat × Int :=
  if 4096 < S.length then ([], 0, 3) else match scanT 0 S with
    | (some l, _) => (l, 0, 0)
    | (none, n) => ([], n, 70)
def ScanPost (w : World) (r : List Tok × Nat × Int) (e : Ending) (w' : World) : Prop :=
  ∃ v, e = .returned (.tuple #[v, .int .i64 r.2.1, .int .i64 r.2.2]) ∧ OwnT w' w.heap.size v r.1 ∧ Below w.heap.size w w'
def comb (acc : List Tok) : Option (List Tok) × Nat → Option (List Tok) × Nat
  | (some l, n) => (some (acc ++ l), n)
  | (none, e) => (none, e)
theorem comb_ahd (acc : List Tok) (k : Tok) (x : Option (List Tok) × Nat) (hx : ∀ l n, x = (some l, n) → n = 0) : comb acc (ahd k x) = comb (acc ++ [k]) x := by
  obtain ⟨o, n⟩ := x
  cases o with
  | some l => simp [comb, ahd, hx l n rfl]
  | none => rfl
theorem scanT_past (S : List UInt8) (p : Nat) : ∀ (d : Nat) (r : List UInt8), r.length ≤ d → scanT p r = scanT (p + past r) (r.drop (past r)) := by
  intro d
  induction d generalizing p with
  | zero =>
    intro r hd
    obtain rfl : r = [] := List.length_eq_zero_iff.1 (by omega)
    rfl
  | succ d ih =>
    intro r hd
    cases r with
    | nil => rfl
    | cons c t =>
      cases hb : blank c with
      | true => rw [scanT_blank hb, past_blank hb, ih (p + 1) t (by simp at hd; omega), List.drop_succ_cons]; congr 1; omega
      | false => rw [past_other hb]; rfl
theorem past_stop (r : List UInt8) : ∀ c t, r.drop (past r) = c :: t → blank c = false := by
  induction r with
  | nil => intro c t h; simp at h
  | cons d r ih =>
    intro c t h
    cases hb : blank d with
    | true => rw [past_blank hb, List.drop_succ_cons] at h; exact ih c t h
    | false => rw [past_other hb] at h; simp at h; rw [← h.1]; exact hb
/-- so far: these tokens, at a place where no blank stands -/
structure ScanAt (S : List UInt8) (acc : List Tok) (p : Nat) : Prop where
  le : p ≤ S.length
  out : scanT 0 S = comb acc (scanT p (S.drop p))
  front : ∀ c t, S.drop p = c :: t → blank c = false
  few : acc.length ≤ p
theorem comb_nil (x : Option (List Tok) × Nat) : comb [] x = x := by
  obtain ⟨o, n⟩ := x
  cases o <;> rfl
theorem ScanAt.start (S : List UInt8) : ScanAt S [] (0 + past (S.drop 0)) := by
  rw [List.drop_zero, Nat.zero_add]
  refine ⟨past_le S, ?_, past_stop S, Nat.zero_le _⟩
  rw [comb_nil]
  have := scanT_past S 0 S.length S (Nat.le_refl _)
  rwa [Nat.zero_add] at this
theorem ScanAt.tok {S : List UInt8} {acc : List Tok} {p n : Nat} {k : Tok} (h : ScanAt S acc p) (hp : p < S.length) (hk : lexT (S.drop p) = (some k, n)) :
    p + n ≤ S.length ∧ ScanAt S (acc ++ [k.at p]) (p + n + past (S.drop (p + n))) := by
  have hl := lexT_len hk
  rw [List.length_drop] at hl
  have hpast := past_le (S.drop (p + n))
  rw [List.length_drop] at hpast
  refine ⟨by omega, ⟨by omega, ?_, ?_, ?_⟩⟩
  · cases hd : S.drop p with
    | nil => have := congrArg List.length hd; rw [List.length_drop] at this; simp at this; omega
    | cons c t =>
      rw [hd] at hk
      rw [h.out, hd, scanT_tok (h.front c t hd) hk, ← hd, List.drop_drop, comb_ahd _ _ _ (fun l n h => scanT_zero _ _ _ _ _ (Nat.le_refl _) h), scanT_past S (p + n) _ _ (Nat.le_refl _), List.drop_drop]
  · intro c t h'
    rw [← List.drop_drop] at h'
    exact past_stop _ c t h'
  · have := h.few
    rw [List.length_append, List.length_singleton]; omega
theorem ScanAt.bad {S : List UInt8} {acc : List Tok} {p n : Nat} (h : ScanAt S acc p) (hp : p < S.length) (hk : lexT (S.drop p) = (none, n)) (h4 : S.length ≤ 4096) : scanR S = ([], p + n, 70) := by
  unfold scanR
  rw [if_neg (by omega), h.out]
  cases hd : S.drop p with
  | nil => have := congrArg List.length hd; rw [List.length_drop] at this; simp at this; omega
  | cons c t =>
    rw [hd] at hk
    rw [scanT_bad (h.front c t hd) hk]; rfl
theorem ScanAt.fin {S : List UInt8} {acc : List Tok} {p : Nat} (h : ScanAt S acc p) (hp : ¬ p < S.length) (h4 : S.length ≤ 4096) : scanR S = (acc, 0, 0) := by
  unfold scanR
  rw [if_neg (by omega), h.out, List.drop_eq_nil_of_le (by omega), scanT_nil]
  simp [comb]
end Go.Proofs.YtinhlemebnlijaaDoor

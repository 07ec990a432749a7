/-
  PLAIN VALUES: depths, counted up a way and written down. No program stands in it.
-/
import Derived.Test.YtmjkcbhkmkofjaaP4
namespace Go.Proofs.Ytmjkcbhkmkofjaa
open Go Go.RowKit
set_option linter.unusedVariables false

def countF (tot : Int) : Nat → List Int → List Int → List Int
  | _, dl, [] => dl
  | i, dl, at_ :: r => countF tot (i + 1) (dl.set at_.toNat (tot - i)) r
theorem countF_len (tot : Int) : ∀ (r : List Int) (i : Nat) (dl : List Int), (countF tot i dl r).length = dl.length
  | [], _, _ => rfl
  | x :: r, i, dl => by rw [countF, countF_len tot r, List.length_set]
theorem countF_get (tot : Int) : ∀ (r : List Int) (i : Nat) (dl : List Int) (j : Nat), j < dl.length → (countF tot i dl r).getD j 0 = dl.getD j 0 ∨ ∃ (m : Nat) (x : Int), r[m]? = some x ∧ x.toNat = j ∧ (countF tot i dl r).getD j 0 = tot - (i + m : Nat)
  | [], _, _, _, _ => .inl rfl
  | x :: r, i, dl, j, hj => by
    rw [countF]
    rcases countF_get tot r (i + 1) (dl.set x.toNat (tot - i)) j (by rw [List.length_set]; exact hj) with h | ⟨m, y, h1, h2, h3⟩
    · by_cases e : x.toNat = j
      · right
        refine ⟨0, x, rfl, e, ?_⟩
        rw [h, getD_set (by omega), if_pos e]
        simp
      · left
        rw [h, List.getD_eq_getElem?_getD, List.getD_eq_getElem?_getD, List.getElem?_set, if_neg e]
    · right
      exact ⟨m + 1, y, by simpa using h1, h2, by rw [h3]; congr 1; omega⟩

/-- so many steps up -/
def up (a : List Int) : Nat → Int → Int
  | 0, x => x
  | m + 1, x => up a m (a.getD x.toNat (-1))
theorem up_succ (a : List Int) : ∀ (m : Nat) (x : Int), up a (m + 1) x = a.getD (up a m x).toNat (-1)
  | 0, x => rfl
  | m + 1, x => by rw [up, up_succ a m]; rfl
def chain (a : List Int) (i : Int) (L : Nat) : List Int := (List.range L).map fun m => up a m i
theorem chain_len (a : List Int) (i : Int) (L : Nat) : (chain a i L).length = L := by simp [chain]
theorem chain_get {a : List Int} {i : Int} {L m : Nat} {x : Int} (h : (chain a i L)[m]? = some x) : m < L ∧ x = up a m i := by
  simp only [chain, List.getElem?_map, List.getElem?_range'] at h
  by_cases hm : m < L
  · rw [List.getElem?_range hm] at h
    injection h with h
    exact ⟨hm, h.symm⟩
  · rw [List.getElem?_eq_none (by simp; omega)] at h
    cases h
theorem chain_snoc (a : List Int) (i : Int) (L : Nat) : chain a i (L + 1) = chain a i L ++ [up a L i] := by
  simp [chain, List.range_succ]

theorem lvl_step {a : List Int} {f : Nat} {x : Int} (h : x ≠ -1) : lvl a (f + 1) x = (lvl a f (a.getD x.toNat (-1))).map (· + 1) := by rw [lvl, if_neg h]
theorem lvl_end (a : List Int) (f : Nat) : lvl a f (-1) = some 0 := by cases f <;> simp [lvl]
theorem lvl_more {a : List Int} : ∀ {f d : Nat} {x : Int}, lvl a f x = some d → d ≤ f ∧ ∀ f', (d ≤ f' → lvl a f' x = some d) ∧ (f' < d → lvl a f' x = none)
  | f, d, x, h => by
    by_cases hx : x = -1
    · subst hx
      rw [lvl_end] at h
      injection h with h
      subst h
      exact ⟨Nat.zero_le _, fun f' => ⟨fun _ => lvl_end a f', fun h => absurd h (by omega)⟩⟩
    · match f, h with
      | 0, h => rw [lvl, if_neg hx] at h; cases h
      | f + 1, h =>
        rw [lvl_step hx] at h
        obtain ⟨d', h1, rfl⟩ := Option.map_eq_some_iff.1 h
        obtain ⟨g1, g2⟩ := lvl_more h1
        refine ⟨by omega, fun f' => ?_⟩
        match f' with
        | 0 => exact ⟨fun h => absurd h (by omega), fun _ => by rw [lvl, if_neg hx]⟩
        | f' + 1 =>
          rw [lvl_step hx]
          exact ⟨fun h => by rw [(g2 f').1 (by omega)]; rfl, fun h => by rw [(g2 f').2 (by omega)]; rfl⟩
/-- a way up of L nodes, then a node of which the depth is known -/
theorem lvl_chain {a : List Int} {d : Nat} : ∀ {L : Nat} {i : Int}, (∀ m, m < L → up a m i ≠ -1) → (∃ f, lvl a f (up a L i) = some d) → ∀ m, m ≤ L → ∀ f, (d + (L - m) ≤ f → lvl a f (up a m i) = some (d + (L - m))) ∧ (f < d + (L - m) → lvl a f (up a m i) = none)
  | 0, i, h, ⟨f0, h0⟩, m, hm, f => by
    obtain rfl : m = 0 := by omega
    have := (lvl_more h0).2 f
    simpa using this
  | L + 1, i, h, h0, m, hm, f => by
    match m, hm with
    | m + 1, hm =>
      have := lvl_chain (L := L) (i := a.getD i.toNat (-1)) (fun k hk => h (k + 1) (by omega)) h0 m (by omega) f
      rw [show L + 1 - (m + 1) = L - m from by omega]
      exact this
    | 0, hm =>
      have hi := h 0 (by omega)
      have hi : i ≠ -1 := hi
      have ih := lvl_chain (L := L) (i := a.getD i.toNat (-1)) (fun k hk => h (k + 1) (by omega)) h0 0 (by omega)
      simp only [Nat.sub_zero, up] at ih ⊢
      match f with
      | 0 => exact ⟨fun h => absurd h (by omega), fun _ => by rw [lvl, if_neg hi]⟩
      | f + 1 =>
        rw [lvl_step hi]
        exact ⟨fun h => by rw [(ih f).1 (by omega)]; rfl, fun h => by rw [(ih f).2 (by omega)]; rfl⟩
/-- a way up that is too long -/
theorem lvl_long {a : List Int} : ∀ {L : Nat} {i : Int}, (∀ m, m ≤ L → up a m i ≠ -1) → lvl a L i = none
  | 0, i, h => by
    have hi : i ≠ -1 := h 0 (by omega)
    rw [lvl, if_neg hi]
  | L + 1, i, h => by
    have hi : i ≠ -1 := h 0 (by omega)
    rw [lvl_step hi, lvl_long (fun m hm => h (m + 1) (by omega))]
    rfl

/-- the depths that are written down so far are right -/
def DInv (a dl : List Int) : Prop := dl.length = a.length ∧ ∀ j, j < a.length → ∃ d : Nat, dl.getD j 0 = d ∧ (d = 0 ∨ lvl a 64 j = some d)
theorem DInv.start (a : List Int) : DInv a (List.replicate a.length 0) :=
  ⟨by simp, fun j hj => ⟨0, by rw [List.getD_eq_getElem?_getD, List.getElem?_replicate, if_pos hj]; rfl, .inl rfl⟩⟩
theorem DInv.count {a dl : List Int} (h : DInv a dl) {i : Int} {L d : Nat} (hup : ∀ m, m < L → 0 ≤ up a m i) (hd : ∃ f, lvl a f (up a L i) = some d) (h64 : d + L ≤ 64) :
    DInv a (countF ((d : Int) + L) 0 dl (chain a i L)) := by
  refine ⟨by rw [countF_len]; exact h.1, fun j hj => ?_⟩
  rcases countF_get ((d : Int) + L) (chain a i L) 0 dl j (by rw [h.1]; exact hj) with e | ⟨m, x, h1, h2, h3⟩
  · obtain ⟨d', g1, g2⟩ := h.2 j hj
    exact ⟨d', by rw [e]; exact g1, g2⟩
  · obtain ⟨hm, rfl⟩ := chain_get h1
    refine ⟨d + (L - m), by rw [h3]; omega, .inr ?_⟩
    have hx := hup m hm
    have := (lvl_chain (fun k hk => by have := hup k hk; omega) hd m (by omega) 64).1 (by omega)
    rw [← this]
    congr 1
    omega
end Go.Proofs.Ytmjkcbhkmkofjaa

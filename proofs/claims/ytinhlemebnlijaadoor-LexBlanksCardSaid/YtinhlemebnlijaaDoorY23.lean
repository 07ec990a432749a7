/-
  PLAIN: the law LexBlanks' own loop: what is put between the tokens, and how far it has come. No program stands in it.
-/
import Derived.Test.YtinhlemebnlijaaDoorY21
namespace Go.Proofs.YtinhlemebnlijaaDoor
open Go
set_option linter.unusedVariables false
def blanksL (n : Nat) : List UInt8 := (List.range n).map fun k => if k % 2 = 0 then 32 else 10
theorem blanksL_succ (n : Nat) : blanksL (n + 1) = blanksL n ++ [if n % 2 = 0 then 32 else 10] := by unfold blanksL; rw [List.range_succ, List.map_append]; rfl
theorem blanksL_len (n : Nat) : (blanksL n).length = n := by simp [blanksL]
theorem blanksL_all (n : Nat) : (blanksL n).all blank = true := by
  rw [List.all_eq_true]
  intro c hc
  unfold blanksL at hc
  obtain ⟨k, _, rfl⟩ := List.mem_map.1 hc
  by_cases h : k % 2 = 0
  · simp only [h, if_true]; decide
  · simp only [h, if_false]; decide
def cntOf (l : List Int) (i : Nat) : Int := match l[i]? with | some z => z.tmod 8 | none => 0
theorem cntOf_le (l : List Int) (i : Nat) : -7 ≤ cntOf l i ∧ cntOf l i ≤ 7 := by
  unfold cntOf
  split
  · rename_i z _
    have := Int.tmod_lt_of_pos z (b := 8) (by omega)
    have := Int.lt_tmod_of_pos z (b := 8) (by omega)
    omega
  · omega
def moreB (l : List Int) (i : Nat) : List UInt8 := blanksL (cntOf l i).toNat
theorem moreB_all (l : List Int) (i : Nat) : (moreB l i).all blank = true := blanksL_all _
theorem moreB_len (l : List Int) (i : Nat) : (moreB l i).length ≤ 7 := by
  unfold moreB; rw [blanksL_len]; have := cntOf_le l i; omega
def Lay (S : List UInt8) (a : Nat) (l : List Tok) : Prop := ∃ e, a ≤ e ∧ Lies S e l
theorem Lies.count {S : List UInt8} : ∀ (l : List Tok) (a : Nat), Lies S a l → l.length + a ≤ S.length
  | [], a, h => by simpa using h.le
  | k :: l, a, h => by
    obtain ⟨q, n, k0, rfl, h1, h2, h3, h4, h5, h6⟩ := h.head
    have := Lies.count l (q + n) h6
    rw [List.length_cons]
    omega
theorem outL_len {b : Nat → List UInt8} (hb : ∀ i, (b i).length ≤ 7) {S : List UInt8} : ∀ (l : List Tok) (a i : Nat), Lies S a l → (outL b S a l i).length ≤ (S.length - a) * 8 + 7
  | [], a, i, h => by
    simp only [outL, List.length_append, List.length_drop]
    have := hb i
    omega
  | k :: l, a, i, h => by
    obtain ⟨q, n, k0, rfl, h1, h2, h3, h4, h5, h6⟩ := h.head
    simp only [outL, place_at]
    rw [outL_tok h3 h6]
    have := outL_len hb l (q + n) (i + 1) h6
    have := hb i
    simp only [List.length_append, List.length_take, List.length_drop]
    omega
/-- before the round i, what was gathered from the text up to a -/
def BlankAt (b : Nat → List UInt8) (S T : List UInt8) (l : List Tok) (i a : Nat) (out : List UInt8) : Prop :=
  (i ≤ l.length ∧ Lay S a (l.drop i) ∧ out ++ outL b S a (l.drop i) i = T) ∨ (i = l.length + 1 ∧ out = T)
theorem BlankAt.start {b : Nat → List UInt8} {S : List UInt8} {l : List Tok} (h : scanT 0 S = (some l, 0)) : BlankAt b S (outL b S 0 l 0) l 0 0 [] :=
  .inl ⟨Nat.zero_le _, ⟨0, Nat.le_refl _, ⟨Nat.zero_le _, by simpa using h⟩⟩, by simp⟩
theorem BlankAt.turn {b : Nat → List UInt8} {S T : List UInt8} {l : List Tok} {i a : Nat} {out : List UInt8} (h : BlankAt b S T l i a out) (hi : i ≤ l.length) :
    ∃ q, a ≤ q ∧ q ≤ S.length ∧ (i < l.length → ∃ k, l[i]? = some k ∧ k.place = (q : Int)) ∧ (¬ i < l.length → q = S.length) ∧
      BlankAt b S T l (i + 1) q (out ++ (S.drop a).take (q - a) ++ b i) ∧ out.length + (q - a) + (b i).length ≤ T.length := by
  obtain ⟨_, ⟨e, he, hL⟩, ho⟩ := h.resolve_right fun h => absurd h.1 (by omega)
  by_cases hlt : i < l.length
  · have hd : l.drop i = l[i] :: l.drop (i + 1) := List.drop_eq_getElem_cons hlt
    rw [hd] at hL ho
    obtain ⟨q, n, k0, hk, h1, h2, h3, h4, h5, h6⟩ := hL.head
    have hq : l[i].place = (q : Int) := by rw [hk]; rfl
    have hqn : l[i].place.toNat = q := by rw [hq]; rfl
    have ho' : out ++ (S.drop a).take (q - a) ++ b i ++ outL b S q (l.drop (i + 1)) (i + 1) = T := by
      rw [← ho]; simp only [outL, hqn, List.append_assoc]
    refine ⟨q, by omega, by omega, fun _ => ⟨l[i], List.getElem?_eq_getElem hlt, hq⟩, fun h => absurd hlt h, .inl ⟨by omega, ⟨q + n, by omega, h6⟩, ho'⟩, ?_⟩
    have := congrArg List.length ho'
    simp only [List.length_append, List.length_take, List.length_drop] at this
    omega
  · have hn : i = l.length := by omega
    have hd : l.drop i = [] := List.drop_eq_nil_of_le (by omega)
    rw [hd] at ho
    have hle := hL.le
    have ht : (S.drop a).take (S.length - a) = S.drop a := List.take_of_length_le (by rw [List.length_drop]; exact Nat.le_refl _)
    have ho' : out ++ (S.drop a).take (S.length - a) ++ b i = T := by
      rw [← ho, ht]; simp only [outL, List.append_assoc]
    refine ⟨S.length, by omega, Nat.le_refl _, fun h => absurd h hlt, fun _ => rfl, .inr ⟨by omega, ho'⟩, ?_⟩
    have := congrArg List.length ho'
    simp only [List.length_append, List.length_take, List.length_drop] at this
    omega
theorem BlankAt.fin {b : Nat → List UInt8} {S T : List UInt8} {l : List Tok} {i a : Nat} {out : List UInt8} (h : BlankAt b S T l i a out) (hi : ¬ i ≤ l.length) : out = T := by
  rcases h with ⟨h, _⟩ | ⟨_, h⟩
  · exact absurd h hi
  · exact h
theorem BlankAt.top {b : Nat → List UInt8} {S T : List UInt8} {l : List Tok} {i a : Nat} {out : List UInt8} (h : BlankAt b S T l i a out) : i ≤ l.length + 1 := by
  rcases h with ⟨h, _⟩ | ⟨h, _⟩ <;> omega
/-- the text with more blanks in it: as long as it may be, and its tokens -/
theorem blanks_text (more : List Int) {S : List UInt8} {l : List Tok} (h : scanT 0 S = (some l, 0)) (h4 : S.length ≤ 4096) :
    l.length ≤ 4096 ∧ ∃ T, BlankAt (moreB more) S T l 0 0 [] ∧ T.length ≤ 40000 ∧ (T.length ≤ 4096 → ∃ m, scanR T = (m, 0, 0) ∧ AlikeL l m) := by
  have hL : Lies S 0 l := ⟨Nat.zero_le _, by simpa using h⟩
  refine ⟨by have := Lies.count l 0 hL; omega, _, BlankAt.start h, ?_, fun h' => ?_⟩
  · have := outL_len (b := moreB more) (moreB_len more) l 0 0 hL
    omega
  · obtain ⟨m, hm, ha⟩ := outL_scan (b := moreB more) (moreB_all more) l 0 0 0 hL
    refine ⟨m, ?_, ha⟩
    unfold scanR
    rw [if_neg (by omega), hm]
end Go.Proofs.YtinhlemebnlijaaDoor

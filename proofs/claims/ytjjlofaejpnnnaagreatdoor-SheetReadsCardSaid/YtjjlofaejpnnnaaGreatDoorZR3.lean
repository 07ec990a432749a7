/-
  PLAIN VALUES: when nodes are a right model. No program stands in it.
  PLAIN VALUES: a model is right, told in two ways; they are the same. No program stands in it.
  PLAIN VALUES: the two ways of telling that a model is right come to the same. No program stands in it.
  WALKS: Word, of the program and of the document.
  WALKS: the document's Word.
  WALKS: the place of a number among the nodes: At of the document.
  WALKS: the place of a number among the nodes: index, has, node of the program.
  WALKS: spelt of the program.
  WALKS: joined of the program.
-/
import Derived.Test.YtjjlofaejpnnnaaGreatDoorZR2
import Derived.Laws.Strings
import Derived.Test.YtjjlofaejpnnnaaGreatDoorRows
import Derived.WalkSpells
import Derived.WalkLawsBesides
import Derived.Test.YtjjlofaejpnnnaaGreatDoorShelf
import Derived.Deep.QuietTactic
import Derived.BigQuiet
import Derived.Deep.OwnRows
namespace Go.Proofs.YtjjlofaejpnnnaaGreatDoor
open Go Go.RowKit
set_option linter.unusedVariables false
def ltS (a b : ByteArray) : Bool := Op.bytesLess a.toList b.toList
theorem less_irrefl (a : List UInt8) : Op.bytesLess a a = false := by
  induction a with
  | nil => rfl
  | cons c r ih =>
    simp only [Op.bytesLess, ih, Bool.and_false, Bool.or_false, decide_eq_false_iff_not]
    exact UInt8.lt_irrefl c
theorem less_trans : ∀ {a b c : List UInt8}, Op.bytesLess a b = true → Op.bytesLess b c = true → Op.bytesLess a c = true
  | _, [], _, h, _ => by cases ‹List UInt8› <;> simp [Op.bytesLess] at h
  | _, _ :: _, [], _, h => by simp [Op.bytesLess] at h
  | [], _ :: _, _ :: _, _, _ => rfl
  | x :: a, y :: b, z :: c, h, k => by
    simp only [Op.bytesLess, Bool.or_eq_true, decide_eq_true_eq, Bool.and_eq_true, beq_iff_eq] at h k ⊢
    rcases h with h | ⟨rfl, h⟩
    · rcases k with k | ⟨rfl, k⟩
      · exact .inl (UInt8.lt_trans h k)
      · exact .inl h
    · rcases k with k | ⟨rfl, k⟩
      · exact .inl k
      · exact .inr ⟨rfl, less_trans h k⟩
theorem less_tri : ∀ (a b : List UInt8), Op.bytesLess a b = true ∨ a = b ∨ Op.bytesLess b a = true
  | [], [] => .inr (.inl rfl)
  | [], _ :: _ => .inl rfl
  | _ :: _, [] => .inr (.inr rfl)
  | x :: a, y :: b => by
    simp only [Op.bytesLess, Bool.or_eq_true, decide_eq_true_eq, Bool.and_eq_true, beq_iff_eq, List.cons.injEq]
    by_cases h : x < y
    · exact .inl (.inl h)
    · by_cases h' : y < x
      · exact .inr (.inr (.inl h'))
      · have e : x = y := UInt8.le_antisymm (UInt8.not_lt.1 h') (UInt8.not_lt.1 h)
        subst e
        rcases less_tri a b with k | k | k
        · exact .inl (.inr ⟨rfl, k⟩)
        · exact .inr (.inl ⟨rfl, k⟩)
        · exact .inr (.inr (.inr ⟨rfl, k⟩))
theorem less_asymm {a b : List UInt8} (h : Op.bytesLess a b = true) : Op.bytesLess b a = false := by
  cases k : Op.bytesLess b a with
  | false => rfl
  | true => have := less_trans h k; rw [less_irrefl] at this; cases this
theorem leq_not (a b : List UInt8) : (Op.bytesLess a b || a == b) = !Op.bytesLess b a := by
  rcases less_tri a b with h | rfl | h
  · rw [h, less_asymm h]; rfl
  · rw [less_irrefl]; simp
  · rw [h, less_asymm h]
    have : (a == b) = false := by rw [beq_eq_false_iff_ne]; rintro rfl; rw [less_irrefl] at h; cases h
    rw [this]; rfl
theorem toList_data (s : ByteArray) : s.toList = s.data.toList := Lib.toList_data s
def aboveB (q : Option ByteArray) (s : ByteArray) : Bool := match q with | none => true | some q => ltS q s
def propsB : Option ByteArray → List (ByteArray × ByteArray) → Bool
  | _, [] => true
  | q, p :: r => wordB p.1 && decide (p.2.size ≤ 4096) && aboveB q p.1 && propsB (some p.1) r
def refsB (next : Int) : Option ByteArray → List (ByteArray × Int) → Bool
  | _, [] => true
  | q, p :: r => wordB p.1 && decide (1 ≤ p.2) && decide (p.2 < next) && aboveB q p.1 && refsB next (some p.1) r
def idsB (next : Int) : Int → List Nd → Bool
  | _, [] => true
  | last, nd :: r => decide (last < nd.id) && decide (nd.id < next) && idsB next nd.id r
/-- the place of the node with that number -/
def ixOf (nds : List Nd) (id : Int) : Option Nat := nds.findIdx? (fun n => n.id == id)
/-- the numbers rise, from above 0 on -/
structure Rise (nds : List Nd) : Prop where
  pos : ∀ (i : Nat) nd, nds[i]? = some nd → 1 ≤ nd.id
  lt : ∀ (i j : Nat) a b, i < j → nds[i]? = some a → nds[j]? = some b → a.id < b.id
theorem idsB_rise {next : Int} : ∀ {last : Int} {nds : List Nd}, 0 ≤ last → idsB next last nds = true → (∀ (i : Nat) nd, nds[i]? = some nd → last < nd.id ∧ nd.id < next) ∧ (∀ (i j : Nat) a b, i < j → nds[i]? = some a → nds[j]? = some b → a.id < b.id)
  | _, [], _, _ => ⟨fun i nd h => by simp at h, fun i j a b _ h => by simp at h⟩
  | last, x :: r, h0, h => by
    simp only [idsB, Bool.and_eq_true, decide_eq_true_eq] at h
    obtain ⟨⟨h1, h2⟩, h3⟩ := h
    have ih := idsB_rise (by omega) h3
    refine ⟨fun i nd hi => ?_, fun i j a b hij ha hb => ?_⟩
    · match i, hi with
      | 0, hi => obtain rfl : x = nd := by simpa using hi
                 exact ⟨h1, h2⟩
      | i + 1, hi => have := ih.1 i nd (by simpa using hi); omega
    · match i, j, ha, hb with
      | _, 0, _, _ => omega
      | 0, j + 1, ha, hb =>
        obtain rfl : x = a := by simpa using ha
        exact (ih.1 j b (by simpa using hb)).1
      | i + 1, j + 1, ha, hb => exact ih.2 i j a b (by omega) (by simpa using ha) (by simpa using hb)
theorem Rise.of {next : Int} {nds : List Nd} (h : idsB next 0 nds = true) : Rise nds :=
  ⟨fun i nd hi => by have := ((idsB_rise (by omega) h).1 i nd hi).1; omega, (idsB_rise (by omega) h).2⟩
theorem Rise.inj {nds : List Nd} (h : Rise nds) {i j : Nat} {a b : Nd} (ha : nds[i]? = some a) (hb : nds[j]? = some b) (e : a.id = b.id) : i = j := by
  rcases Nat.lt_trichotomy i j with k | k | k
  · have := h.lt i j a b k ha hb; omega
  · exact k
  · have := h.lt j i b a k hb ha; omega
theorem ixOf_some {nds : List Nd} {id : Int} {i : Nat} (h : ixOf nds id = some i) : ∃ nd, nds[i]? = some nd ∧ nd.id = id := by
  obtain ⟨hl, hp, _⟩ := List.findIdx?_eq_some_iff_getElem.1 h
  exact ⟨nds[i], List.getElem?_eq_getElem hl, by simpa using hp⟩
theorem ixOf_none {nds : List Nd} {id : Int} (h : ixOf nds id = none) : ∀ (i : Nat) nd, nds[i]? = some nd → nd.id ≠ id := by
  intro i nd hi
  have := List.findIdx?_eq_none_iff.1 h nd (List.mem_of_getElem? hi)
  simpa using this
theorem ixOf_is {nds : List Nd} (h : Rise nds) {id : Int} {i : Nat} {nd : Nd} (hi : nds[i]? = some nd) (e : nd.id = id) : ixOf nds id = some i := by
  cases hx : ixOf nds id with
  | none => exact absurd e (ixOf_none hx i nd hi)
  | some j =>
    obtain ⟨nd', hj, e'⟩ := ixOf_some hx
    rw [h.inj hj hi (by omega)]
theorem ixOf_no {nds : List Nd} {id : Int} (h : ∀ (i : Nat) nd, nds[i]? = some nd → nd.id ≠ id) : ixOf nds id = none := by
  cases hx : ixOf nds id with
  | none => rfl
  | some j => obtain ⟨nd', hj, e'⟩ := ixOf_some hx; exact absurd e' (h j nd' hj)
/-- what a search by halves comes to -/
theorem ixOf_at {nds : List Nd} (h : Rise nds) {id : Int} {k : Nat} (hb : ∀ (i : Nat) nd, i < k → nds[i]? = some nd → nd.id < id) (ha : ∀ (i : Nat) nd, k ≤ i → nds[i]? = some nd → id ≤ nd.id) :
    ixOf nds id = match nds[k]? with | some nd => if nd.id = id then some k else none | none => none := by
  cases hk : nds[k]? with
  | none =>
    refine ixOf_no fun i nd hi e => ?_
    by_cases hik : i < k
    · have := hb i nd hik hi; omega
    · have hl : i < nds.length := (List.getElem?_eq_some_iff.1 hi).1
      have := List.getElem?_eq_none_iff.1 hk
      omega
  | some nd =>
    simp only
    by_cases e : nd.id = id
    · rw [if_pos e]; exact ixOf_is h hk e
    · rw [if_neg e]
      refine ixOf_no fun i nd' hi e' => ?_
      rcases Nat.lt_trichotomy i k with g | rfl | g
      · have := hb i nd' g hi; omega
      · rw [hk] at hi; injection hi with hi; subst hi; exact e e'
      · have := h.lt k i nd nd' g hk hi
        have := ha k nd (Nat.le_refl _) hk
        omega
end Go.Proofs.YtjjlofaejpnnnaaGreatDoor
namespace Go.Proofs.YtjjlofaejpnnnaaGreatDoor
open Go Go.RowKit
set_option linter.unusedVariables false
def ndOf (nds : List Nd) (id : Int) : Option Nd := (ixOf nds id).bind (nds[·]?)
def kidsB (nds : List Nd) (id : Int) : List Int → List Int → Bool
  | _, [] => true
  | seen, k :: r => (match ndOf nds k with | none => false | some nd => nd.par == id) && !seen.contains k && kidsB nds id (k :: seen) r
def plainB (next : Int) (nds : List Nd) (nd : Nd) : Bool :=
  wordB nd.con && decide (nd.kids.length ≤ nds.length) && propsB none nd.props && refsB next none nd.refs && kidsB nds nd.id [] nd.kids
def belowB (nds : List Nd) : Nat → Nd → Bool
  | 0, _ => false
  | f + 1, n => if n.par = 0 then n.role.toList.isEmpty else
    match ndOf nds n.par with
    | none => false
    | some p => wordB n.role && p.kids.contains n.id && belowB nds f p
/-- how many nodes deep, if no deeper than that -/
def lvl (a : List Int) : Nat → Int → Option Nat
  | 0, i => if i = -1 then some 0 else none
  | f + 1, i => if i = -1 then some 0 else (lvl a f (a.getD i.toNat (-1))).map (· + 1)
theorem ixOf_inj {nds : List Nd} {k k' : Int} {j : Nat} (h : ixOf nds k = some j) (h' : ixOf nds k' = some j) : k = k' := by
  obtain ⟨a, ha, e⟩ := ixOf_some h
  obtain ⟨b, hb, e'⟩ := ixOf_some h'
  rw [ha] at hb
  injection hb with hb
  subst hb
  omega
theorem getD_set {a : List Int} {j m : Nat} {x d : Int} (hj : j < a.length) : (a.set j x).getD m d = if j = m then x else a.getD m d := by
  rw [List.getD_eq_getElem?_getD, List.getD_eq_getElem?_getD, List.getElem?_set]
  by_cases e : j = m
  · subst e; simp [hj]
  · simp [e]
end Go.Proofs.YtjjlofaejpnnnaaGreatDoor
namespace Go.Proofs.YtjjlofaejpnnnaaGreatDoor
open Go Go.RowKit
set_option linter.unusedVariables false
theorem ndOf_some {nds : List Nd} {id : Int} {nd : Nd} (h : ndOf nds id = some nd) : ∃ i, ixOf nds id = some i ∧ nds[i]? = some nd ∧ nd.id = id := by
  unfold ndOf at h
  cases hi : ixOf nds id with
  | none => rw [hi] at h; cases h
  | some i =>
    rw [hi] at h
    obtain ⟨nd', h1, h2⟩ := ixOf_some hi
    have h : nds[i]? = some nd := h
    rw [h1] at h
    injection h with h
    subst h
    exact ⟨i, rfl, h1, h2⟩
theorem ndOf_is {nds : List Nd} (hr : Rise nds) {i : Nat} {nd : Nd} (h : nds[i]? = some nd) : ndOf nds nd.id = some nd := by
  unfold ndOf; rw [ixOf_is hr h rfl]; exact h
theorem kidsB_spec {nds : List Nd} {id : Int} : ∀ {ks seen : List Int}, kidsB nds id seen ks = true ↔ (∀ k ∈ ks, (∃ nd, ndOf nds k = some nd ∧ nd.par = id) ∧ k ∉ seen) ∧ ks.Nodup
  | [], seen => by simp [kidsB]
  | k :: r, seen => by
    simp only [kidsB, Bool.and_eq_true]
    rw [kidsB_spec]
    constructor
    · rintro ⟨⟨h1, h2⟩, h3, h4⟩
      have hk : k ∉ seen := by simpa using h2
      refine ⟨fun x hx => ?_, ?_⟩
      · rcases List.mem_cons.1 hx with rfl | hx
        · refine ⟨?_, hk⟩
          cases hn : ndOf nds x with
          | none => rw [hn] at h1; cases h1
          | some nd => rw [hn] at h1; exact ⟨nd, rfl, by simpa using h1⟩
        · have := h3 x hx
          exact ⟨this.1, fun hs => this.2 (List.mem_cons_of_mem _ hs)⟩
      · rw [List.nodup_cons]
        exact ⟨fun hm => (h3 k hm).2 (List.mem_cons_self ..), h4⟩
    · rintro ⟨h1, h2⟩
      rw [List.nodup_cons] at h2
      obtain ⟨⟨nd, hn, hp⟩, hk⟩ := h1 k (List.mem_cons_self ..)
      refine ⟨⟨by rw [hn]; simpa using hp, by simpa using hk⟩, fun x hx => ⟨(h1 x (List.mem_cons_of_mem _ hx)).1, fun hs => ?_⟩, h2.2⟩
      rcases List.mem_cons.1 hs with rfl | hs
      · exact h2.1 hx
      · exact (h1 x (List.mem_cons_of_mem _ hx)).2 hs
end Go.Proofs.YtjjlofaejpnnnaaGreatDoor
namespace Go.Proofs.YtjjlofaejpnnnaaGreatDoor
open Go Go.RowKit
set_option linter.unusedVariables false
/-- a yes or no, the world as it was -/
def Says (w : World) (b : Bool) (e : Ending) (w' : World) : Prop := e = .returned (.bool b) ∧ w = w'
set_option maxHeartbeats 400000 in
theorem letter_any (n : Int) (w : World) : Calls Tryz.prog 98 #[.int .u8 n] w (Says w (letB n)) := by
  go_enter Tryz.func98, Tryz.ntmps98
  go_wp2
  all_goals go_ret
  all_goals refine ⟨ret_bool ?_, rfl⟩
  all_goals (unfold letB; first | (simp [*]; done) | (simp; omega) | (rw [Bool.eq_iff_iff]; simp; omega) | (rw [Bool.eq_iff_iff]; simp [*]; omega))
/-- a text without a sign of the workbench's own ahead of it -/
def strip (s : ByteArray) : ByteArray := if h : 0 < s.size then (if s[0].toNat = 63 then s.extract 1 s.size else s) else s
theorem strip_word (s : ByteArray) : wordB s = nameL (strip s).data.toList := by
  unfold strip
  by_cases h : 0 < s.size
  · rw [dif_pos h]
    by_cases hc : s[0].toNat = 63
    · rw [if_pos hc]; exact word_q s h hc
    · rw [if_neg hc]; exact word_p s (fun _ => hc)
  · rw [dif_neg h]; exact word_p s (fun h' => absurd h' h)
theorem strip_le (s : ByteArray) : (strip s).size ≤ s.size := by
  unfold strip
  split
  · split
    · have := behind1_size s ‹_›; omega
    · exact Nat.le_refl _
  · exact Nat.le_refl _
theorem trim_strip (s : ByteArray) : (⟨(Lib.trimPrefix s.data.toList [63]).toArray⟩ : ByteArray) = strip s := by
  apply ByteArray.ext
  unfold Lib.trimPrefix Lib.hasPrefix strip
  by_cases h : 0 < s.size
  · have e : s.data.toList = s[0] :: s.data.toList.drop 1 := by have := drop_get' s 0 h; simpa using this
    rw [dif_pos h]
    by_cases hc : s[0].toNat = 63
    · have e63 : s[0] = 63 := UInt8.toNat_inj.1 hc
      rw [if_pos hc, if_pos (by rw [e, e63]; simp [List.isPrefixOf])]
      apply Array.toList_inj.1
      rw [behind1]
      simp
    · have e63 : ¬ s[0] = 63 := fun e => hc (by rw [e]; rfl)
      rw [if_neg hc, if_neg (by rw [e]; simp only [List.isPrefixOf, Bool.and_eq_true, beq_iff_eq]; exact fun h => e63 h.1.symm)]
  · have h0 : s.data.toList = [] := List.length_eq_zero_iff.1 (by rw [toList_eq]; omega)
    rw [dif_neg h, if_neg (by rw [h0]; simp [List.isPrefixOf])]
theorem trim_q (s : ByteArray) (w : World) : Calls Tryz.prog 97 #[.string s, .string ⟨#[63]⟩] w fun e w' => e = .returned (.string (strip s)) ∧ w = w' := by
  refine (Tryz.strings_TrimPrefix s ⟨#[63]⟩ w).mono ?_
  rintro e w' ⟨rfl, rfl⟩
  exact ⟨by rw [← trim_strip s], rfl⟩
set_option maxHeartbeats 800000 in
theorem name_walk (s x : ByteArray) (w : World) (hx : strip s = x) (hs : x.size ≤ maxLen) : Calls Tryz.prog 64 #[.string s] w (Says w (nameL x.data.toList)) := by
  unfold maxLen at hs
  have HX := Lib.hid hx
  clear hx
  by_cases h0 : 0 < x.size
  · have hR := name_eq x h0
    have d0 : ((x.size : Int) == 0) = false := by rw [beq_eq_false_iff_ne]; omega
    by_cases h1 : x.size ≤ 32
    · have d1 : decide ((32 : Int) < (x.size : Int)) = false := by simp; omega
      cases hl : letB (x[0].toNat : Int) with
      | false =>
        have H := Lib.hid hl
        have HR : Hid (nameL x.data.toList = false) := Lib.hid (by rw [hR, hl]; simp)
        clear hR hl
        go_enter Tryz.func64, Tryz.ntmps64
        go_wp2_with (first | (go_at_call 97; refine (trim_q _ _).mono ?_; rintro e w' ⟨rfl, rfl⟩; rw [HX.out]) | (go_at_call 98; refine (letter_any _ _).mono ?_; rintro e w' ⟨rfl, rfl⟩; rw [H.out]))
        go_ret
        exact ⟨ret_bool HR.out.symm, rfl⟩
      | true =>
        have H := Lib.hid hl
        have HR : Hid (nameL x.data.toList = (x.data.toList.drop 1).all innC) := Lib.hid (by rw [hR, hl]; simp [h1])
        clear hR hl
        go_enter Tryz.func64, Tryz.ntmps64
        go_wp2_with (first | (go_at_call 97; refine (trim_q _ _).mono ?_; rintro e w' ⟨rfl, rfl⟩; rw [HX.out]) | (go_at_call 98; refine (letter_any _ _).mono ?_; rintro e w' ⟨rfl, rfl⟩; rw [H.out]))
        go_loop [3] (fun i => ∃ k : Nat, 1 ≤ k ∧ k ≤ x.size ∧ i = .int .i64 k ∧ Hid (nameL x.data.toList = (x.data.toList.drop k).all innC)) (fun i => x.size - (intOf i).toNat)
        case atStart => exact ⟨1, by omega, by omega, rfl, HR⟩
        case round =>
          obtain ⟨k, hk1, hk, rfl, HK⟩ := hrel
          by_cases hlt : k < x.size
          · cases hn : letB (x[k].toNat : Int) with
            | true =>
              have HN := Lib.hid hn
              have HY : Hid (nameL x.data.toList = (x.data.toList.drop (k + 1)).all innC) := Lib.hid (by rw [HK.out, drop_get' x k hlt, List.all_cons]; simp [innC, innB, hn])
              clear hn
              go_wp2_with (go_at_call 98; refine (letter_any _ _).mono ?_; rintro e w' ⟨rfl, rfl⟩; rw [HN.out])
              go_round
              case rel => exact ⟨k + 1, by omega, by omega, by go_num, HY⟩
              case measure => simp [intOf]; omega
            | false =>
              have HN := Lib.hid hn
              have HY : Hid (nameL x.data.toList = ((decide (48 ≤ (x[k].toNat : Int) ∧ (x[k].toNat : Int) ≤ 57) || (x[k].toNat : Int) == 95) && (x.data.toList.drop (k + 1)).all innC)) := Lib.hid (by rw [HK.out, drop_get' x k hlt, List.all_cons]; simp [innC, innB, hn])
              clear hn
              by_cases h48 : (x[k].toNat : Int) < 48
              · by_cases h95 : (x[k].toNat : Int) = 95
                · omega
                · have d95 : ((x[k].toNat : Int) == 95) = false := by rw [beq_eq_false_iff_ne]; exact h95
                  have HZ : Hid (nameL x.data.toList = false) := Lib.hid (by rw [HY.out, d95, decide_eq_false (by omega)]; rfl)
                  go_wp2_with (go_at_call 98; refine (letter_any _ _).mono ?_; rintro e w' ⟨rfl, rfl⟩; rw [HN.out])
                  go_ret
                  exact ⟨ret_bool HZ.out.symm, rfl⟩
              · have d48 : decide ((x[k].toNat : Int) < 48) = false := by simp; omega
                by_cases h57 : (x[k].toNat : Int) ≤ 57
                · have d57 : decide ((57 : Int) < (x[k].toNat : Int)) = false := by simp; omega
                  have HZ : Hid (nameL x.data.toList = (x.data.toList.drop (k + 1)).all innC) := Lib.hid (by rw [HY.out, decide_eq_true (by omega)]; rfl)
                  go_wp2_with (go_at_call 98; refine (letter_any _ _).mono ?_; rintro e w' ⟨rfl, rfl⟩; rw [HN.out])
                  go_round
                  case rel => exact ⟨k + 1, by omega, by omega, by go_num, HZ⟩
                  case measure => simp [intOf]; omega
                · have d57 : decide ((57 : Int) < (x[k].toNat : Int)) = true := by simp; omega
                  by_cases h95 : (x[k].toNat : Int) = 95
                  · have d95 : ((x[k].toNat : Int) == 95) = true := by rw [beq_iff_eq]; exact h95
                    have HZ : Hid (nameL x.data.toList = (x.data.toList.drop (k + 1)).all innC) := Lib.hid (by rw [HY.out, d95]; simp)
                    clear h95
                    go_wp2_with (go_at_call 98; refine (letter_any _ _).mono ?_; rintro e w' ⟨rfl, rfl⟩; rw [HN.out])
                    go_round
                    case rel => exact ⟨k + 1, by omega, by omega, by go_num, HZ⟩
                    case measure => simp [intOf]; omega
                  · have d95 : ((x[k].toNat : Int) == 95) = false := by rw [beq_eq_false_iff_ne]; exact h95
                    have HZ : Hid (nameL x.data.toList = false) := Lib.hid (by rw [HY.out, d95, decide_eq_false (by omega)]; rfl)
                    go_wp2_with (go_at_call 98; refine (letter_any _ _).mono ?_; rintro e w' ⟨rfl, rfl⟩; rw [HN.out])
                    go_ret
                    exact ⟨ret_bool HZ.out.symm, rfl⟩
          · have HY : Hid (nameL x.data.toList = true) := Lib.hid (by rw [HK.out, drop_nil' x k hlt]; rfl)
            go_wp2
            go_ret
            exact ⟨ret_bool HY.out.symm, rfl⟩
    · have d1 : decide ((32 : Int) < (x.size : Int)) = true := by simp; omega
      have HR : Hid (nameL x.data.toList = false) := Lib.hid (by rw [hR]; simp [h1])
      clear hR
      go_enter Tryz.func64, Tryz.ntmps64
      go_wp2_with (go_at_call 97; refine (trim_q _ _).mono ?_; rintro e w' ⟨rfl, rfl⟩; rw [HX.out])
      go_ret
      exact ⟨ret_bool HR.out.symm, rfl⟩
  · have HR : Hid (nameL x.data.toList = false) := Lib.hid (name_nil x h0)
    have d0 : ((x.size : Int) == 0) = true := by rw [beq_iff_eq]; omega
    go_enter Tryz.func64, Tryz.ntmps64
    go_wp2_with (go_at_call 97; refine (trim_q _ _).mono ?_; rintro e w' ⟨rfl, rfl⟩; rw [HX.out])
    go_ret
    exact ⟨ret_bool HR.out.symm, rfl⟩
theorem word_any (s : ByteArray) (w : World) (hs : s.size ≤ maxLen) : Calls Tryz.prog 64 #[.string s] w (Says w (wordB s)) := by
  rw [strip_word]
  exact name_walk s _ w rfl (Nat.le_trans (strip_le s) hs)
end Go.Proofs.YtjjlofaejpnnnaaGreatDoor
namespace Go.Proofs.YtjjlofaejpnnnaaGreatDoor
open Go Go.RowKit
set_option linter.unusedVariables false
theorem all_drop0 (x : ByteArray) (h : 0 < x.size) (hl : letB (x[0].toNat : Int) = true) (hs : x.size ≤ 32) : nameL x.data.toList = (x.data.toList.drop 1).all innC := by
  rw [name_eq x h, hl]; simp [hs]
theorem name_no0 (x : ByteArray) (h : 0 < x.size) (hl : letB (x[0].toNat : Int) = false) : nameL x.data.toList = false := by
  rw [name_eq x h, hl]; simp
def RefRel (x : ByteArray) (i : Value) : Prop := ∃ k : Nat, k ≤ x.size ∧ i = .int .i64 k ∧ (0 < k → Hid (nameL x.data.toList = (x.data.toList.drop k).all innC))
theorem let_parts {n : Int} (h : letB n = true) : (97 ≤ n ∧ n ≤ 122) ∨ (decide (97 ≤ n) = false ∧ 65 ≤ n ∧ n ≤ 90) := by
  have : (97 ≤ n ∧ n ≤ 122) ∨ (n < 97 ∧ 65 ≤ n ∧ n ≤ 90) := by unfold letB at h; simp at h; omega
  rcases this with g | g
  · exact .inl g
  · exact .inr ⟨by simp; omega, g.2⟩
theorem let_not {n : Int} (h : letB n = false) : (n < 65 ∧ decide (97 ≤ n) = false ∧ decide (65 ≤ n) = false) ∨ (90 < n ∧ n < 97 ∧ decide (97 ≤ n) = false ∧ decide (n ≤ 90) = false) ∨ (122 < n ∧ decide (n ≤ 122) = false ∧ decide (n ≤ 90) = false) := by
  have : n < 65 ∨ (90 < n ∧ n < 97) ∨ 122 < n := by unfold letB at h; simp at h; omega
  rcases this with g | g | g
  · exact .inl ⟨g, by simp; omega, by simp; omega⟩
  · exact .inr (.inl ⟨g.1, g.2, by simp; omega, by simp; omega⟩)
  · exact .inr (.inr ⟨g, by simp; omega, by simp; omega⟩)
set_option maxHeartbeats 1600000 in
theorem refWord_q (w : World) (s x : ByteArray) (hs : s.size ≤ 9223372036854775807) (h : 0 < s.size) (hc : s[0].toNat = 63) (hx : s.extract 1 s.size = x) (hb : x.size ≤ 9223372036854775807) (h1 : 0 < x.size) (hsz : x.size ≤ 32) : Calls Tryz.prog 52 #[.string s] w (Says w (nameL x.data.toList)) := by
  have d63 : ((s[0].toNat : Int) == 63) = true := by rw [beq_iff_eq]; omega
  have hp : (0 : Int) < (s.size : Int) := by omega
  have hss : s.size - 1 = x.size := by have := behind1_size s h; rw [hx] at this; omega
  have d1 : decide ((x.size : Int) < 1) = false := by simp; omega
  have d2 : decide ((32 : Int) < (x.size : Int)) = false := by simp; omega
  · go_enter Tryz.func52, Tryz.ntmps52
    go_wp2_with fail
    go_loop [3] (fun i => RefRel x i) (fun i => x.size - (intOf i).toNat)
    case atStart => exact ⟨0, by omega, rfl, fun h => absurd h (by omega)⟩
    case round =>
      obtain ⟨k, hk, rfl, HK⟩ := hrel
      by_cases hlt : k < x.size
      · cases hl : letB (x[k].toNat : Int) with
        | true =>
          have HY : Hid (nameL x.data.toList = (x.data.toList.drop (k + 1)).all innC) := Lib.hid (by
            by_cases h0 : k = 0
            · subst h0; exact all_drop0 x hlt hl hsz
            · rw [(HK (by omega)).out, drop_get' x k hlt, List.all_cons]; simp [innC, innB, hl])
          have hp := let_parts hl
          clear hl HK
          rcases hp with hp | hp
          all_goals
            obtain ⟨g1, g2⟩ := hp
            go_wp2_with fail
            go_round
            case rel => exact ⟨k + 1, by omega, by go_num, fun _ => HY⟩
            case measure => simp [intOf]; omega
        | false =>
          have hp := let_not hl
          by_cases h0 : k = 0
          · subst h0
            have HY : Hid (nameL x.data.toList = false) := Lib.hid (name_no0 x hlt hl)
            clear hl HK
            rcases hp with ⟨p1, p2, p3⟩ | ⟨p1, p2, p3, p4⟩ | ⟨p1, p2, p3⟩
            all_goals
              go_wp2_with fail
              go_ret
              exact ⟨ret_bool HY.out.symm, rfl⟩
          · have hk0 : ((k : Int) == 0) = false := by rw [beq_eq_false_iff_ne]; omega
            have HY : Hid (nameL x.data.toList = ((decide (48 ≤ (x[k].toNat : Int) ∧ (x[k].toNat : Int) ≤ 57) || (x[k].toNat : Int) == 95) && (x.data.toList.drop (k + 1)).all innC)) := Lib.hid (by rw [(HK (by omega)).out, drop_get' x k hlt, List.all_cons]; simp [innC, innB, hl])
            clear hl HK h0
            rcases hp with ⟨p1, p2, p3⟩ | ⟨p1, p2, p3, p4⟩ | ⟨p1, p2, p3⟩
            all_goals
              by_cases h95 : (x[k].toNat : Int) = 95
              · have d95 : ((x[k].toNat : Int) == 95) = true := by rw [beq_iff_eq]; exact h95
                have n95 : ((x[k].toNat : Int) != 95) = false := by rw [bne_eq_false_iff_eq]; exact h95
                have HZ : Hid (nameL x.data.toList = (x.data.toList.drop (k + 1)).all innC) := Lib.hid (by rw [HY.out, d95]; simp)
                first
                | (exfalso; omega)
                | (clear h95
                   go_wp2_with fail
                   go_round
                   case rel => exact ⟨k + 1, by omega, by go_num, fun _ => HZ⟩
                   case measure => simp [intOf]; omega)
              · have d95 : ((x[k].toNat : Int) == 95) = false := by rw [beq_eq_false_iff_ne]; exact h95
                have n95 : ((x[k].toNat : Int) != 95) = true := by rw [bne_iff_ne]; exact h95
                by_cases h48 : 48 ≤ (x[k].toNat : Int)
                · have f48 : decide ((x[k].toNat : Int) < 48) = false := by simp; omega
                  by_cases h57 : (x[k].toNat : Int) ≤ 57
                  · have f57 : decide ((57 : Int) < (x[k].toNat : Int)) = false := by simp; omega
                    have HZ : Hid (nameL x.data.toList = (x.data.toList.drop (k + 1)).all innC) := Lib.hid (by rw [HY.out, decide_eq_true (by omega)]; rfl)
                    first
                    | (exfalso; omega)
                    | (go_wp2_with fail
                       go_round
                       case rel => exact ⟨k + 1, by omega, by go_num, fun _ => HZ⟩
                       case measure => simp [intOf]; omega)
                  · have f57 : (57 : Int) < (x[k].toNat : Int) := by omega
                    have HZ : Hid (nameL x.data.toList = false) := Lib.hid (by rw [HY.out, d95, decide_eq_false (by omega)]; rfl)
                    go_wp2_with fail
                    go_ret
                    exact ⟨ret_bool HZ.out.symm, rfl⟩
                · have HZ : Hid (nameL x.data.toList = false) := Lib.hid (by rw [HY.out, d95, decide_eq_false (by omega)]; rfl)
                  first
                  | (exfalso; omega)
                  | (go_wp2_with fail
                     go_ret
                     exact ⟨ret_bool HZ.out.symm, rfl⟩)
      · have HY : Hid (nameL x.data.toList = true) := Lib.hid (by rw [(HK (by omega)).out, drop_nil' x k hlt]; rfl)
        go_wp2
        go_ret
        exact ⟨ret_bool HY.out.symm, rfl⟩
set_option maxHeartbeats 1600000 in
theorem refWord_p (w : World) (x : ByteArray) (h : 0 < x.size) (hc : x[0].toNat ≠ 63) (hb : x.size ≤ 9223372036854775807) (h1 : 0 < x.size) (hsz : x.size ≤ 32) : Calls Tryz.prog 52 #[.string x] w (Says w (nameL x.data.toList)) := by
  have d63 : ((x[0].toNat : Int) == 63) = false := by rw [beq_eq_false_iff_ne]; omega
  have hp : (0 : Int) < (x.size : Int) := by omega
  have d1 : decide ((x.size : Int) < 1) = false := by simp; omega
  have d2 : decide ((32 : Int) < (x.size : Int)) = false := by simp; omega
  · go_enter Tryz.func52, Tryz.ntmps52
    go_wp2_with fail
    go_loop [3] (fun i => RefRel x i) (fun i => x.size - (intOf i).toNat)
    case atStart => exact ⟨0, by omega, rfl, fun h => absurd h (by omega)⟩
    case round =>
      obtain ⟨k, hk, rfl, HK⟩ := hrel
      by_cases hlt : k < x.size
      · cases hl : letB (x[k].toNat : Int) with
        | true =>
          have HY : Hid (nameL x.data.toList = (x.data.toList.drop (k + 1)).all innC) := Lib.hid (by
            by_cases h0 : k = 0
            · subst h0; exact all_drop0 x hlt hl hsz
            · rw [(HK (by omega)).out, drop_get' x k hlt, List.all_cons]; simp [innC, innB, hl])
          have hp := let_parts hl
          clear hl HK
          rcases hp with hp | hp
          all_goals
            obtain ⟨g1, g2⟩ := hp
            go_wp2_with fail
            go_round
            case rel => exact ⟨k + 1, by omega, by go_num, fun _ => HY⟩
            case measure => simp [intOf]; omega
        | false =>
          have hp := let_not hl
          by_cases h0 : k = 0
          · subst h0
            have HY : Hid (nameL x.data.toList = false) := Lib.hid (name_no0 x hlt hl)
            clear hl HK
            rcases hp with ⟨p1, p2, p3⟩ | ⟨p1, p2, p3, p4⟩ | ⟨p1, p2, p3⟩
            all_goals
              go_wp2_with fail
              go_ret
              exact ⟨ret_bool HY.out.symm, rfl⟩
          · have hk0 : ((k : Int) == 0) = false := by rw [beq_eq_false_iff_ne]; omega
            have HY : Hid (nameL x.data.toList = ((decide (48 ≤ (x[k].toNat : Int) ∧ (x[k].toNat : Int) ≤ 57) || (x[k].toNat : Int) == 95) && (x.data.toList.drop (k + 1)).all innC)) := Lib.hid (by rw [(HK (by omega)).out, drop_get' x k hlt, List.all_cons]; simp [innC, innB, hl])
            clear hl HK h0
            rcases hp with ⟨p1, p2, p3⟩ | ⟨p1, p2, p3, p4⟩ | ⟨p1, p2, p3⟩
            all_goals
              by_cases h95 : (x[k].toNat : Int) = 95
              · have d95 : ((x[k].toNat : Int) == 95) = true := by rw [beq_iff_eq]; exact h95
                have n95 : ((x[k].toNat : Int) != 95) = false := by rw [bne_eq_false_iff_eq]; exact h95
                have HZ : Hid (nameL x.data.toList = (x.data.toList.drop (k + 1)).all innC) := Lib.hid (by rw [HY.out, d95]; simp)
                first
                | (exfalso; omega)
                | (clear h95
                   go_wp2_with fail
                   go_round
                   case rel => exact ⟨k + 1, by omega, by go_num, fun _ => HZ⟩
                   case measure => simp [intOf]; omega)
              · have d95 : ((x[k].toNat : Int) == 95) = false := by rw [beq_eq_false_iff_ne]; exact h95
                have n95 : ((x[k].toNat : Int) != 95) = true := by rw [bne_iff_ne]; exact h95
                by_cases h48 : 48 ≤ (x[k].toNat : Int)
                · have f48 : decide ((x[k].toNat : Int) < 48) = false := by simp; omega
                  by_cases h57 : (x[k].toNat : Int) ≤ 57
                  · have f57 : decide ((57 : Int) < (x[k].toNat : Int)) = false := by simp; omega
                    have HZ : Hid (nameL x.data.toList = (x.data.toList.drop (k + 1)).all innC) := Lib.hid (by rw [HY.out, decide_eq_true (by omega)]; rfl)
                    first
                    | (exfalso; omega)
                    | (go_wp2_with fail
                       go_round
                       case rel => exact ⟨k + 1, by omega, by go_num, fun _ => HZ⟩
                       case measure => simp [intOf]; omega)
                  · have f57 : (57 : Int) < (x[k].toNat : Int) := by omega
                    have HZ : Hid (nameL x.data.toList = false) := Lib.hid (by rw [HY.out, d95, decide_eq_false (by omega)]; rfl)
                    go_wp2_with fail
                    go_ret
                    exact ⟨ret_bool HZ.out.symm, rfl⟩
                · have HZ : Hid (nameL x.data.toList = false) := Lib.hid (by rw [HY.out, d95, decide_eq_false (by omega)]; rfl)
                  first
                  | (exfalso; omega)
                  | (go_wp2_with fail
                     go_ret
                     exact ⟨ret_bool HZ.out.symm, rfl⟩)
      · have HY : Hid (nameL x.data.toList = true) := Lib.hid (by rw [(HK (by omega)).out, drop_nil' x k hlt]; rfl)
        go_wp2
        go_ret
        exact ⟨ret_bool HY.out.symm, rfl⟩
set_option maxHeartbeats 400000 in
theorem refWord_q0 (s x : ByteArray) (w : World) (hs : s.size ≤ 9223372036854775807) (h : 0 < s.size) (hc : s[0].toNat = 63) (hx : s.extract 1 s.size = x) (hsz : x.size < 1 ∨ 32 < x.size) : Calls Tryz.prog 52 #[.string s] w (Says w false) := by
  have d63 : ((s[0].toNat : Int) == 63) = true := by rw [beq_iff_eq]; omega
  have hp : (0 : Int) < (s.size : Int) := by omega
  have hss : s.size - 1 = x.size := by have := behind1_size s h; rw [hx] at this; omega
  go_enter Tryz.func52, Tryz.ntmps52
  rcases hsz with hsz | hsz
  all_goals
    go_wp2_with fail
    go_ret
    exact ⟨rfl, rfl⟩
set_option maxHeartbeats 400000 in
theorem refWord_p0 (x : ByteArray) (w : World) (hb : x.size ≤ 9223372036854775807) (h : 0 < x.size) (hc : x[0].toNat ≠ 63) (hsz : 32 < x.size) : Calls Tryz.prog 52 #[.string x] w (Says w false) := by
  have d63 : ((x[0].toNat : Int) == 63) = false := by rw [beq_eq_false_iff_ne]; omega
  have hp : (0 : Int) < (x.size : Int) := by omega
  go_enter Tryz.func52, Tryz.ntmps52
  go_wp2_with fail
  go_ret
  exact ⟨rfl, rfl⟩
set_option maxHeartbeats 400000 in
theorem refWord_0 (x : ByteArray) (w : World) (h : ¬ 0 < x.size) : Calls Tryz.prog 52 #[.string x] w (Says w false) := by
  have d0 : decide ((0 : Int) < (x.size : Int)) = false := decide_eq_false (by omega)
  have d1 : (x.size : Int) < 1 := by omega
  go_enter Tryz.func52, Tryz.ntmps52
  go_wp2_with fail
  go_ret
  exact ⟨rfl, rfl⟩
theorem refWord_any (s : ByteArray) (w : World) (hs : s.size ≤ maxLen) : Calls Tryz.prog 52 #[.string s] w (Says w (wordB s)) := by
  unfold maxLen at hs
  by_cases h : 0 < s.size
  · by_cases hc : s[0].toNat = 63
    · rw [word_q s h hc]
      have hb := behind1_size s h
      by_cases hsz : (s.extract 1 s.size).size < 1 ∨ 32 < (s.extract 1 s.size).size
      · have : nameL (s.extract 1 s.size).data.toList = false := by
          rcases hsz with h' | h'
          · exact name_nil _ (by omega)
          · rw [name_eq _ (Nat.lt_of_le_of_lt (Nat.zero_le _) h'), decide_eq_false (by omega)]; rfl
        rw [this]
        exact refWord_q0 s _ w (by omega) h hc rfl hsz
      · exact refWord_q w s _ (by omega) h hc rfl (by omega) (by omega) (by omega)
    · rw [word_p s (fun _ => hc)]
      by_cases hsz : 32 < s.size
      · have : nameL s.data.toList = false := by rw [name_eq s h, decide_eq_false (by omega)]; rfl
        rw [this]
        exact refWord_p0 s w (by omega) h hc hsz
      · exact refWord_p w s h hc (by omega) h (by omega)
  · rw [word_p s (fun h' => absurd h' h), name_nil s h]
    exact refWord_0 s w h
end Go.Proofs.YtjjlofaejpnnnaaGreatDoor
namespace Go.Proofs.YtjjlofaejpnnnaaGreatDoor
open Go Go.RowKit
set_option linter.unusedVariables false
/-- halves: what is known of the places on both sides -/
structure Half (nds : List Nd) (id : Int) (l h : Nat) : Prop where
  le : l ≤ h
  lo : ∀ (i : Nat) nd, i < l → nds[i]? = some nd → nd.id < id
  hi : ∀ (i : Nat) nd, h ≤ i → nds[i]? = some nd → id ≤ nd.id
theorem Half.start (nds : List Nd) (id : Int) (n : Nat) (hn : nds.length = n) : Half nds id 0 n :=
  ⟨Nat.zero_le _, fun i nd hi => absurd hi (by omega), fun i nd hi hg => by have := (List.getElem?_eq_some_iff.1 hg).1; omega⟩
theorem Half.up {nds : List Nd} {id : Int} {l h m : Nat} {nd : Nd} (H : Half nds id l h) (hr : Rise nds) (hm : nds[m]? = some nd) (h1 : m < h) (hlt : nd.id < id) : Half nds id (m + 1) h :=
  ⟨by omega, fun i nd' hi hg => by
    rcases Nat.lt_or_ge i m with g | g
    · have := hr.lt i m nd' nd g hg hm; omega
    · obtain rfl : i = m := by omega
      rw [hm] at hg; injection hg with hg; subst hg; exact hlt, H.hi⟩
theorem Half.down {nds : List Nd} {id : Int} {l h m : Nat} {nd : Nd} (H : Half nds id l h) (hr : Rise nds) (hm : nds[m]? = some nd) (h1 : l ≤ m) (hge : id ≤ nd.id) : Half nds id l m :=
  ⟨h1, H.lo, fun i nd' hi hg => by
    rcases Nat.lt_or_ge m i with g | g
    · have := hr.lt m i nd nd' g hm hg; omega
    · obtain rfl : i = m := by omega
      rw [hm] at hg; injection hg with hg; subst hg; exact hge⟩
theorem Half.at_ {nds : List Nd} {id : Int} {k : Nat} (H : Half nds id k k) (hr : Rise nds) : ixOf nds id = match nds[k]? with | some nd => if nd.id = id then some k else none | none => none :=
  ixOf_at hr H.lo H.hi
theorem below_box (w : World) (x : Obj) : Below w.heap.size w (w.alloc x) := (Below.refl _ _).alloc (Nat.le_refl _) _
theorem ret_b {w w' : World} {v : Value} {a b : Bool} (h : b = a) (hv : v = .bool a) (hb : Below w.heap.size w w') : Ret w (.bool b) (.returned v) w' := ⟨by rw [hv, h], hb⟩
end Go.Proofs.YtjjlofaejpnnnaaGreatDoor
namespace Go.Proofs.YtjjlofaejpnnnaaGreatDoor
open Go Go.RowKit
set_option linter.unusedVariables false
def DrewV (w : World) (v : Value) (e : Ending) (w' : World) : Prop := e = .returned v ∧ ∃ q, w' = w.drewN q
end Go.Proofs.YtjjlofaejpnnnaaGreatDoor
namespace Go.Proofs.YtjjlofaejpnnnaaGreatDoor
open Go Go.RowKit Go.Sort
set_option linter.unusedVariables false
theorem regrown_ret {P : Program} {f : FuncId} {args : Array Value} {w : World} {d : Nat} {os : Array Obj} {v : Value} (h : Calls P f args (grow (redrawn w d) os) (Ret (grow (redrawn w d) os) v)) :
    Calls P f args (grow (redrawn w d) os) fun e w'' => e = .returned v ∧ ∃ p : Regrown, w'' = grow (redrawn w p.d) p.os := Calls.regrown_of h
end Go.Proofs.YtjjlofaejpnnnaaGreatDoor
namespace Go.Proofs.YtjjlofaejpnnnaaGreatDoor
open Go Go.RowKit Go.Sort
set_option linter.unusedVariables false
theorem intInfo : (Tryz.prog.info? 3).map (fun i => (i.zero, i.size, i.bytes)) = some (some (.int .i64 0), 1, 8) := by kernel_rfl
theorem Below.setCell' {B : Nat} {a w : World} (h : Below B a w) {g i : Nat} (hp : B ≤ g) (u : Value) : Below B a (w.setCell ⟨g, i, none⟩ u) := h.setCell (p := ⟨g, i, none⟩) hp u
/-- what holds in the loops: the box of the model, the numbers, nothing old has turned -/
structure JW (w : World) (next : Int) (A : Option Addr) (n c : Nat) (a : List Int) (wr : World) : Prop where
  md : Blk wr w.heap.size 25 #[.int .i64 next, .slice A n c]
  ab : IBlk wr (w.heap.size + 1) a
  bel : Below w.heap.size w wr
  len : a.length = n
section
variable {w wr w' : World} {next : Int} {A : Option Addr} {n c : Nat} {a : List Int}
theorem JW.c0 (h : JW w next A n c a wr) : wr.cell? ⟨w.heap.size, 0, none⟩ = some (.int .i64 next) := h.md.cell 0
theorem JW.c1 (h : JW w next A n c a wr) : wr.cell? ⟨w.heap.size, 1, none⟩ = some (.slice A n c) := h.md.cell 1
theorem JW.set_ (h : JW w next A n c a wr) (i : Nat) (x : Int) : JW w next A n c (a.set i x) (wr.setCell ⟨w.heap.size + 1, i, none⟩ (.int .i64 x)) :=
  ⟨h.md.far (p := ⟨_, _, none⟩) (by simp) _, h.ab.set_ i x, Below.setCell' h.bel (by omega) _, by rw [List.length_set]; exact h.len⟩
theorem JW.after (h : JW w next A n c a wr) (hb : Below wr.heap.size wr w') : JW w next A n c a w' :=
  ⟨h.md.after hb, h.ab.after hb, h.bel.trans (hb.mono h.bel.size), h.len⟩
theorem JW.drewN (h : JW w next A n c a wr) (q : Nat) : JW w next A n c a (wr.drewN q) := ⟨h.md, h.ab, below_drewN h.bel q, h.len⟩
end
end Go.Proofs.YtjjlofaejpnnnaaGreatDoor

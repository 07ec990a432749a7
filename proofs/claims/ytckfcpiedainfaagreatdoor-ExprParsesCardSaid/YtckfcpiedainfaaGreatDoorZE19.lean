/-
  PLAIN: a tree that is read has at most as many nodes as tokens were taken; no tree is deeper than it has nodes. No program stands in it.
  PLAIN: the table of signs against the grammar's signs. No program stands in it.
-/
import Derived.Test.YtckfcpiedainfaaGreatDoorZE18
namespace Go.Proofs.YtckfcpiedainfaaGreatDoor
open Go
set_option linter.unusedVariables false
def Md.base : Md → Nat
  | .lv _ => 0
  | .row _ t => t.size
  | .step t => t.size
/-- each token gives one node at most -/
def Sz (b : Nat) (l : List Tok) (r : Rd) : Prop := ∀ p, r = .ok p → p.1.size + p.2.length ≤ l.length + b
abbrev SzAll (rd : Md → List Tok → Rd) : Prop := ∀ m l, Sz m.base l (rd m l)
theorem sz_bind {α : Type} {b : Nat} {l : List Tok} {x : Except (List Tok) α} {f : α → Rd} (h : ∀ a, x = .ok a → Sz b l (f a)) : Sz b l (bindR x f) := by
  intro p hp
  obtain ⟨a, ha, hf⟩ := bindR_ok hp
  exact h a ha p hf
theorem sz_ok {b : Nat} {l r : List Tok} {t : Tr} (h : t.size + r.length ≤ l.length + b) : Sz b l (.ok (t, r)) := fun p hp => by cases hp; exact h
theorem sz_err {b : Nat} {l e : List Tok} : Sz b l (.error e) := fun p hp => by cases hp
theorem sz_ite {b : Nat} {l : List Tok} {c : Prop} [Decidable c] {x y : Rd} (h1 : c → Sz b l x) (h2 : ¬ c → Sz b l y) : Sz b l (if c then x else y) := by
  by_cases h : c
  · rw [if_pos h]; exact h1 h
  · rw [if_neg h]; exact h2 h
theorem Sz.mono {b b' : Nat} {l l' : List Tok} {r : Rd} (h : Sz b l r) (hl : l.length + b ≤ l'.length + b') : Sz b' l' r := fun p hp => by have := h p hp; omega
theorem leaf_size (k : Int) (s : ByteArray) (i : Int) : (Tr.leaf k s i).size = 1 := rfl
theorem mk1_size (k : Int) (s : ByteArray) (i : Int) (t : Tr) : (⟨k, s, i, row1 t⟩ : Tr).size = 1 + t.size := rfl
theorem mk2_size (k : Int) (s : ByteArray) (i : Int) (t u : Tr) : (⟨k, s, i, row2 t u⟩ : Tr).size = 1 + (t.size + u.size) := rfl
theorem mk3_size (k : Int) (s : ByteArray) (i : Int) (t u v : Tr) : (⟨k, s, i, row3 t u v⟩ : Tr).size = 1 + (t.size + (u.size + v.size)) := rfl
theorem until_sz {rd : Md → List Tok → Rd} (h : SzAll rd) (l : List Tok) (s : List UInt8) : ∀ p, untilV rd l s = .ok p → p.1.size + p.2.length + 1 ≤ l.length := by
  intro p hp
  obtain ⟨a, ha, hf⟩ := bindR_ok hp
  obtain ⟨r, hr, he⟩ := bindR_ok hf
  obtain ⟨hm, rfl⟩ := mustV_ok hr
  have h1 := h (.lv 1) l a ha
  have h2 := isM_drop hm
  cases he
  show a.1.size + (a.2.drop 1).length + 1 ≤ _
  have : (Md.lv 1).base = 0 := rfl
  omega
theorem prim_sz {rd : Md → List Tok → Rd} (h : SzAll rd) (l : List Tok) : Sz 0 l (primV rd l) := by
  cases l with
  | nil => exact sz_err
  | cons t r =>
    have hr : (t :: r).length = r.length + 1 := rfl
    have h1 : ∀ k s i, Sz 0 (t :: r) (.ok (.leaf k s i, r)) := fun k s i => sz_ok (by rw [leaf_size]; omega)
    unfold primV
    refine sz_ite (fun _ => h1 _ _ _) fun _ => sz_ite (fun _ => h1 _ _ _) fun _ => sz_ite (fun _ => h1 _ _ _) fun _ => sz_ite (fun _ => ?_) fun _ => ?_
    · cases r with
      | nil => exact sz_err
      | cons u r2 => exact sz_ite (fun _ => sz_ok (by rw [leaf_size]; simp only [List.length_cons]; omega)) fun _ => sz_err
    refine sz_ite (fun _ => fun p hp => by have := until_sz h r _ p hp; omega) fun _ => sz_ite (fun _ => h1 _ _ _) fun _ => sz_ite (fun _ => ?_) fun _ => sz_ite (fun _ => ?_) fun _ => sz_ite (fun _ => ?_) fun _ => sz_err
    · refine sz_bind fun a ha => sz_bind fun b hb => sz_bind fun c hc => sz_ok ?_
      have e1 := until_sz h _ _ _ ha
      have e2 := until_sz h _ _ _ hb
      have e3 := until_sz h _ _ _ hc
      rw [mk3_size]; omega
    · refine sz_bind fun q hq => sz_bind fun a ha => sz_ok ?_
      obtain ⟨hm, rfl⟩ := mustV_ok hq
      have e0 := isM_drop hm
      have e1 := until_sz h _ _ _ ha
      rw [mk1_size]; omega
    · refine sz_bind fun x hx => sz_bind fun q hq => sz_bind fun a ha => sz_bind fun b hb => sz_ok ?_
      obtain ⟨u, q2, rfl, _, rfl⟩ := nameV_ok hx
      obtain ⟨hm, rfl⟩ := mustV_ok hq
      have e0 := isM_drop hm
      have e1 := until_sz h _ _ _ ha
      have e2 := until_sz h _ _ _ hb
      simp only [List.length_cons] at e0 e1 e2 ⊢
      rw [mk2_size]; omega
theorem lv_sz {rd : Md → List Tok → Rd} (h : SzAll rd) (n : Nat) (l : List Tok) : Sz 0 l (lvV rd n l) := by
  have hb : ∀ k, (Md.lv k).base = 0 := fun _ => rfl
  unfold lvV
  refine if h3 : n = 3 then ?_ else ?_
  · rw [if_pos h3]
    split
    · next hm =>
      refine sz_bind fun a ha => sz_ok ?_
      have e1 := h _ _ a ha
      have e0 := isM_drop hm
      rw [mk1_size]; rw [hb] at e1; omega
    · exact (h (.lv 4) l).mono (Nat.le_refl _)
  rw [if_neg h3]
  refine if h4 : n = 4 then ?_ else ?_
  · rw [if_pos h4]
    refine sz_bind fun a ha => ?_
    have e1 := h _ _ a ha
    rw [hb] at e1
    split
    · exact fun p hp => by cases hp; exact e1
    · next hs =>
      refine sz_bind fun b hb' => sz_ok ?_
      have e2 := h _ _ b hb'
      have e0 := signV_drop hs
      rw [mk2_size]; rw [hb] at e2; omega
  rw [if_neg h4]
  refine if h7 : n = 7 then ?_ else ?_
  · rw [if_pos h7]
    refine sz_bind fun a ha => ?_
    have e1 := h _ _ a ha
    rw [hb] at e1
    exact (h (.step a.1) a.2).mono (by show _ + a.1.size ≤ _; omega)
  rw [if_neg h7]
  refine if h8 : n = 8 then ?_ else ?_
  · rw [if_pos h8]; exact prim_sz h l
  · rw [if_neg h8]
    refine sz_bind fun a ha => ?_
    have e1 := h _ _ a ha
    rw [hb] at e1
    exact (h (.row n a.1) a.2).mono (by show _ + a.1.size ≤ _; omega)
theorem row_sz {rd : Md → List Tok → Rd} (h : SzAll rd) (n : Nat) (t : Tr) (l : List Tok) : Sz t.size l (rowV rd n t l) := by
  unfold rowV
  split
  · exact sz_ok (by omega)
  · next hs =>
    have e0 := signV_drop hs
    refine sz_bind fun b hb => ?_
    have e1 := h _ _ b hb
    have : (Md.lv (n + 1)).base = 0 := rfl
    refine (h _ _).mono ?_
    show _ + (1 + (t.size + b.1.size)) ≤ _
    omega
theorem steps_sz {rd : Md → List Tok → Rd} (h : SzAll rd) (t : Tr) (l : List Tok) : Sz t.size l (stepsV rd t l) := by
  unfold stepsV
  split
  · exact sz_ok (by omega)
  next hs =>
  have e0 := stepV_drop hs
  split
  · refine (h _ _).mono ?_
    show _ + (1 + t.size) ≤ _
    omega
  · refine sz_bind fun x hx => ?_
    obtain ⟨u, q, e, _, rfl⟩ := nameV_ok hx
    refine (h _ q).mono ?_
    have : q.length < (l.drop 1).length := by rw [e]; exact Nat.lt_succ_self _
    show _ + (1 + t.size) ≤ _
    omega
theorem rd_size : ∀ f, SzAll (rdV f)
  | 0, m, l => sz_err
  | f + 1, .lv n, l => lv_sz (rd_size f) n l
  | f + 1, .row n t, l => row_sz (rd_size f) n t l
  | f + 1, .step t, l => steps_sz (rd_size f) t l
theorem rdX_size {n : Nat} {l : List Tok} {p : Tr × List Tok} (h : rdX (.lv n) l = .ok p) : p.1.size + p.2.length ≤ l.length := rd_size _ _ _ p h
/-- no tree is deeper than it has nodes -/
theorem depth_size : ∀ f : Fo, f.depth ≤ f.size
  | .nil => Nat.le_refl _
  | .cons _ _ _ a r => by
    have h1 := depth_size a
    have h2 := depth_size r
    show max (1 + a.depth) r.depth ≤ 1 + a.size + r.size
    omega
end Go.Proofs.YtckfcpiedainfaaGreatDoor
namespace Go.Proofs.YtckfcpiedainfaaGreatDoor
open Go
set_option linter.unusedVariables false
def findS (n : Int) (s : List UInt8) : List SignD → Nat → Option Nat
  | [], _ => none
  | x :: r, k => if x.level = n ∧ x.text = s then some k else findS n s r (k + 1)
/-- the Kind for which a text stands at a level -/
def signAt (n : Int) (s : List UInt8) : Option Nat := findS n s signsL 0
/-- .. the next token, if it is a mark or a word -/
def signK (n : Int) : List Tok → Option Nat
  | t :: _ => if 4 ≤ t.kind then signAt n t.text.data.toList else none
  | [] => none
/-- none of the first k rows is that -/
def NotYet (n : Int) (s : List UInt8) (l : List SignD) (k : Nat) : Prop := ∀ j x, j < k → l[j]? = some x → ¬ (x.level = n ∧ x.text = s)
theorem find_skip {n : Int} {s : List UInt8} : ∀ (k : Nat) (l : List SignD) (i : Nat), k ≤ l.length → NotYet n s l k → findS n s l i = findS n s (l.drop k) (i + k)
  | 0, _, _, _, _ => rfl
  | k + 1, [], _, h, _ => absurd h (by simp)
  | k + 1, x :: r, i, h, hn => by
    show (if x.level = n ∧ x.text = s then some i else findS n s r (i + 1)) = _
    rw [if_neg (hn 0 x (Nat.succ_pos _) rfl), find_skip k r (i + 1) (by simpa using h) fun j y hj hy => hn (j + 1) y (by omega) hy]
    show _ = findS n s (r.drop k) _
    rw [show i + 1 + k = i + (k + 1) from by omega]
theorem signAt_hit {n : Int} {s : List UInt8} {k : Nat} {x : SignD} (h : NotYet n s signsL k) (hx : signsL[k]? = some x) (h1 : x.level = n) (h2 : x.text = s) : signAt n s = some k := by
  have hk := (List.getElem?_eq_some_iff.1 hx).1
  unfold signAt
  rw [find_skip k _ 0 (by omega) h, List.drop_eq_getElem_cons hk, (List.getElem?_eq_some_iff.1 hx).2]
  show (if _ then some (0 + k) else _) = _
  rw [if_pos ⟨h1, h2⟩, Nat.zero_add]
theorem signAt_none {n : Int} {s : List UInt8} (h : NotYet n s signsL 35) : signAt n s = none := by
  unfold signAt
  rw [find_skip 35 _ 0 (by decide) h]
  rfl
theorem signAt_lt {n : Int} {s : List UInt8} {k : Nat} (h : signAt n s = some k) : k < 35 := by
  have : ∀ (l : List SignD) (i : Nat), findS n s l i = some k → k < i + l.length := by
    intro l
    induction l with
    | nil => intro i h; cases h
    | cons x r ih =>
      intro i h
      by_cases hc : x.level = n ∧ x.text = s
      · have : findS n s (x :: r) i = some i := if_pos hc
        rw [this] at h; cases h; simp
      · have e : findS n s (x :: r) i = findS n s r (i + 1) := if_neg hc
        rw [e] at h
        have := ih _ h
        simp only [List.length_cons]; omega
  have := this signsL 0 h
  rw [signs_len] at this
  omega
theorem NotYet.next {n : Int} {s : List UInt8} {l : List SignD} {k : Nat} (h : NotYet n s l k) {x : SignD} (hx : l[k]? = some x) (hm : ¬ (x.level = n ∧ x.text = s)) : NotYet n s l (k + 1) := fun j y hj hy => by
  rcases Nat.lt_or_ge j k with h1 | h1
  · exact h j y h1 hy
  · have : j = k := by omega
    subst this
    rw [hx] at hy; cases hy; exact hm
/-- the words of a level -/
def W1 : List (List UInt8 × Nat) := [([111, 114], 28)]
def W2 : List (List UInt8 × Nat) := [([97, 110, 100], 27)]
def W3 : List (List UInt8 × Nat) := [([110, 111, 116], 29)]
def W4 : List (List UInt8 × Nat) := [([61, 61], 23), ([33, 61], 24), ([60], 25), ([60, 61], 26)]
def W5 : List (List UInt8 × Nat) := [([43], 20), ([45], 21)]
def W6 : List (List UInt8 × Nat) := [([42], 22)]
def W7 : List (List UInt8 × Nat) := [([46], 8), ([35], 9), ([45, 62], 10), ([94], 11), ([63], 12), ([33, 33], 13)]
def W8 : List (List UInt8 × Nat) := [([116, 114, 117, 101], 3), ([102, 97, 108, 115, 101], 4), ([115, 101, 108, 102], 5), ([110, 111, 110, 101], 6), ([115, 105, 122, 101], 14), ([102, 105, 114, 115, 116], 15), ([116, 101, 120, 116], 16), ([99, 111, 110, 99, 101, 112, 116], 17), ([105, 100], 18), ([105, 110, 116], 19), ([105, 102], 30), ([97, 110, 121], 31), ([101, 118, 101, 114, 121], 32), ([111, 110, 108, 121], 33), ([115, 117, 109], 34)]
theorem sign_words {n : Int} {s : List UInt8} (W : List (List UInt8 × Nat)) (hs : s ≠ []) (h1 : ∀ p ∈ W, signAt n p.1 = some p.2) (h2 : ∀ x ∈ signsL, x.level = n → x.text = [] ∨ x.text ∈ W.map (·.1)) : (signAt n s = none ∧ ∀ p ∈ W, s ≠ p.1) ∨ ∃ p ∈ W, s = p.1 ∧ signAt n s = some p.2 := by
  by_cases h : s ∈ W.map (·.1)
  · obtain ⟨p, hp, rfl⟩ := List.mem_map.1 h
    exact .inr ⟨p, hp, rfl, h1 p hp⟩
  · refine .inl ⟨signAt_none fun j x _ hx hm => ?_, fun p hp e => h (List.mem_map.2 ⟨p, hp, e.symm⟩)⟩
    rcases h2 x (List.mem_of_getElem? hx) hm.1 with e | e
    · exact hs (hm.2.symm.trans e)
    · exact h (hm.2 ▸ e)
theorem words1 {s : List UInt8} (hs : s ≠ []) : (signAt 1 s = none ∧ ∀ p ∈ W1, s ≠ p.1) ∨ ∃ p ∈ W1, s = p.1 ∧ signAt 1 s = some p.2 := sign_words W1 hs (by decide +kernel) (by decide +kernel)
theorem words2 {s : List UInt8} (hs : s ≠ []) : (signAt 2 s = none ∧ ∀ p ∈ W2, s ≠ p.1) ∨ ∃ p ∈ W2, s = p.1 ∧ signAt 2 s = some p.2 := sign_words W2 hs (by decide +kernel) (by decide +kernel)
theorem words3 {s : List UInt8} (hs : s ≠ []) : (signAt 3 s = none ∧ ∀ p ∈ W3, s ≠ p.1) ∨ ∃ p ∈ W3, s = p.1 ∧ signAt 3 s = some p.2 := sign_words W3 hs (by decide +kernel) (by decide +kernel)
theorem words4 {s : List UInt8} (hs : s ≠ []) : (signAt 4 s = none ∧ ∀ p ∈ W4, s ≠ p.1) ∨ ∃ p ∈ W4, s = p.1 ∧ signAt 4 s = some p.2 := sign_words W4 hs (by decide +kernel) (by decide +kernel)
theorem words5 {s : List UInt8} (hs : s ≠ []) : (signAt 5 s = none ∧ ∀ p ∈ W5, s ≠ p.1) ∨ ∃ p ∈ W5, s = p.1 ∧ signAt 5 s = some p.2 := sign_words W5 hs (by decide +kernel) (by decide +kernel)
theorem words6 {s : List UInt8} (hs : s ≠ []) : (signAt 6 s = none ∧ ∀ p ∈ W6, s ≠ p.1) ∨ ∃ p ∈ W6, s = p.1 ∧ signAt 6 s = some p.2 := sign_words W6 hs (by decide +kernel) (by decide +kernel)
theorem words7 {s : List UInt8} (hs : s ≠ []) : (signAt 7 s = none ∧ ∀ p ∈ W7, s ≠ p.1) ∨ ∃ p ∈ W7, s = p.1 ∧ signAt 7 s = some p.2 := sign_words W7 hs (by decide +kernel) (by decide +kernel)
theorem words8 {s : List UInt8} (hs : s ≠ []) : (signAt 8 s = none ∧ ∀ p ∈ W8, s ≠ p.1) ∨ ∃ p ∈ W8, s = p.1 ∧ signAt 8 s = some p.2 := sign_words W8 hs (by decide +kernel) (by decide +kernel)
theorem isM_low {t : Tok} {r : List Tok} (h : ¬ 4 ≤ t.kind) (s : List UInt8) : isM (t :: r) s = false := by unfold isM; simp [h]
theorem isM_high {t : Tok} {r : List Tok} (h : 4 ≤ t.kind) (s : List UInt8) : isM (t :: r) s = (t.text.data.toList == s) := by unfold isM; simp [h]
theorem signK_low {n : Int} {t : Tok} {r : List Tok} (h : ¬ 4 ≤ t.kind) : signK n (t :: r) = none := if_neg h
theorem signK_high {n : Int} {t : Tok} {r : List Tok} (h : 4 ≤ t.kind) : signK n (t :: r) = signAt n t.text.data.toList := if_pos h
/-- the sign of a level, as the table tells it and as the grammar does -/
def SameK (o : Option Nat) (v : Int) : Prop := match o with
  | some k => v = (k : Int) ∧ k ≠ 0
  | none => v = 0
instance (o : Option Nat) (v : Int) : Decidable (SameK o v) := by unfold SameK; cases o <;> infer_instance
theorem sign_no {s p : List UInt8} (h : s ≠ p) : (s == p) = false := by simpa using h
theorem sign_row {n : Nat} (hn : n = 1 ∨ n = 2 ∨ n = 4 ∨ n = 5 ∨ n = 6) {l : List Tok} (ht : TxtOk l) : SameK (signK (n : Int) l) (signV n l) := by
  cases l with
  | nil =>
    show signV n [] = 0
    simp [signV, isM_nil]
  | cons t r =>
    by_cases h4 : 4 ≤ t.kind
    · have hs := ht t List.mem_cons_self h4
      rw [signK_high h4]
      simp only [signV, isM_high h4]
      generalize t.text.data.toList = s at hs ⊢
      rcases hn with rfl | rfl | rfl | rfl | rfl
      · rcases words1 hs with ⟨e, ho⟩ | ⟨p, hp, rfl, e⟩
        · rw [show ((1 : Nat) : Int) = 1 from rfl, e]
          simp only [W1, List.mem_cons, List.mem_nil_iff, forall_eq_or_imp, or_false, forall_eq] at ho
          simp [SameK, sign_no, ho]
        · rw [show ((1 : Nat) : Int) = 1 from rfl, e]
          revert p; decide +kernel
      · rcases words2 hs with ⟨e, ho⟩ | ⟨p, hp, rfl, e⟩
        · rw [show ((2 : Nat) : Int) = 2 from rfl, e]
          simp only [W2, List.mem_cons, List.mem_nil_iff, forall_eq_or_imp, or_false, forall_eq] at ho
          simp [SameK, sign_no, ho]
        · rw [show ((2 : Nat) : Int) = 2 from rfl, e]
          revert p; decide +kernel
      · rcases words4 hs with ⟨e, ho⟩ | ⟨p, hp, rfl, e⟩
        · rw [show ((4 : Nat) : Int) = 4 from rfl, e]
          simp only [W4, List.mem_cons, List.mem_nil_iff, forall_eq_or_imp, or_false, forall_eq] at ho
          simp [SameK, sign_no, ho]
        · rw [show ((4 : Nat) : Int) = 4 from rfl, e]
          revert p; decide +kernel
      · rcases words5 hs with ⟨e, ho⟩ | ⟨p, hp, rfl, e⟩
        · rw [show ((5 : Nat) : Int) = 5 from rfl, e]
          simp only [W5, List.mem_cons, List.mem_nil_iff, forall_eq_or_imp, or_false, forall_eq] at ho
          simp [SameK, sign_no, ho]
        · rw [show ((5 : Nat) : Int) = 5 from rfl, e]
          revert p; decide +kernel
      · rcases words6 hs with ⟨e, ho⟩ | ⟨p, hp, rfl, e⟩
        · rw [show ((6 : Nat) : Int) = 6 from rfl, e]
          simp only [W6, List.mem_cons, List.mem_nil_iff, forall_eq_or_imp, or_false, forall_eq] at ho
          simp [SameK, sign_no, ho]
        · rw [show ((6 : Nat) : Int) = 6 from rfl, e]
          revert p; decide +kernel
    · rw [signK_low h4]
      show signV n (t :: r) = 0
      simp [signV, isM_low h4]
theorem sign_step {l : List Tok} (ht : TxtOk l) : SameK (signK 7 l) (stepV l) := by
  cases l with
  | nil => show stepV [] = 0; simp [stepV, isM_nil]
  | cons t r =>
    by_cases h4 : 4 ≤ t.kind
    · have hs := ht t List.mem_cons_self h4
      rw [signK_high h4]
      simp only [stepV, isM_high h4]
      generalize t.text.data.toList = s at hs ⊢
      rcases words7 hs with ⟨e, ho⟩ | ⟨p, hp, rfl, e⟩
      · rw [e]
        simp only [W7, List.mem_cons, List.mem_nil_iff, forall_eq_or_imp, or_false, forall_eq] at ho
        simp [SameK, sign_no, ho]
      · rw [e]
        revert p; decide +kernel
    · rw [signK_low h4]
      show stepV (t :: r) = 0
      simp [stepV, isM_low h4]
theorem sign_not {l : List Tok} (ht : TxtOk l) : signK 3 l = (if isM l [110, 111, 116] then some 29 else none) := by
  cases l with
  | nil => rfl
  | cons t r =>
    by_cases h4 : 4 ≤ t.kind
    · have hs := ht t List.mem_cons_self h4
      rw [signK_high h4, isM_high h4]
      generalize t.text.data.toList = s at hs ⊢
      rcases words3 hs with ⟨e, ho⟩ | ⟨p, hp, rfl, e⟩
      · rw [e, sign_no (ho _ List.mem_cons_self)]; rfl
      · rw [e]
        revert p; decide +kernel
    · rw [signK_low h4, isM_low h4]; rfl
/-- which shape a prim's word has -/
inductive Shape8 (l : List Tok) : Option Nat → Prop
  | none (h1 : atomV l = 0) (h2 : isM l [105, 102] = false) (h3 : callV l = 0) (h4 : loopV l = 0) : Shape8 l none
  | word (k : Nat) (hk : k = 3 ∨ k = 4 ∨ k = 5 ∨ k = 6) (h1 : atomV l = k) (h5 : isM l [45] = false) (h6 : isM l [40] = false) : Shape8 l (some k)
  | call (k : Nat) (hk : 14 ≤ k ∧ k ≤ 19) (h1 : atomV l = 0) (h2 : isM l [105, 102] = false) (h3 : callV l = k) (h5 : isM l [45] = false) (h6 : isM l [40] = false) : Shape8 l (some k)
  | choice (h1 : atomV l = 0) (h2 : isM l [105, 102] = true) (h5 : isM l [45] = false) (h6 : isM l [40] = false) : Shape8 l (some 30)
  | loop (k : Nat) (hk : 31 ≤ k ∧ k ≤ 34) (h1 : atomV l = 0) (h2 : isM l [105, 102] = false) (h3 : callV l = 0) (h4 : loopV l = k) (h5 : isM l [45] = false) (h6 : isM l [40] = false) : Shape8 l (some k)
theorem sign_prim {l : List Tok} (ht : TxtOk l) : Shape8 l (signK 8 l) := by
  cases l with
  | nil => exact .none rfl rfl rfl rfl
  | cons t r =>
    by_cases h4 : 4 ≤ t.kind
    · have hs := ht t List.mem_cons_self h4
      rw [signK_high h4]
      rcases words8 hs with ⟨e, ho⟩ | ⟨p, hp, he, e⟩
      · rw [e]
        simp only [W8, List.mem_cons, List.mem_nil_iff, forall_eq_or_imp, or_false, forall_eq] at ho
        refine .none ?_ ?_ ?_ ?_
        · simp [atomV, isM_high h4, sign_no, ho]
        · simp [isM_high h4, sign_no, ho]
        · simp [callV, isM_high h4, sign_no, ho]
        · simp [loopV, isM_high h4, sign_no, ho]
      · rw [e]
        have hM : ∀ q, isM (t :: r) q = (p.1 == q) := fun q => by rw [isM_high h4, he]
        clear he e hs
        simp only [W8, List.mem_cons, List.mem_nil_iff, or_false] at hp
        rcases hp with rfl | rfl | rfl | rfl | rfl | rfl | rfl | rfl | rfl | rfl | rfl | rfl | rfl | rfl | rfl
        · exact .word 3 (by decide) (by simp only [atomV, hM]; rfl) (by rw [hM]; rfl) (by rw [hM]; rfl)
        · exact .word 4 (by decide) (by simp only [atomV, hM]; rfl) (by rw [hM]; rfl) (by rw [hM]; rfl)
        · exact .word 5 (by decide) (by simp only [atomV, hM]; rfl) (by rw [hM]; rfl) (by rw [hM]; rfl)
        · exact .word 6 (by decide) (by simp only [atomV, hM]; rfl) (by rw [hM]; rfl) (by rw [hM]; rfl)
        · exact .call 14 (by decide) (by simp only [atomV, hM]; rfl) (by rw [hM]; rfl) (by simp only [callV, hM]; rfl) (by rw [hM]; rfl) (by rw [hM]; rfl)
        · exact .call 15 (by decide) (by simp only [atomV, hM]; rfl) (by rw [hM]; rfl) (by simp only [callV, hM]; rfl) (by rw [hM]; rfl) (by rw [hM]; rfl)
        · exact .call 16 (by decide) (by simp only [atomV, hM]; rfl) (by rw [hM]; rfl) (by simp only [callV, hM]; rfl) (by rw [hM]; rfl) (by rw [hM]; rfl)
        · exact .call 17 (by decide) (by simp only [atomV, hM]; rfl) (by rw [hM]; rfl) (by simp only [callV, hM]; rfl) (by rw [hM]; rfl) (by rw [hM]; rfl)
        · exact .call 18 (by decide) (by simp only [atomV, hM]; rfl) (by rw [hM]; rfl) (by simp only [callV, hM]; rfl) (by rw [hM]; rfl) (by rw [hM]; rfl)
        · exact .call 19 (by decide) (by simp only [atomV, hM]; rfl) (by rw [hM]; rfl) (by simp only [callV, hM]; rfl) (by rw [hM]; rfl) (by rw [hM]; rfl)
        · exact .choice (by simp only [atomV, hM]; rfl) (by rw [hM]; rfl) (by rw [hM]; rfl) (by rw [hM]; rfl)
        · exact .loop 31 (by decide) (by simp only [atomV, hM]; rfl) (by rw [hM]; rfl) (by simp only [callV, hM]; rfl) (by simp only [loopV, hM]; rfl) (by rw [hM]; rfl) (by rw [hM]; rfl)
        · exact .loop 32 (by decide) (by simp only [atomV, hM]; rfl) (by rw [hM]; rfl) (by simp only [callV, hM]; rfl) (by simp only [loopV, hM]; rfl) (by rw [hM]; rfl) (by rw [hM]; rfl)
        · exact .loop 33 (by decide) (by simp only [atomV, hM]; rfl) (by rw [hM]; rfl) (by simp only [callV, hM]; rfl) (by simp only [loopV, hM]; rfl) (by rw [hM]; rfl) (by rw [hM]; rfl)
        · exact .loop 34 (by decide) (by simp only [atomV, hM]; rfl) (by rw [hM]; rfl) (by simp only [callV, hM]; rfl) (by simp only [loopV, hM]; rfl) (by rw [hM]; rfl) (by rw [hM]; rfl)
    · rw [signK_low h4]
      refine .none ?_ ?_ ?_ ?_
      · simp [atomV, isM_low h4]
      · simp [isM_low h4]
      · simp [callV, isM_low h4]
      · simp [loopV, isM_low h4]
end Go.Proofs.YtckfcpiedainfaaGreatDoor

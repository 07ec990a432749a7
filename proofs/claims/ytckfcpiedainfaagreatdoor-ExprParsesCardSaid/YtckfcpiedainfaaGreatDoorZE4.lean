/-
  PLAIN: the document's way to cut a token is the program's; the marks ahead. No program stands in it.
-/
import Derived.Test.YtckfcpiedainfaaGreatDoorZE3
namespace Go.Proofs.YtckfcpiedainfaaGreatDoor
open Go
set_option linter.unusedVariables false
def markStep (r : List UInt8) (p : List UInt8 × Nat) (m : List UInt8) : List UInt8 × Nat :=
  (if common m r = m.length ∧ p.1.length < common m r then m else p.1, max p.2 (common m r))
def ahead (r : List UInt8) : List UInt8 × Nat := marksL.foldl (markStep r) ([], 0)
def firsts : List UInt8 := [46, 35, 45, 94, 63, 33, 40, 41, 43, 42, 61, 60, 58]
def checkM (q : List UInt8) : Bool :=
  decide ((ahead q).2 ≤ q.length) && (List.range q.length).all (fun k => if k < (ahead q).2 then begM (q.take (k + 1)) else if k = (ahead q).2 then !begM (q.take (k + 1)) else true)
  && (if markB (q.take (ahead q).2) then (ahead q).1 == q.take (ahead q).2 else (ahead q).1 == [])
theorem check2 : ∀ c ∈ firsts, ∀ d : Fin 256, checkM [c, UInt8.ofNat d.val] = true := by decide +kernel
theorem check1 : ∀ c ∈ firsts, checkM [c] = true := by decide +kernel
theorem marks_two : ∀ m ∈ marksL, m.length ≤ 2 ∧ m ≠ [] := by decide
theorem marks_first : ∀ m ∈ marksL, ∃ c ∈ firsts, m.head? = some c := by decide
theorem foldl_congr {α β : Type} (f g : β → α → β) : ∀ (l : List α) (b : β), (∀ a ∈ l, ∀ b, f b a = g b a) → l.foldl f b = l.foldl g b
  | [], b, _ => rfl
  | a :: l, b, h => by
    rw [List.foldl_cons, List.foldl_cons, h a (by simp)]
    exact foldl_congr f g l _ fun x hx => h x (by simp [hx])
theorem foldl_still {α β : Type} (f : β → α → β) (b : β) : ∀ (l : List α), (∀ a ∈ l, f b a = b) → l.foldl f b = b
  | [], _ => rfl
  | a :: l, h => by
    rw [List.foldl_cons, h a (by simp)]
    exact foldl_still f b l fun x hx => h x (by simp [hx])
theorem ahead_take (r : List UInt8) : ahead r = ahead (r.take 2) := by
  unfold ahead
  refine foldl_congr _ _ _ _ fun m hm b => ?_
  unfold markStep
  rw [common_take m r 2 (marks_two m hm).1]
theorem begM_long {l : List UInt8} (h : 2 < l.length) : begM l = false := by
  rw [Bool.eq_false_iff]
  intro hd
  unfold begM at hd
  rw [List.any_eq_true] at hd
  obtain ⟨m, hm, hp⟩ := hd
  have := (List.isPrefixOf_iff_prefix.1 hp).length_le
  have := (marks_two m hm).1
  omega
/-- what the marks ahead tell: how far, and which -/
structure AheadIs (r : List UInt8) : Prop where
  far : FarIs begM r (ahead r).2
  yes : markB (r.take (ahead r).2) = true → (ahead r).1 = r.take (ahead r).2
  no : markB (r.take (ahead r).2) = false → (ahead r).1 = []
theorem ahead_of_check {q : List UInt8} (h : checkM q = true) : AheadIs q := by
  unfold checkM at h
  rw [Bool.and_eq_true, Bool.and_eq_true, decide_eq_true_eq, List.all_eq_true] at h
  obtain ⟨⟨h1, h2⟩, h3⟩ := h
  refine ⟨⟨h1, fun k hk => ?_, fun hlt => ?_⟩, fun hm => ?_, fun hm => ?_⟩
  · have := h2 k (by rw [List.mem_range]; omega)
    rwa [if_pos hk] at this
  · have := h2 (ahead q).2 (by rw [List.mem_range]; exact hlt)
    rw [if_neg (by omega), if_pos rfl] at this
    simpa using this
  · rw [if_pos hm] at h3; exact eq_of_beq h3
  · rw [if_neg (by rw [hm]; simp)] at h3; exact eq_of_beq h3
theorem ahead_is (r : List UInt8) : AheadIs r := by
  cases r with
  | nil => exact ahead_of_check (by decide +kernel)
  | cons c t =>
    by_cases hc : c ∈ firsts
    · cases t with
      | nil => exact ahead_of_check (check1 c hc)
      | cons d u =>
        have h := ahead_of_check (q := [c, d]) (by have := check2 c hc ⟨d.toNat, d.toNat_lt⟩; simpa using this)
        have ha : ahead (c :: d :: u) = ahead [c, d] := by rw [ahead_take]; rfl
        have hle := h.far.le
        simp only [List.length_cons, List.length_nil] at hle
        have ht : ∀ k, k ≤ 2 → (c :: d :: u).take k = [c, d].take k := by
          intro k hk
          match k, hk with
          | 0, _ => rfl
          | 1, _ => rfl
          | 2, _ => rfl
        refine ⟨⟨by rw [ha]; simp only [List.length_cons]; omega, fun k hk => ?_, fun hlt => ?_⟩, fun hm => ?_, fun hm => ?_⟩
        · rw [ha] at hk; rw [ht _ (by omega)]; exact h.far.yes k hk
        · rw [ha]
          by_cases h2 : (ahead [c, d]).2 < 2
          · rw [ht _ (by omega)]; exact h.far.no (by simpa using h2)
          · have e2 : (ahead [c, d]).2 = 2 := by omega
            rw [e2]
            cases u with
            | nil => rw [ha, e2] at hlt; simp at hlt
            | cons x u => exact begM_long (by simp)
        · rw [ha] at hm ⊢; rw [ht _ hle] at hm ⊢; exact h.yes hm
        · rw [ha] at hm ⊢; rw [ht _ hle] at hm; exact h.no hm
    · have h0 : ∀ m ∈ marksL, common m (c :: t) = 0 := by
        intro m hm
        obtain ⟨d, hd, he⟩ := marks_first m hm
        cases m with
        | nil => rfl
        | cons a m =>
          simp at he; subst he
          exact common_ne (fun e => hc (e ▸ hd))
      have ha : ahead (c :: t) = ([], 0) := by
        unfold ahead
        refine foldl_still _ _ _ fun m hm => ?_
        unfold markStep
        rw [h0 m hm]; simp
      have hb : begM [c] = false := by
        rw [Bool.eq_false_iff]
        intro hd
        unfold begM at hd
        rw [List.any_eq_true] at hd
        obtain ⟨m, hm, hp⟩ := hd
        obtain ⟨d, hd, he⟩ := marks_first m hm
        cases m with
        | nil => cases he
        | cons a m =>
          simp at he; subst he
          have := (List.cons_prefix_cons.1 (List.isPrefixOf_iff_prefix.1 hp)).1
          exact hc (this ▸ hd)
      refine ⟨⟨by rw [ha]; exact Nat.zero_le _, fun k hk => by rw [ha] at hk; exact absurd hk (by omega), fun _ => by rw [ha]; simpa using hb⟩, fun hm => ?_, fun _ => by rw [ha]⟩
      rw [ha] at hm
      have hm : markB [] = true := hm
      exact absurd hm (by decide)
def numQ (l : List UInt8) : Bool := match intT l with | some v => decide (0 ≤ v) | none => false
def begR (l : List UInt8) : Bool := numQ l || right l || begM l
def wholeR (l : List UInt8) : Option Tok :=
  if numQ l then some ⟨1, ba [], (intT l).getD 0, 0⟩
  else if wordB l then some ⟨4, ba l, 0, 0⟩
  else if right l then some ⟨3, ba l, 0, 0⟩
  else if markB l then some ⟨5, ba l, 0, 0⟩
  else none
def restR (r : List UInt8) (n : Nat) : Option Tok × Nat :=
  match wholeR (r.take n) with
  | none => (none, n)
  | some k => if k.kind ≠ 5 ∧ apart (r.drop n) = false then (none, n) else (some k, n)
def refT (r : List UInt8) : Option Tok × Nat := if r.head? = some 34 then textT r.tail else restR r (far begR r)
theorem numQ_head {l : List UInt8} (h : numQ l = true) : ∃ c u, l = c :: u ∧ isDg c = true := by
  unfold numQ at h
  cases hv : intT l with
  | none => rw [hv] at h; cases h
  | some v =>
    rw [hv] at h
    have h0 : 0 ≤ v := by simpa using h
    obtain ⟨k, rfl⟩ := Int.eq_ofNat_of_zero_le h0
    have e := (intT_out hv).1
    rw [itoa_of_nat] at e
    have ha := (dec_val k).2
    have hne := dec_ne k
    rw [e] at ha hne
    cases l with
    | nil => exact absurd rfl hne
    | cons c u => rw [List.all_cons, Bool.and_eq_true] at ha; exact ⟨c, u, rfl, ha.1⟩
theorem right_head {c : UInt8} {u : List UInt8} (h : right (c :: u) = true) : letB (c.toNat : Int) = true ∧ right [c] = true := by
  simp only [right, Bool.and_eq_true] at h
  refine ⟨h.1.2, ?_⟩
  simp [right, h.1.2]
theorem begM_head {c : UInt8} {u : List UInt8} (h : begM (c :: u) = true) : c ∈ firsts := by
  unfold begM at h
  rw [List.any_eq_true] at h
  obtain ⟨m, hm, hp⟩ := h
  obtain ⟨d, hd, he⟩ := marks_first m hm
  cases m with
  | nil => cases he
  | cons a m =>
    simp at he; subst he
    have := (List.cons_prefix_cons.1 (List.isPrefixOf_iff_prefix.1 hp)).1
    exact this ▸ hd
theorem first_plain : ∀ c ∈ firsts, letB (c.toNat : Int) = false ∧ isDg c = false := by decide
theorem dg_plain (c : UInt8) : isDg c = true → letB (c.toNat : Int) = false ∧ digP [c] = true ∧ c ≠ 34 := by
  revert c; apply all256; decide +kernel
theorem let_plain (c : UInt8) : letB (c.toNat : Int) = true → isDg c = false ∧ c ≠ 34 := by
  revert c; apply all256; decide +kernel
theorem dig_one (c : UInt8) : digP [c] = true → isDg c = true := by
  revert c; apply all256; decide +kernel
theorem word_right : ∀ m ∈ wordsL, right m = true := by decide
theorem wordB_right {l : List UInt8} (h : wordB l = true) : right l = true := word_right l (by simpa [wordB] using h)
theorem numQ_is {l : List UInt8} (h : numQ l = true) : digP l = true := by
  unfold numQ at h; unfold digP
  cases hv : intT l with
  | none => rw [hv] at h; cases h
  | some v => rfl
theorem is_numQ {c : UInt8} {u : List UInt8} (hc : isDg c = true) (h : digP (c :: u) = true) : numQ (c :: u) = true := by
  unfold digP at h; unfold numQ
  cases hv : intT (c :: u) with
  | none => rw [hv] at h; cases h
  | some v =>
    simp only [decide_eq_true_eq]
    by_cases h0 : 0 ≤ v
    · exact h0
    · exfalso
      have e := (intT_out hv).1
      obtain ⟨k, rfl⟩ : ∃ k : Nat, v = -(k : Int) := ⟨v.natAbs, by omega⟩
      rw [Lib.itoa_neg k (by omega)] at e
      have := (List.cons.inj e).1
      subst this
      revert hc; decide
theorem take_cons {c : UInt8} {t : List UInt8} {n : Nat} (h : 0 < n) : ∃ u, (c :: t).take n = c :: u := by
  obtain ⟨m, rfl⟩ : ∃ m, n = m + 1 := ⟨n - 1, by omega⟩
  exact ⟨t.take m, rfl⟩
theorem refT_eq (r : List UInt8) (hr : r ≠ []) : refT r = lexT r := by
  have hw := lexT_way r
  generalize hx : lexT r = x at hw
  cases r with
  | nil => exact absurd rfl hr
  | cons c t =>
    cases hw with
    | name n h1 h2 =>
      obtain ⟨c', t', e, hc⟩ := far_pos_head h1 h2
      obtain ⟨rfl, rfl⟩ := List.cons.inj e
      have hl := (right_head hc).1
      have hp := let_plain c hl
      have hN : ∀ u, numQ (c :: u) = false := by
        intro u; rw [Bool.eq_false_iff]; intro h
        obtain ⟨d, v, e, hd⟩ := numQ_head h
        have := (List.cons.inj e).1; subst this
        rw [hp.1] at hd; cases hd
      have hM : ∀ u, begM (c :: u) = false := by
        intro u; rw [Bool.eq_false_iff]; intro h
        have := (first_plain c (begM_head h)).1
        rw [hl] at this; cases this
      have hf : FarIs begR (c :: t) n := by
        refine ⟨h1.le, fun k hk => by unfold begR; rw [h1.yes k hk]; simp, fun hlt => ?_⟩
        have := h1.no hlt
        obtain ⟨u, hu⟩ := take_cons (c := c) (t := t) (n := n + 1) (by omega)
        unfold begR
        rw [this, hu, hN, hM]; rfl
      unfold refT
      rw [if_neg (by simp; exact hp.2), hf.eq]
      unfold restR nameT
      obtain ⟨u, hu⟩ := take_cons (c := c) (t := t) (n := n) h2
      have hr1 := h1.yes (n - 1) (by omega)
      rw [show n - 1 + 1 = n by omega] at hr1
      rw [hu] at hr1 ⊢
      unfold wholeR kindOf
      rw [if_neg (by rw [hN]; simp)]
      cases hwd : wordB (c :: u) with
      | true =>
        simp only [if_true]
        cases apart (List.drop n (c :: t)) <;> simp
      | false =>
        rw [if_neg (by simp), if_pos hr1]
        cases apart (List.drop n (c :: t)) <;> simp
    | int n h1 h2 h3 =>
      obtain ⟨c', t', e, hc⟩ := far_pos_head h2 h3
      obtain ⟨rfl, rfl⟩ := List.cons.inj e
      have hd := dig_one c hc
      have hp := dg_plain c hd
      have hR : ∀ u, right (c :: u) = false := by
        intro u; rw [Bool.eq_false_iff]; intro h
        have := (right_head h).1
        rw [hp.1] at this; cases this
      have hM : ∀ u, begM (c :: u) = false := by
        intro u; rw [Bool.eq_false_iff]; intro h
        have := (first_plain c (begM_head h)).2
        rw [hd] at this; cases this
      have hf : FarIs begR (c :: t) n := by
        refine ⟨h2.le, fun k hk => ?_, fun hlt => ?_⟩
        · have := h2.yes k hk
          obtain ⟨u, hu⟩ := take_cons (c := c) (t := t) (n := k + 1) (by omega)
          rw [hu] at this ⊢
          unfold begR; rw [is_numQ hd this]; rfl
        · have := h2.no hlt
          obtain ⟨u, hu⟩ := take_cons (c := c) (t := t) (n := n + 1) (by omega)
          rw [hu] at this ⊢
          unfold begR
          rw [hR, hM]
          cases hn : numQ (c :: u) with
          | true => rw [numQ_is hn] at this; cases this
          | false => rfl
      unfold refT
      rw [if_neg (by simp; exact hp.2.2), hf.eq]
      unfold restR intTk
      obtain ⟨u, hu⟩ := take_cons (c := c) (t := t) (n := n) h3
      have hr1 := h2.yes (n - 1) (by omega)
      rw [show n - 1 + 1 = n by omega] at hr1
      rw [hu] at hr1 ⊢
      unfold wholeR
      rw [if_pos (is_numQ hd hr1)]
      cases apart (List.drop n (c :: t)) <;> simp
    | text t' h1 h2 h3 =>
      obtain ⟨rfl, rfl⟩ := List.cons.inj h3
      unfold refT
      rw [if_pos (by rfl)]; rfl
    | mark n h1 h2 h3 h4 =>
      have hr0 : right [c] = false := by have := h1.no (by simp); simpa using this
      have hd0 : digP [c] = false := by have := h2.no (by simp); simpa using this
      have hR : ∀ u, right (c :: u) = false := by
        intro u; rw [Bool.eq_false_iff]; intro h
        have := (right_head h).2
        rw [hr0] at this; cases this
      have hN : ∀ u, numQ (c :: u) = false := by
        intro u; rw [Bool.eq_false_iff]; intro h
        obtain ⟨d, v, e, hd⟩ := numQ_head h
        have := (List.cons.inj e).1; subst this
        have := (dg_plain c hd).2.1
        rw [hd0] at this; cases this
      have hf : FarIs begR (c :: t) n := by
        refine ⟨h4.le, fun k hk => by unfold begR; rw [h4.yes k hk]; simp, fun hlt => ?_⟩
        have := h4.no hlt
        obtain ⟨u, hu⟩ := take_cons (c := c) (t := t) (n := n + 1) (by omega)
        rw [hu] at this ⊢
        unfold begR
        rw [this, hR, hN]; rfl
      unfold refT
      rw [if_neg h3, hf.eq]
      unfold restR markT
      by_cases h0 : n = 0
      · subst h0
        rw [List.take_zero]
        rw [show wholeR [] = none by decide, if_neg (by decide)]
      · obtain ⟨u, hu⟩ := take_cons (c := c) (t := t) (n := n) (by omega)
        rw [hu]
        unfold wholeR
        have hwd : wordB (c :: u) = false := by
          rw [Bool.eq_false_iff]; intro h
          rw [hR] at *
          have := wordB_right h; rw [hR] at this; cases this
        rw [if_neg (by rw [hN]; simp), if_neg (by rw [hwd]; simp), if_neg (by rw [hR]; simp)]
        cases markB (c :: u) <;> simp
def may (k : Tok) : Bool :=
  if k.kind = 1 then decide (0 ≤ k.int) && decide (k.text.data.toList = [])
  else if k.kind = 2 then decide (k.int = 0)
  else if k.kind = 3 then decide (k.int = 0) && right k.text.data.toList && !wordB k.text.data.toList
  else if k.kind = 4 then decide (k.int = 0) && wordB k.text.data.toList
  else if k.kind = 5 then decide (k.int = 0) && markB k.text.data.toList
  else false
end Go.Proofs.YtckfcpiedainfaaGreatDoor

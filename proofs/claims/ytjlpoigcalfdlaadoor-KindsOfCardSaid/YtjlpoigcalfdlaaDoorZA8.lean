/-
  KINDS IN PLAIN MATHEMATICS: the kind of a node, what is bound where, the first node that is wrong.
  KINDS IN PLAIN MATHEMATICS: the program's table, and that it tells what the document's tells.
  KINDS IN PLAIN MATHEMATICS: the nodes gone through one behind the other tell what the document tells.
-/
import Derived.Test.YtjlpoigcalfdlaaDoorZA7
namespace Go.Proofs.YtjlpoigcalfdlaaDoor
open Go
set_option linter.unusedVariables false
def bindsB (k : Int) : Bool := decide (31 ≤ k) && decide (k ≤ 34)
abbrev Bnd := List (List UInt8)
/-- what is bound at a node's j-th kid -/
def inner (k : Int) (s : ByteArray) (e : Bnd) (j : Nat) : Bnd := if j = 1 ∧ bindsB k = true then s.data.toList :: e else e
def oneK (k o : Int) : Int :=
  if (k = 8 ∧ o = 4) ∨ (k = 17 ∧ o = 4) ∨ (k = 16 ∧ o = 1) then 2
  else if (k = 9 ∧ o = 4) ∨ (k = 13 ∧ o = 4) then 5
  else if (k = 10 ∧ o = 4) ∨ (k = 11 ∧ o = 4) ∨ (k = 15 ∧ o = 5) then 4
  else if (k = 12 ∧ o = 4) ∨ (k = 29 ∧ o = 3) then 3
  else if (k = 18 ∧ o = 4) ∨ (k = 14 ∧ o = 5) ∨ (k = 19 ∧ o = 2) then 1 else 0
def twoK (k a b : Int) : Int :=
  if k = 20 then (if a = b ∧ (a = 1 ∨ a = 2) then a else 0)
  else if k = 21 ∨ k = 22 then (if a = 1 ∧ b = 1 then 1 else 0)
  else if k = 23 ∨ k = 24 then (if a = b ∧ a ≠ 5 then 3 else 0)
  else if k = 25 ∨ k = 26 then (if a = b ∧ (a = 1 ∨ a = 2) then 3 else 0)
  else if k = 27 ∨ k = 28 then (if a = 3 ∧ b = 3 then 3 else 0)
  else if k = 31 ∨ k = 32 then (if a = 5 ∧ b = 3 then 3 else 0)
  else if k = 33 then (if a = 5 ∧ b = 3 then 5 else 0)
  else if k = 34 then (if a = 5 ∧ b = 1 then 1 else 0) else 0
/-- a node's kind, by the kinds of its kids; 0: it is wrong, or a kid has none -/
def kindV (k : Int) (bd : Bool) (ks : List Int) : Int :=
  if ks.contains 0 = true then 0
  else if k = 1 then 1 else if k = 2 then 2 else if k = 3 ∨ k = 4 then 3 else if k = 5 ∨ k = 6 then 4 else if k = 7 then (if bd = true then 4 else 0)
  else if k = 30 then (match ks with | [a, b, c] => if a = 3 ∧ b = c then b else 0 | _ => 0)
  else match ks with
    | [a] => oneK k a
    | [a, b] => twoK k a b
    | _ => 0
namespace Fo
/-- the kinds of the trees of a row -/
def kr : Fo → (Nat → Bnd) → List Int
  | nil, _ => []
  | cons k s _ a r, e => kindV k ((e 0).contains s.data.toList) (kr a (inner k s (e 0))) :: kr r (fun j => e (j + 1))
/-- the kinds of all nodes -/
def ka : Fo → (Nat → Bnd) → List Int
  | nil, _ => []
  | cons k s _ a r, e => kindV k ((e 0).contains s.data.toList) (kr a (inner k s (e 0))) :: (ka a (inner k s (e 0)) ++ ka r (fun j => e (j + 1)))
/-- the first node that is wrong, a node behind its kids -/
def wr : Fo → Nat → (Nat → Bnd) → Option Nat
  | nil, _, _ => none
  | cons k s _ a r, p, e =>
    match wr a (p + 1) (inner k s (e 0)) with
    | some q => some q
    | none => if kindV k ((e 0).contains s.data.toList) (kr a (inner k s (e 0))) = 0 then some p else wr r (p + 1 + a.size) (fun j => e (j + 1))
/-- the nodes, each behind its kids; is it a variable that isn't bound there? -/
def post : Fo → Nat → (Nat → Bnd) → List (Nat × Bool)
  | nil, _, _ => []
  | cons k s _ a r, p, e => post a (p + 1) (inner k s (e 0)) ++ (p, k == 7 && !(e 0).contains s.data.toList) :: post r (p + 1 + a.size) (fun j => e (j + 1))
end Fo
theorem ka_len : ∀ (f : Fo) (e : Nat → Bnd), (f.ka e).length = f.size
  | .nil, _ => rfl
  | .cons k s i a r, e => by simp only [Fo.ka, Fo.size, List.length_cons, List.length_append, ka_len a, ka_len r]; omega
theorem kr_len : ∀ (f : Fo) (e : Nat → Bnd), (f.kr e).length = f.count
  | .nil, _ => rfl
  | .cons k s i a r, e => by simp only [Fo.kr, Fo.count, List.length_cons, kr_len r]; omega
theorem post_len : ∀ (f : Fo) (p : Nat) (e : Nat → Bnd), (f.post p e).length = f.size
  | .nil, _, _ => rfl
  | .cons k s i a r, p, e => by simp only [Fo.post, Fo.size, List.length_cons, List.length_append, post_len a, post_len r]; omega
theorem post_in : ∀ (f : Fo) (p : Nat) (e : Nat → Bnd), ∀ x ∈ f.post p e, p ≤ x.1 ∧ x.1 < p + f.size
  | .nil, _, _, x, h => by simp [Fo.post] at h
  | .cons k s i a r, p, e, x, h => by
    simp only [Fo.post, List.mem_append, List.mem_cons] at h
    simp only [Fo.size]
    rcases h with h | rfl | h
    · have := post_in a (p + 1) _ x h; omega
    · constructor <;> simp <;> omega
    · have := post_in r (p + 1 + a.size) _ x h; omega
/-- 0 at a place just where it is wrong -/
theorem wr_none : ∀ (f : Fo) (p : Nat) (e : Nat → Bnd), f.wr p e = none → ∀ v ∈ f.ka e, v ≠ 0
  | .nil, _, _, _, v, hv => by simp [Fo.ka] at hv
  | .cons k s i a r, p, e, h, v, hv => by
    unfold Fo.wr at h
    cases ha : a.wr (p + 1) (inner k s (e 0)) with
    | some q => rw [ha] at h; simp at h
    | none =>
      rw [ha] at h
      simp only at h
      by_cases h0 : kindV k ((e 0).contains s.data.toList) (a.kr (inner k s (e 0))) = 0
      · rw [if_pos h0] at h; cases h
      · rw [if_neg h0] at h
        simp only [Fo.ka, List.mem_cons, List.mem_append] at hv
        rcases hv with rfl | hv | hv
        · exact h0
        · exact wr_none a _ _ ha v hv
        · exact wr_none r _ _ h v hv
theorem kr_ka : ∀ (f : Fo) (e : Nat → Bnd), ∀ v ∈ f.kr e, v ∈ f.ka e
  | .nil, _, _, h => h
  | .cons k s i a r, e, v, h => by
    simp only [Fo.kr, List.mem_cons] at h
    simp only [Fo.ka, List.mem_cons, List.mem_append]
    rcases h with h | h
    · exact .inl h
    · exact .inr (.inr (kr_ka r _ v h))
theorem oneK_in (k o : Int) : 0 ≤ oneK k o ∧ oneK k o ≤ 5 := by
  unfold oneK
  repeat' split
  all_goals omega
theorem twoK_in {k a b : Int} (ha : 0 ≤ a ∧ a ≤ 5) : 0 ≤ twoK k a b ∧ twoK k a b ≤ 5 := by
  unfold twoK
  repeat' split
  all_goals omega
theorem kindV_in {k : Int} {bd : Bool} {ks : List Int} (h : ∀ v ∈ ks, 0 ≤ v ∧ v ≤ 5) : 0 ≤ kindV k bd ks ∧ kindV k bd ks ≤ 5 := by
  unfold kindV
  repeat' split
  all_goals first | omega | exact oneK_in _ _ | (refine twoK_in (h _ ?_); simp) | (have := h _ (by simp : (_ : Int) ∈ [_, _, _]); omega) | skip
  all_goals first | (rename_i b c _ _; have := h b (by simp); omega) | skip
theorem kr_in : ∀ (f : Fo) (e : Nat → Bnd), ∀ v ∈ f.kr e, 0 ≤ v ∧ v ≤ 5
  | .nil, _, _, h => by simp [Fo.kr] at h
  | .cons k s i a r, e, v, h => by
    simp only [Fo.kr, List.mem_cons] at h
    rcases h with rfl | h
    · exact kindV_in (kr_in a _)
    · exact kr_in r _ v h
end Go.Proofs.YtjlpoigcalfdlaaDoor
namespace Go.Proofs.YtjlpoigcalfdlaaDoor
open Go
set_option linter.unusedVariables false
def rowsL : List (List Nat) := [[0, 0, 0, 0], [2, 0, 0, 0], [4, 0, 0, 0], [8, 0, 0, 0], [8, 0, 0, 0], [16, 0, 0, 0], [16, 0, 0, 0], [16, 0, 0, 0], [4, 16, 0, 0], [32, 16, 0, 0], [16, 16, 0, 0], [16, 16, 0, 0], [8, 16, 0, 0], [32, 16, 0, 0], [2, 32, 0, 0], [16, 32, 0, 0], [4, 2, 0, 0], [4, 16, 0, 0], [2, 16, 0, 0], [2, 4, 0, 0], [6, 6, 6, 0], [2, 2, 2, 0], [2, 2, 2, 0], [8, 30, 30, 0], [8, 30, 30, 0], [8, 6, 6, 0], [8, 6, 6, 0], [8, 8, 8, 0], [8, 8, 8, 0], [8, 8, 0, 0], [62, 8, 62, 62], [8, 32, 8, 0], [8, 32, 8, 0], [32, 32, 8, 0], [2, 32, 2, 0]]
def popN : Nat → Nat → Nat
  | 0, _ => 0
  | f + 1, n => n % 2 + popN f (n / 2)
/-- how many kinds are in a set -/
def pop8 (n : Nat) : Nat := popN 8 n
def ctzN : Nat → Nat → Nat
  | 0, _ => 0
  | f + 1, n => if n % 2 = 1 then 0 else 1 + ctzN f (n / 2)
/-- the first kind of a set -/
def ctz8 (n : Nat) : Nat := ctzN 8 n
def foldK (row : List Nat) : Nat → Nat → List Int → Option Nat
  | _, m, [] => some m
  | i, m, x :: ks =>
    if 1 < pop8 (row.getD (i + 1) 0) then
      (if m &&& (row.getD (i + 1) 0 &&& 1 <<< x.toNat) = 0 then none else foldK row (i + 1) (m &&& (row.getD (i + 1) 0 &&& 1 <<< x.toNat)) ks)
    else (if row.getD (i + 1) 0 &&& 1 <<< x.toNat = 0 then none else foldK row (i + 1) m ks)
/-- what the program's table tells; 0: the node is wrong -/
def kindP (k : Int) (ks : List Int) : Int :=
  match foldK (rowsL.getD k.toNat []) 0 62 ks with
  | none => 0
  | some m => if 1 < pop8 ((rowsL.getD k.toNat []).getD 0 0) then ctz8 m else ctz8 ((rowsL.getD k.toNat []).getD 0 0)
def five : List Int := [1, 2, 3, 4, 5]
def kindAll : Bool := (List.range 35).all fun k => k == 0 ||
  (if (k : Int) ≤ 7 then kindP k [] == kindV k true []
   else if (k : Int) ≤ 19 ∨ k = 29 then five.all fun a => kindP k [a] == kindV k true [a]
   else if k = 30 then five.all fun a => five.all fun b => five.all fun c => kindP k [a, b, c] == kindV k true [a, b, c]
   else five.all fun a => five.all fun b => kindP k [a, b] == kindV k true [a, b])
theorem kindAll_is : kindAll = true := by decide +kernel
theorem five_mem {v : Int} (h : 1 ≤ v ∧ v ≤ 5) : v ∈ five := by
  have : v = 1 ∨ v = 2 ∨ v = 3 ∨ v = 4 ∨ v = 5 := by omega
  rcases this with rfl | rfl | rfl | rfl | rfl <;> decide
/-- the program's table tells what the document's tells -/
theorem kindP_is {k : Int} (h1 : 1 ≤ k) (h2 : k ≤ 34) {ks : List Int} (hn : kidsV k = ks.length) (hk : ∀ v ∈ ks, 1 ≤ v ∧ v ≤ 5) : kindP k ks = kindV k true ks := by
  obtain ⟨n, rfl⟩ : ∃ n : Nat, k = n := ⟨k.toNat, by omega⟩
  have ha := List.all_eq_true.1 kindAll_is n (List.mem_range.2 (by omega))
  have h0 : (n == 0) = false := by rw [beq_eq_false_iff_ne]; omega
  rw [h0, Bool.false_or] at ha
  unfold kidsV at hn
  rw [if_neg (by omega)] at hn
  by_cases h7 : (n : Int) ≤ 7
  · rw [if_pos h7] at hn ha
    obtain rfl : ks = [] := List.length_eq_zero_iff.1 (by omega)
    exact eq_of_beq ha
  · rw [if_neg h7] at hn ha
    by_cases h19 : (n : Int) ≤ 19 ∨ (n : Int) = 29
    · have h19' : (n : Int) ≤ 19 ∨ n = 29 := by omega
      rw [if_pos h19] at hn
      rw [if_pos h19'] at ha
      match ks, hn with
      | [a], _ => exact eq_of_beq (List.all_eq_true.1 ha a (five_mem (hk a (by simp))))
      | [], hn => simp at hn
      | _ :: _ :: _, hn => simp at hn; omega
    · have h19' : ¬ ((n : Int) ≤ 19 ∨ n = 29) := by omega
      rw [if_neg h19] at hn
      rw [if_neg h19'] at ha
      by_cases h30 : (n : Int) = 30
      · have h30' : n = 30 := by omega
        rw [if_pos h30] at hn
        rw [if_pos h30'] at ha
        match ks, hn with
        | [a, b, c], _ => exact eq_of_beq (List.all_eq_true.1 (List.all_eq_true.1 (List.all_eq_true.1 ha a (five_mem (hk a (by simp)))) b (five_mem (hk b (by simp)))) c (five_mem (hk c (by simp))))
        | [], hn => simp at hn
        | [_], hn => simp at hn
        | [_, _], hn => simp at hn
        | _ :: _ :: _ :: _ :: _, hn => simp at hn; omega
      · have h30' : ¬ n = 30 := by omega
        rw [if_neg h30] at hn
        rw [if_neg h30'] at ha
        match ks, hn with
        | [a, b], _ => exact eq_of_beq (List.all_eq_true.1 (List.all_eq_true.1 ha a (five_mem (hk a (by simp)))) b (five_mem (hk b (by simp))))
        | [], hn => simp at hn
        | [_], hn => simp at hn
        | _ :: _ :: _ :: _, hn => simp at hn; omega
inductive Run where
  | bad (at_ : Nat) (err : Int) : Run
  | ok (known : List Int) : Run
def runP (l : List EN) : List (Nat × Bool) → List Int → Run
  | [], K => .ok K
  | (p, b) :: r, K =>
    if b = true then .bad p 91 else
      match l[p]? with
      | none => .bad p 0
      | some n => if kindP n.kind (n.kids.map fun q => K.getD q.toNat 0) = 0 then .bad p 90 else runP l r (K.set p (kindP n.kind (n.kids.map fun q => K.getD q.toNat 0)))
theorem runP_app (l : List EN) : ∀ (xs ys : List (Nat × Bool)) (K : List Int), runP l (xs ++ ys) K = match runP l xs K with
    | .bad p e => .bad p e
    | .ok K' => runP l ys K'
  | [], ys, K => rfl
  | (p, b) :: r, ys, K => by
    rw [List.cons_append]
    cases b with
    | true => simp only [runP, if_true]
    | false =>
      cases hn : l[p]? with
      | none => simp only [runP, Bool.false_eq_true, if_false, hn]
      | some n =>
        simp only [runP, Bool.false_eq_true, if_false, hn]
        by_cases h0 : kindP n.kind (n.kids.map fun q => K.getD q.toNat 0) = 0
        · rw [if_pos h0, if_pos h0]
        · rw [if_neg h0, if_neg h0]; exact runP_app l r ys _
/-- values laid over a list from a place on -/
def over (K : List Int) (p : Nat) (vs : List Int) : List Int := K.take p ++ vs ++ K.drop (p + vs.length)
theorem over_len {K : List Int} {p : Nat} {vs : List Int} (h : p + vs.length ≤ K.length) : (over K p vs).length = K.length := by
  unfold over; simp only [List.length_append, List.length_take, List.length_drop]; omega
theorem over_nil (K : List Int) (p : Nat) : over K p [] = K := by
  unfold over; simp
theorem over_get {K : List Int} {p : Nat} {vs : List Int} (h : p + vs.length ≤ K.length) (j : Nat) : (over K p vs)[j]? = if j < p then K[j]? else if j < p + vs.length then vs[j - p]? else K[j]? := by
  unfold over
  have hl : (K.take p).length = p := by rw [List.length_take]; omega
  by_cases h1 : j < p
  · rw [if_pos h1, List.append_assoc, List.getElem?_append_left (by omega), List.getElem?_take, if_pos h1]
  · rw [if_neg h1]
    by_cases h2 : j < p + vs.length
    · rw [if_pos h2, List.getElem?_append_left (by rw [List.length_append]; omega), List.getElem?_append_right (by omega), hl]
    · rw [if_neg h2, List.getElem?_append_right (by rw [List.length_append]; omega), List.length_append, hl, List.getElem?_drop]
      congr 1; omega
theorem over_over {K : List Int} {p : Nat} {v : Int} {a r : List Int} (h : p + 1 + a.length + r.length ≤ K.length) : over ((over K (p + 1) a).set p v) (p + 1 + a.length) r = over K p (v :: (a ++ r)) := by
  have h1 : (over K (p + 1) a).length = K.length := over_len (by omega)
  apply List.ext_getElem?
  intro j
  rw [over_get (by rw [List.length_set, h1]; omega), over_get (by simp only [List.length_cons, List.length_append]; omega), List.getElem?_set, over_get (by omega)]
  simp only [List.length_cons, List.length_append, h1]
  by_cases j1 : j < p
  · have e1 : ¬ p = j := by omega
    rw [if_pos (by omega), if_neg e1, if_pos (by omega), if_pos j1]
  · rw [if_neg j1]
    by_cases j2 : j = p
    · subst j2
      rw [if_pos (by omega), if_pos rfl, if_pos (by omega), if_pos (by omega), Nat.sub_self]; rfl
    · have e1 : ¬ p = j := by omega
      by_cases j3 : j < p + 1 + a.length
      · rw [if_pos j3, if_neg e1, if_neg (by omega), if_pos j3, if_pos (by omega)]
        rw [show j - p = (j - (p + 1)) + 1 from by omega, List.getElem?_cons_succ, List.getElem?_append_left (by omega)]
      · rw [if_neg j3]
        by_cases j4 : j < p + 1 + a.length + r.length
        · rw [if_pos j4, if_pos (by omega), show j - p = (j - (p + 1)) + 1 from by omega, List.getElem?_cons_succ, List.getElem?_append_right (by omega)]
          congr 1; omega
        · rw [if_neg j4, if_neg e1, if_neg (by omega), if_neg (by omega), if_neg (by omega)]
end Go.Proofs.YtjlpoigcalfdlaaDoor
namespace Go.Proofs.YtjlpoigcalfdlaaDoor
open Go
set_option linter.unusedVariables false
/-- all nodes of a row are sound -/
def Sound (l : List EN) : Prop := ∀ n ∈ l, soundB n = true
theorem sound_kids {n : EN} (h : soundB n = true) : kidsV n.kind = n.kids.length := by
  unfold soundB soundV at h
  by_cases e : kidsV n.kind ≠ n.kids.length
  · rw [if_pos e] at h; cases h
  · exact Classical.not_not.1 e
theorem kidsV_in {k : Int} {m : Nat} (h : kidsV k = m) : 1 ≤ k ∧ k ≤ 34 := by
  unfold kidsV at h
  by_cases e : k < 1 ∨ 34 < k
  · rw [if_pos e] at h; omega
  · omega
theorem kindV_bd {k : Int} {bd : Bool} {ks : List Int} (h : ¬ (k = 7 ∧ bd = false)) : kindV k bd ks = kindV k true ks := by
  unfold kindV
  by_cases h7 : k = 7
  · subst h7
    have : bd = true := by cases bd; exact absurd ⟨rfl, rfl⟩ h; rfl
    rw [this]
  · simp only [if_neg h7]
/-- what stands where a row's trees begin, once its kinds are laid -/
theorem roots_at : ∀ (f : Fo) (p : Nat) (e : Nat → Bnd) (K : List Int), p + f.size ≤ K.length → (∀ j, j < f.size → K[p + j]? = (f.ka e)[j]?) → (f.offs p).map (fun q => K.getD q.toNat 0) = f.kr e
  | .nil, p, e, K, _, _ => rfl
  | .cons k s i a r, p, e, K, h, hk => by
    simp only [Fo.size] at h hk
    simp only [Fo.offs, List.map_cons, Fo.kr]
    congr 1
    · have := hk 0 (by omega)
      rw [Nat.add_zero] at this
      rw [Int.toNat_natCast, List.getD_eq_getElem?_getD, this]; rfl
    · refine roots_at r (p + 1 + a.size) _ K (by omega) fun j hj => ?_
      have := hk (1 + a.size + j) (by omega)
      rw [show p + (1 + a.size + j) = p + 1 + a.size + j from by omega] at this
      rw [this, show 1 + a.size + j = (a.size + j) + 1 from by omega]
      simp only [Fo.ka, List.getElem?_cons_succ]
      rw [List.getElem?_append_right (by rw [ka_len]; omega), ka_len]
      congr 1; omega
def tellR (l : List EN) (q : Nat) : Int := match l[q]? with
  | some n => if n.kind = 7 then 91 else 90
  | none => 0
theorem run_is (l : List EN) (hs : Sound l) : ∀ (f : Fo) (p : Nat) (e : Nat → Bnd) (K : List Int), At l p f → p + f.size ≤ K.length →
    runP l (f.post p e) K = match f.wr p e with
      | some q => .bad q (tellR l q)
      | none => .ok (over K p (f.ka e))
  | .nil, p, e, K, _, _ => by simp only [Fo.post, runP, Fo.wr, Fo.ka, over_nil]
  | .cons k s i a r, p, e, K, ⟨h1, h2, h3⟩, hK => by
    simp only [Fo.size] at hK
    simp only [Fo.post, Fo.wr, Fo.ka]
    rw [runP_app, run_is l hs a (p + 1) (inner k s (e 0)) K h2 (by omega)]
    cases ha : a.wr (p + 1) (inner k s (e 0)) with
    | some q => rfl
    | none =>
      simp only
      have hal : (a.ka (inner k s (e 0))).length = a.size := ka_len a _
      have hkn := sound_kids (hs _ (List.mem_of_getElem? h1))
      simp only at hkn
      have hin := kidsV_in hkn
      have hroot : ((a.offs (p + 1)).map fun q => (over K (p + 1) (a.ka (inner k s (e 0)))).getD q.toNat 0) = a.kr (inner k s (e 0)) := by
        refine roots_at a (p + 1) _ _ (by rw [over_len (by omega)]; omega) fun j hj => ?_
        rw [over_get (by omega), if_neg (by omega), if_pos (by omega)]
        congr 1; omega
      have hlen : (a.kr (inner k s (e 0))).length = (a.offs (p + 1)).length := by rw [kr_len, offs_len]
      have hval : ∀ v ∈ a.kr (inner k s (e 0)), 1 ≤ v ∧ v ≤ 5 := fun v hv => by
        have h0 := wr_none a _ _ ha v (kr_ka a _ v hv)
        have := kr_in a _ v hv
        omega
      have hkp : kindP k (a.kr (inner k s (e 0))) = kindV k true (a.kr (inner k s (e 0))) := kindP_is hin.1 hin.2 (by rw [hkn, hlen]) hval
      simp only [runP, h1, hroot, hkp]
      by_cases hb : k = 7 ∧ (e 0).contains s.data.toList = false
      · obtain ⟨rfl, hb2⟩ := hb
        have hz : kindV 7 false (a.kr (inner 7 s (e 0))) = 0 := by
          unfold kindV
          split
          · rfl
          · simp
        rw [hb2, hz]
        simp only [beq_self_eq_true, Bool.not_false, Bool.and_self, if_true, tellR, h1]
      · have hfree : (k == 7 && !(e 0).contains s.data.toList) = false := by
          cases h7 : (k == 7) with
          | false => rfl
          | true =>
            cases hc : (e 0).contains s.data.toList with
            | true => rfl
            | false => exact absurd ⟨eq_of_beq h7, hc⟩ hb
        rw [hfree, kindV_bd hb]
        simp only [Bool.false_eq_true, if_false]
        by_cases h0 : kindV k true (a.kr (inner k s (e 0))) = 0
        · rw [if_pos h0, if_pos h0]
          have h7 : k ≠ 7 := by
            rintro rfl
            unfold kindV at h0
            split at h0
            · rename_i hc
              have := hval 0 (by simpa using hc)
              omega
            · simp at h0
          simp only [tellR, h1, if_neg h7]
        · rw [if_neg h0, if_neg h0]
          have hol : ((over K (p + 1) (a.ka (inner k s (e 0)))).set p (kindV k true (a.kr (inner k s (e 0))))).length = K.length := by rw [List.length_set, over_len (by omega)]
          rw [run_is l hs r (p + 1 + a.size) _ _ h3 (by rw [hol]; omega)]
          cases r.wr (p + 1 + a.size) (fun j => e (j + 1)) with
          | some q => rfl
          | none =>
            simp only
            have hrl : (r.ka (fun j => e (j + 1))).length = r.size := ka_len r _
            have := over_over (K := K) (p := p) (v := kindV k true (a.kr (inner k s (e 0)))) (a := a.ka (inner k s (e 0))) (r := r.ka (fun j => e (j + 1))) (by omega)
            rw [hal] at this
            rw [this]
/-- what Each tells: the kinds, the place, the error -/
def eachV (l : List EN) : List Int × Int × Int :=
  if rightV l ≠ 0 then ([], 0, rightV l) else
    match wholeV l with
    | none => ([], 0, 0)
    | some f => match f.wr 0 (fun _ => []) with
      | some q => ([], q, tellR l q)
      | none => (f.ka (fun _ => []), 0, 0)
theorem Tree.whole {l : List EN} {f : Fo} (h : Tree l f) : wholeV l = some f := by
  have := at_takeV l f 0 h.at_
  rw [h.one] at this
  exact this
theorem eachV_bad {l : List EN} (h : rightV l ≠ 0) : eachV l = ([], 0, rightV l) := by unfold eachV; rw [if_pos h]
theorem eachV_tree {l : List EN} {f : Fo} (h0 : rightV l = 0) (h : Tree l f) : eachV l = match f.wr 0 (fun _ => []) with
      | some q => ([], (q : Int), tellR l q)
      | none => (f.ka (fun _ => []), 0, 0) := by
  unfold eachV
  rw [if_neg (by simp [h0]), h.whole]
/-- .. as the nodes are gone through -/
theorem eachV_run {l : List EN} {f : Fo} (h0 : rightV l = 0) (h : Tree l f) : eachV l = match runP l (f.post 0 (fun _ => [])) (List.replicate l.length 0) with
      | .bad q e => ([], (q : Int), e)
      | .ok K => (K, 0, 0) := by
  rw [eachV_tree h0 h, run_is l h.sound f 0 _ _ h.at_ (by rw [List.length_replicate, h.size]; omega)]
  cases f.wr 0 (fun _ => []) with
  | some q => rfl
  | none =>
    simp only [over, List.take_zero, List.nil_append]
    have hl : (f.ka (fun _ => [])).length = l.length := by rw [ka_len, h.size]
    rw [List.drop_of_length_le (by rw [List.length_replicate]; omega), List.append_nil]
end Go.Proofs.YtjlpoigcalfdlaaDoor

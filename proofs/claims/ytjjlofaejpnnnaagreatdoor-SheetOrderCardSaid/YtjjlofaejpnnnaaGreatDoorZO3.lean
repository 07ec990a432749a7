/-
  PLAIN VALUES: the two ways of telling that a model is right come to the same. No program stands in it.
  WALKS: Word, of the program and of the document.
  WALKS: the place of a number among the nodes: At of the document.
  WALKS: the place of a number among the nodes: index, has, node of the program.
-/
import Derived.Test.YtjjlofaejpnnnaaGreatDoorZO2
import Derived.Test.YtjjlofaejpnnnaaGreatDoorRows
import Derived.WalkSpells
import Derived.WalkLawsBesides
import Derived.Test.YtjjlofaejpnnnaaGreatDoorShelf
import Derived.Deep.QuietTactic
import Derived.BigQuiet
namespace Go.Proofs.YtjjlofaejpnnnaaGreatDoor
open Go Go.RowKit
set_option linter.unusedVariables false
theorem ndOf_some {nds : List Nd} {id : Int} {nd : Nd} (h : ndOf nds id = some nd) : ∃ i, ixOf nds id = some i ∧ nds[i]? = some nd ∧ nd.id = id := by
  unfold ndOf at h
  cases hi : ixOf nds id with
  | none => rw [hi] at h; cases h
  | some i =>
    rw [hi] at h
    obtain ⟨nd', h1, h2⟩ := ixOf_some hi
    have h : nds[i]? = some nd := h
    rw [h1] at h
    injection h with h
    subst h
    exact ⟨i, rfl, h1, h2⟩
theorem ndOf_is {nds : List Nd} (hr : Rise nds) {i : Nat} {nd : Nd} (h : nds[i]? = some nd) : ndOf nds nd.id = some nd := by
  unfold ndOf; rw [ixOf_is hr h rfl]; exact h
theorem kidsB_spec {nds : List Nd} {id : Int} : ∀ {ks seen : List Int}, kidsB nds id seen ks = true ↔ (∀ k ∈ ks, (∃ nd, ndOf nds k = some nd ∧ nd.par = id) ∧ k ∉ seen) ∧ ks.Nodup
  | [], seen => by simp [kidsB]
  | k :: r, seen => by
    simp only [kidsB, Bool.and_eq_true]
    rw [kidsB_spec]
    constructor
    · rintro ⟨⟨h1, h2⟩, h3, h4⟩
      have hk : k ∉ seen := by simpa using h2
      refine ⟨fun x hx => ?_, ?_⟩
      · rcases List.mem_cons.1 hx with rfl | hx
        · refine ⟨?_, hk⟩
          cases hn : ndOf nds x with
          | none => rw [hn] at h1; cases h1
          | some nd => rw [hn] at h1; exact ⟨nd, rfl, by simpa using h1⟩
        · have := h3 x hx
          exact ⟨this.1, fun hs => this.2 (List.mem_cons_of_mem _ hs)⟩
      · rw [List.nodup_cons]
        exact ⟨fun hm => (h3 k hm).2 (List.mem_cons_self ..), h4⟩
    · rintro ⟨h1, h2⟩
      rw [List.nodup_cons] at h2
      obtain ⟨⟨nd, hn, hp⟩, hk⟩ := h1 k (List.mem_cons_self ..)
      refine ⟨⟨by rw [hn]; simpa using hp, by simpa using hk⟩, fun x hx => ⟨(h1 x (List.mem_cons_of_mem _ hx)).1, fun hs => ?_⟩, h2.2⟩
      rcases List.mem_cons.1 hs with rfl | hs
      · exact h2.1 hx
      · exact (h1 x (List.mem_cons_of_mem _ hx)).2 hs
/-- no more numbers than there are, if each is met once -/
theorem nodup_le : ∀ {l m : List Int}, l.Nodup → (∀ x ∈ l, x ∈ m) → l.length ≤ m.length
  | [], m, _, _ => Nat.zero_le _
  | x :: l, m, h, hs => by
    rw [List.nodup_cons] at h
    have hx := hs x (List.mem_cons_self ..)
    have := nodup_le (l := l) (m := m.erase x) h.2 (fun y hy => (List.mem_erase_of_ne (fun e => h.1 (by rw [← e]; exact hy))).2 (hs y (List.mem_cons_of_mem _ hy)))
    rw [List.length_erase_of_mem hx] at this
    have := List.length_pos_of_mem hx
    rw [List.length_cons]
    omega
theorem looseB_spec : ∀ {a : List Int} {nds : List Nd}, looseB a nds = false ↔ ∀ (j : Nat) x nd, a[j]? = some x → nds[j]? = some nd → x ≠ -1 ∨ nd.par = 0
  | [], nds => by simp [looseB]
  | _ :: _, [] => by simp [looseB]
  | x :: a, n :: r => by
    simp only [looseB, Bool.or_eq_false_iff, looseB_spec]
    constructor
    · rintro ⟨h1, h2⟩ j y nd hy hn
      match j, hy, hn with
      | 0, hy, hn =>
        obtain rfl : x = y := by simpa using hy
        obtain rfl : n = nd := by simpa using hn
        by_cases e : x = -1
        · right; subst e; simpa using h1
        · exact .inl e
      | j + 1, hy, hn => exact h2 j y nd (by simpa using hy) (by simpa using hn)
    · intro h
      refine ⟨?_, fun j y nd hy hn => h (j + 1) y nd (by simpa using hy) (by simpa using hn)⟩
      rcases h 0 x n rfl rfl with e | e
      · simp [e]
      · simp [e]
/-- what the numbers of the parents tell -/
structure Join (nds : List Nd) (a : List Int) : Prop where
  len : a.length = nds.length
  kid : ∀ (i : Nat) nd, nds[i]? = some nd → ∀ k ∈ nd.kids, ∃ j kd, ixOf nds k = some j ∧ nds[j]? = some kd ∧ kd.par = nd.id ∧ a.getD j 0 = i
  nodup : ∀ (i : Nat) nd, nds[i]? = some nd → nd.kids.Nodup
  root : ∀ (j : Nat) nd, nds[j]? = some nd → nd.par ≠ 0 → a.getD j 0 ≠ -1
  from_ : ∀ (j : Nat) nd, nds[j]? = some nd → a.getD j 0 ≠ -1 → ∃ (i : Nat) (p : Nd), nds[i]? = some p ∧ nd.id ∈ p.kids ∧ a.getD j 0 = i ∧ nd.par = p.id
theorem pairs_nodup {nds : List Nd} {i : Nat} {nd : Nd} (h : (List.map (·.k) (pairsN 0 nds)).Nodup) (hi : nds[i]? = some nd) : nd.kids.Nodup := by
  have key : ∀ (r : List Nd) (m i : Nat) (nd : Nd), (List.map (·.k) (pairsN m r)).Nodup → r[i]? = some nd → nd.kids.Nodup := by
    intro r
    induction r with
    | nil => intro m i nd _ h; simp at h
    | cons x r ih =>
      intro m i nd h hi
      rw [pairsN, List.map_append, List.nodup_append] at h
      match i, hi with
      | 0, hi =>
        obtain rfl : x = nd := by simpa using hi
        have := h.1
        rw [pairsOf, List.map_map] at this
        have e : ((fun p : Pair => p.k) ∘ fun k => (⟨m, x.id, k⟩ : Pair)) = id := rfl
        rw [e, List.map_id] at this
        exact this
      | i + 1, hi => exact ih (m + 1) i nd h.2.1 (by simpa using hi)
  exact key nds 0 i nd h hi
theorem join_of {nds : List Nd} (hr : Rise nds) {a : List Int} (h : joinS nds = some a) : Join nds a := by
  unfold joinS at h
  rw [joinN_F] at h
  cases hf : joinF nds (List.replicate nds.length (-1)) (pairsN 0 nds) with
  | none => rw [hf] at h; cases h
  | some a' =>
    rw [hf] at h
    simp only at h
    split at h
    · cases h
    · rename_i hl
      injection h with h
      subst h
      have hl : looseB a' nds = false := by simpa using hl
      have hlen := joinF_len hf
      rw [List.length_replicate] at hlen
      obtain ⟨h1, h2, h3, h4⟩ := joinF_out (by simp) hf
      have hroot : ∀ (j : Nat) nd, nds[j]? = some nd → nd.par ≠ 0 → a'.getD j 0 ≠ -1 := by
        intro j nd hj hp
        have hjl : j < a'.length := by rw [hlen]; exact (List.getElem?_eq_some_iff.1 hj).1
        have := looseB_spec.1 hl j a'[j] nd (List.getElem?_eq_getElem hjl) hj
        rw [List.getD_eq_getElem?_getD, List.getElem?_eq_getElem hjl, Option.getD_some]
        rcases this with e | e
        · exact e
        · exact absurd e hp
      refine ⟨hlen, fun i nd hi k hk => ?_, fun i nd hi => pairs_nodup h2 hi, hroot, fun j nd hj hne => ?_⟩
      · have hm : (⟨i, nd.id, k⟩ : Pair) ∈ pairsN 0 nds := mem_pairs.2 ⟨i, nd, hi, by simp, rfl, hk⟩
        obtain ⟨j, kd, hj, hkd, hp⟩ := h1 _ hm
        exact ⟨j, kd, hj, hkd, hp, (h3 _ hm j hj).2⟩
      · apply Classical.byContradiction
        intro hno
        apply hne
        rw [h4 j (fun p hp e => hno ?_), List.getD_eq_getElem?_getD, List.getElem?_replicate]
        · have : j < nds.length := (List.getElem?_eq_some_iff.1 hj).1
          simp [this]
        · obtain ⟨m, q, hq, e1, e2, e3⟩ := mem_pairs.1 hp
          obtain ⟨j', kd, hj', hkd, hpar⟩ := h1 p hp
          rw [e] at hj'
          injection hj' with hj'
          subst hj'
          rw [hj] at hkd
          injection hkd with hkd
          subst hkd
          obtain ⟨kd', hk', hid⟩ := ixOf_some e
          rw [hj] at hk'
          injection hk' with hk'
          subst hk'
          refine ⟨m, q, hq, by rw [hid]; exact e3, ?_, by rw [hpar, e2]⟩
          rw [(h3 p hp j e).2, e1]; simp
theorem below_of_lvl {nds : List Nd} (hr : Rise nds) {a : List Int} (hj : Join nds a) (hrole : ∀ (i : Nat) nd, nds[i]? = some nd → roleB nd = true) :
    ∀ (f i : Nat) nd, nds[i]? = some nd → (lvl a f i).isSome = true → belowB nds f nd = true
  | 0, i, nd, hi, h => by
    rw [lvl, if_neg (by omega)] at h
    cases h
  | f + 1, i, nd, hi, h => by
    have ro := hrole i nd hi
    unfold roleB at ro
    rw [belowB]
    by_cases hp : nd.par = 0
    · rw [if_pos hp] at ro ⊢; exact ro
    · rw [if_neg hp] at ro ⊢
      obtain ⟨i', p, hp', hk, ha, hpar⟩ := hj.from_ i nd hi (hj.root i nd hi hp)
      rw [hpar, ndOf_is hr hp']
      simp only [Bool.and_eq_true]
      rw [lvl, if_neg (by omega)] at h
      have e : a.getD (i : Int).toNat (-1) = i' := by
        have hl : i < a.length := by rw [hj.len]; exact (List.getElem?_eq_some_iff.1 hi).1
        rw [Int.toNat_natCast, ← ha, List.getD_eq_getElem?_getD, List.getD_eq_getElem?_getD, List.getElem?_eq_getElem hl]
        rfl
      rw [e] at h
      exact ⟨⟨ro, by simpa using hk⟩, below_of_lvl hr hj hrole f i' p hp' (by simpa using h)⟩
theorem lvl_of_below {nds : List Nd} (hr : Rise nds) {a : List Int} (hj : Join nds a) :
    ∀ (f i : Nat) nd, nds[i]? = some nd → belowB nds f nd = true → (lvl a f i).isSome = true
  | 0, i, nd, hi, h => by rw [belowB] at h; cases h
  | f + 1, i, nd, hi, h => by
    have hl : i < a.length := by rw [hj.len]; exact (List.getElem?_eq_some_iff.1 hi).1
    have e0 : a.getD (i : Int).toNat (-1) = a.getD i 0 := by
      rw [Int.toNat_natCast, List.getD_eq_getElem?_getD, List.getD_eq_getElem?_getD, List.getElem?_eq_getElem hl]
      rfl
    rw [lvl, if_neg (by omega), e0]
    rw [belowB] at h
    by_cases hp : nd.par = 0
    · have : a.getD i 0 = -1 := by
        apply Classical.byContradiction
        intro hne
        obtain ⟨i', p, hp', hk, ha, hpar⟩ := hj.from_ i nd hi hne
        have := hr.pos i' p hp'
        omega
      rw [this]
      cases f <;> simp [lvl]
    · rw [if_neg hp] at h
      obtain ⟨i', p, hp', hk, ha, hpar⟩ := hj.from_ i nd hi (hj.root i nd hi hp)
      rw [hpar, ndOf_is hr hp'] at h
      simp only [Bool.and_eq_true] at h
      rw [ha]
      have := lvl_of_below hr hj f i' p hp' h.2
      simpa using this
theorem checkB_eq (next : Int) (nds : List Nd) : checkB next nds = rightB next nds := by
  unfold checkB rightB
  cases hn : numB next nds with
  | false => rfl
  | true =>
    rw [Bool.true_and, Bool.true_and]
    have hr : Rise nds := by unfold numB at hn; rw [Bool.and_eq_true] at hn; exact Rise.of hn.2
    rw [Bool.eq_iff_iff, Bool.and_eq_true, List.all_eq_true, List.all_eq_true]
    constructor
    · rintro ⟨hs, hj⟩
      cases ha : joinS nds with
      | none => rw [ha] at hj; cases hj
      | some a =>
        rw [ha] at hj
        have hj : rootedB a = true := hj
        have J := join_of hr ha
        intro nd hm
        obtain ⟨i, hi⟩ := List.getElem?_of_mem hm
        have hsp := hs nd hm
        unfold speltB at hsp
        simp only [Bool.and_eq_true] at hsp
        have hk : kidsB nds nd.id [] nd.kids = true := kidsB_spec.2 ⟨fun k hk => by
          obtain ⟨j, kd, h1, h2, h3, h4⟩ := J.kid i nd hi k hk
          refine ⟨⟨kd, ?_, h3⟩, by simp⟩
          unfold ndOf; rw [h1]; exact h2, J.nodup i nd hi⟩
        have hlen : nd.kids.length ≤ nds.length := by
          have := nodup_le (m := nds.map (·.id)) (J.nodup i nd hi) (fun k hk => by
            obtain ⟨j, kd, h1, h2, h3, h4⟩ := J.kid i nd hi k hk
            obtain ⟨kd', h5, h6⟩ := ixOf_some h1
            exact List.mem_map.2 ⟨kd', List.mem_of_getElem? h5, h6⟩)
          simpa using this
        rw [Bool.and_eq_true]
        refine ⟨?_, below_of_lvl hr J (fun i nd hi => ?_) 64 i nd hi ?_⟩
        · unfold plainB
          simp only [Bool.and_eq_true, decide_eq_true_eq]
          exact ⟨⟨⟨⟨hsp.1.1.1, hlen⟩, hsp.1.2⟩, hsp.2⟩, hk⟩
        · have := hs nd (List.mem_of_getElem? hi)
          unfold speltB at this
          simp only [Bool.and_eq_true] at this
          exact this.1.1.2
        · unfold rootedB at hj
          rw [List.all_eq_true] at hj
          exact hj i (by rw [List.mem_range, J.len]; exact (List.getElem?_eq_some_iff.1 hi).1)
    · intro hall
      have hk : ∀ nd ∈ nds, (∀ k ∈ nd.kids, ∃ kd, ndOf nds k = some kd ∧ kd.par = nd.id) ∧ nd.kids.Nodup := by
        intro nd hm
        have := hall nd hm
        unfold plainB at this
        simp only [Bool.and_eq_true] at this
        have h := kidsB_spec.1 this.1.2
        exact ⟨fun k hk => (h.1 k hk).1, h.2⟩
      obtain ⟨a', ha'⟩ : ∃ a', joinF nds (List.replicate nds.length (-1)) (pairsN 0 nds) = some a' := by
        refine joinF_in (by simp) (fun p hp => ?_) ?_ (fun p hp j hj => ?_)
        · obtain ⟨m, nd, h1, h2, h3, h4⟩ := mem_pairs.1 hp
          obtain ⟨kd, h5, h6⟩ := (hk nd (List.mem_of_getElem? h1)).1 _ h4
          obtain ⟨j, h7, h8, h9⟩ := ndOf_some h5
          exact ⟨j, kd, h7, h8, by rw [h6, h3]⟩
        · have key : ∀ (r : List Nd) (m : Nat), (∀ i nd, r[i]? = some nd → nds[m + i]? = some nd) → (List.map (·.k) (pairsN m r)).Nodup := by
            intro r
            induction r with
            | nil => intro m _; exact List.nodup_nil
            | cons x r ih =>
              intro m hsub
              rw [pairsN, List.map_append, List.nodup_append]
              have hx : nds[m]? = some x := by have := hsub 0 x rfl; simpa using this
              refine ⟨?_, ih (m + 1) (fun i nd hi => by have := hsub (i + 1) nd (by simpa using hi); rwa [show m + 1 + i = m + (i + 1) from by omega]), ?_⟩
              · rw [pairsOf, List.map_map]
                have e : ((fun p : Pair => p.k) ∘ fun k => (⟨m, x.id, k⟩ : Pair)) = id := rfl
                rw [e, List.map_id]
                exact (hk x (List.mem_of_getElem? hx)).2
              · intro k hk1 k' hk2 e
                subst e
                obtain ⟨p, hp, e1⟩ := List.mem_map.1 hk1
                obtain ⟨k', hk', rfl⟩ := List.mem_map.1 hp
                obtain ⟨q, hq, e2⟩ := List.mem_map.1 hk2
                obtain ⟨m', y, h1, h2, h3, h4⟩ := mem_pairs.1 hq
                have hy : nds[m + 1 + m']? = some y := by have := hsub (m' + 1) y (by simpa using h1); rwa [show m + 1 + m' = m + (m' + 1) from by omega]
                obtain ⟨kd, h5, h6⟩ := (hk x (List.mem_of_getElem? hx)).1 k' hk'
                obtain ⟨kd', h7, h8⟩ := (hk y (List.mem_of_getElem? hy)).1 q.k h4
                have e3 : q.k = k' := by rw [e2, ← e1]
                rw [e3, h5] at h7
                injection h7 with h7
                subst h7
                have := hr.inj hx hy (by omega)
                omega
          exact key nds 0 (fun i nd hi => by simpa using hi)
        · have := ixOf_lt hj
          rw [List.getD_eq_getElem?_getD, List.getElem?_replicate, if_pos this]
          rfl
      have hlen := joinF_len ha'
      rw [List.length_replicate] at hlen
      obtain ⟨h1, h2, h3, h4⟩ := joinF_out (by simp) ha'
      have hnl : looseB a' nds = false := by
        rw [looseB_spec]
        intro j x nd hx hnd
        by_cases hp : nd.par = 0
        · exact .inr hp
        · left
          have hb := hall nd (List.mem_of_getElem? hnd)
          rw [Bool.and_eq_true] at hb
          have hb := hb.2
          rw [belowB, if_neg hp] at hb
          cases hpn : ndOf nds nd.par with
          | none => rw [hpn] at hb; cases hb
          | some p =>
            rw [hpn] at hb
            simp only [Bool.and_eq_true] at hb
            obtain ⟨i, h5, h6, h7⟩ := ndOf_some hpn
            have hm : (⟨i, p.id, nd.id⟩ : Pair) ∈ pairsN 0 nds := mem_pairs.2 ⟨i, p, h6, by simp, rfl, by simpa using hb.1.2⟩
            have := (h3 _ hm j (ixOf_is hr hnd rfl)).2
            rw [List.getD_eq_getElem?_getD, hx] at this
            simp only [Option.getD_some] at this
            rw [this]
            omega
      have ha : joinS nds = some a' := by
        unfold joinS
        rw [joinN_F, ha']
        simp only
        rw [if_neg (by rw [hnl]; simp)]
      have J := join_of hr ha
      refine ⟨fun nd hm => ?_, ?_⟩
      · have h := hall nd hm
        rw [Bool.and_eq_true] at h
        have hb := h.2
        have hp := h.1
        unfold plainB at hp
        simp only [Bool.and_eq_true] at hp
        unfold speltB
        simp only [Bool.and_eq_true]
        refine ⟨⟨⟨hp.1.1.1.1, ?_⟩, hp.1.1.2⟩, hp.1.2⟩
        unfold roleB
        rw [belowB] at hb
        by_cases h0 : nd.par = 0
        · rw [if_pos h0] at hb ⊢; exact hb
        · rw [if_neg h0] at hb ⊢
          cases hpn : ndOf nds nd.par with
          | none => rw [hpn] at hb; cases hb
          | some p =>
            rw [hpn] at hb
            simp only [Bool.and_eq_true] at hb
            exact hb.1.1
      · rw [ha]
        show rootedB a' = true
        unfold rootedB
        rw [List.all_eq_true]
        intro i hi
        rw [List.mem_range, hlen] at hi
        have hi' : nds[i]? = some nds[i] := List.getElem?_eq_getElem hi
        have := hall nds[i] (List.mem_of_getElem? hi')
        rw [Bool.and_eq_true] at this
        exact lvl_of_below hr J 64 i _ hi' this.2
end Go.Proofs.YtjjlofaejpnnnaaGreatDoor
namespace Go.Proofs.YtjjlofaejpnnnaaGreatDoor
open Go Go.RowKit
set_option linter.unusedVariables false
/-- a yes or no, the world as it was -/
def Says (w : World) (b : Bool) (e : Ending) (w' : World) : Prop := e = .returned (.bool b) ∧ w = w'
theorem says_ret {b : Bool} {w : World} {P : Program} {f : FuncId} {args : Array Value} (h : Calls P f args w (Says w b)) : Calls P f args w (Ret w (.bool b)) :=
  h.mono fun e w' ⟨he, hw⟩ => ⟨he, by rw [← hw]; exact Below.refl _ _⟩
set_option maxHeartbeats 400000 in
theorem letter_any (n : Int) (w : World) : Calls Tryz.prog 98 #[.int .u8 n] w (Says w (letB n)) := by
  go_enter Tryz.func98, Tryz.ntmps98
  go_wp2
  all_goals go_ret
  all_goals refine ⟨ret_bool ?_, rfl⟩
  all_goals (unfold letB; first | (simp [*]; done) | (simp; omega) | (rw [Bool.eq_iff_iff]; simp; omega) | (rw [Bool.eq_iff_iff]; simp [*]; omega))
/-- a text without a sign of the workbench's own ahead of it -/
def strip (s : ByteArray) : ByteArray := if h : 0 < s.size then (if s[0].toNat = 63 then s.extract 1 s.size else s) else s
theorem strip_word (s : ByteArray) : wordB s = nameL (strip s).data.toList := by
  unfold strip
  by_cases h : 0 < s.size
  · rw [dif_pos h]
    by_cases hc : s[0].toNat = 63
    · rw [if_pos hc]; exact word_q s h hc
    · rw [if_neg hc]; exact word_p s (fun _ => hc)
  · rw [dif_neg h]; exact word_p s (fun h' => absurd h' h)
theorem strip_le (s : ByteArray) : (strip s).size ≤ s.size := by
  unfold strip
  split
  · split
    · have := behind1_size s ‹_›; omega
    · exact Nat.le_refl _
  · exact Nat.le_refl _
theorem trim_strip (s : ByteArray) : (⟨(Lib.trimPrefix s.data.toList [63]).toArray⟩ : ByteArray) = strip s := by
  apply ByteArray.ext
  unfold Lib.trimPrefix Lib.hasPrefix strip
  by_cases h : 0 < s.size
  · have e : s.data.toList = s[0] :: s.data.toList.drop 1 := by have := drop_get' s 0 h; simpa using this
    rw [dif_pos h]
    by_cases hc : s[0].toNat = 63
    · have e63 : s[0] = 63 := UInt8.toNat_inj.1 hc
      rw [if_pos hc, if_pos (by rw [e, e63]; simp [List.isPrefixOf])]
      apply Array.toList_inj.1
      rw [behind1]
      simp
    · have e63 : ¬ s[0] = 63 := fun e => hc (by rw [e]; rfl)
      rw [if_neg hc, if_neg (by rw [e]; simp only [List.isPrefixOf, Bool.and_eq_true, beq_iff_eq]; exact fun h => e63 h.1.symm)]
  · have h0 : s.data.toList = [] := List.length_eq_zero_iff.1 (by rw [toList_eq]; omega)
    rw [dif_neg h, if_neg (by rw [h0]; simp [List.isPrefixOf])]
theorem trim_q (s : ByteArray) (w : World) : Calls Tryz.prog 97 #[.string s, .string ⟨#[63]⟩] w fun e w' => e = .returned (.string (strip s)) ∧ w = w' := by
  refine (Tryz.strings_TrimPrefix s ⟨#[63]⟩ w).mono ?_
  rintro e w' ⟨rfl, rfl⟩
  exact ⟨by rw [← trim_strip s], rfl⟩
set_option maxHeartbeats 800000 in
theorem name_walk (s x : ByteArray) (w : World) (hx : strip s = x) (hs : x.size ≤ maxLen) : Calls Tryz.prog 64 #[.string s] w (Says w (nameL x.data.toList)) := by
  unfold maxLen at hs
  have HX := Lib.hid hx
  clear hx
  by_cases h0 : 0 < x.size
  · have hR := name_eq x h0
    have d0 : ((x.size : Int) == 0) = false := by rw [beq_eq_false_iff_ne]; omega
    by_cases h1 : x.size ≤ 32
    · have d1 : decide ((32 : Int) < (x.size : Int)) = false := by simp; omega
      cases hl : letB (x[0].toNat : Int) with
      | false =>
        have H := Lib.hid hl
        have HR : Hid (nameL x.data.toList = false) := Lib.hid (by rw [hR, hl]; simp)
        clear hR hl
        go_enter Tryz.func64, Tryz.ntmps64
        go_wp2_with (first | (go_at_call 97; refine (trim_q _ _).mono ?_; rintro e w' ⟨rfl, rfl⟩; rw [HX.out]) | (go_at_call 98; refine (letter_any _ _).mono ?_; rintro e w' ⟨rfl, rfl⟩; rw [H.out]))
        go_ret
        exact ⟨ret_bool HR.out.symm, rfl⟩
      | true =>
        have H := Lib.hid hl
        have HR : Hid (nameL x.data.toList = (x.data.toList.drop 1).all innC) := Lib.hid (by rw [hR, hl]; simp [h1])
        clear hR hl
        go_enter Tryz.func64, Tryz.ntmps64
        go_wp2_with (first | (go_at_call 97; refine (trim_q _ _).mono ?_; rintro e w' ⟨rfl, rfl⟩; rw [HX.out]) | (go_at_call 98; refine (letter_any _ _).mono ?_; rintro e w' ⟨rfl, rfl⟩; rw [H.out]))
        go_loop [3] (fun i => ∃ k : Nat, 1 ≤ k ∧ k ≤ x.size ∧ i = .int .i64 k ∧ Hid (nameL x.data.toList = (x.data.toList.drop k).all innC)) (fun i => x.size - (intOf i).toNat)
        case atStart => exact ⟨1, by omega, by omega, rfl, HR⟩
        case round =>
          obtain ⟨k, hk1, hk, rfl, HK⟩ := hrel
          by_cases hlt : k < x.size
          · cases hn : letB (x[k].toNat : Int) with
            | true =>
              have HN := Lib.hid hn
              have HY : Hid (nameL x.data.toList = (x.data.toList.drop (k + 1)).all innC) := Lib.hid (by rw [HK.out, drop_get' x k hlt, List.all_cons]; simp [innC, innB, hn])
              clear hn
              go_wp2_with (go_at_call 98; refine (letter_any _ _).mono ?_; rintro e w' ⟨rfl, rfl⟩; rw [HN.out])
              go_round
              case rel => exact ⟨k + 1, by omega, by omega, by go_num, HY⟩
              case measure => simp [intOf]; omega
            | false =>
              have HN := Lib.hid hn
              have HY : Hid (nameL x.data.toList = ((decide (48 ≤ (x[k].toNat : Int) ∧ (x[k].toNat : Int) ≤ 57) || (x[k].toNat : Int) == 95) && (x.data.toList.drop (k + 1)).all innC)) := Lib.hid (by rw [HK.out, drop_get' x k hlt, List.all_cons]; simp [innC, innB, hn])
              clear hn
              by_cases h48 : (x[k].toNat : Int) < 48
              · by_cases h95 : (x[k].toNat : Int) = 95
                · omega
                · have d95 : ((x[k].toNat : Int) == 95) = false := by rw [beq_eq_false_iff_ne]; exact h95
                  have HZ : Hid (nameL x.data.toList = false) := Lib.hid (by rw [HY.out, d95, decide_eq_false (by omega)]; rfl)
                  go_wp2_with (go_at_call 98; refine (letter_any _ _).mono ?_; rintro e w' ⟨rfl, rfl⟩; rw [HN.out])
                  go_ret
                  exact ⟨ret_bool HZ.out.symm, rfl⟩
              · have d48 : decide ((x[k].toNat : Int) < 48) = false := by simp; omega
                by_cases h57 : (x[k].toNat : Int) ≤ 57
                · have d57 : decide ((57 : Int) < (x[k].toNat : Int)) = false := by simp; omega
                  have HZ : Hid (nameL x.data.toList = (x.data.toList.drop (k + 1)).all innC) := Lib.hid (by rw [HY.out, decide_eq_true (by omega)]; rfl)
                  go_wp2_with (go_at_call 98; refine (letter_any _ _).mono ?_; rintro e w' ⟨rfl, rfl⟩; rw [HN.out])
                  go_round
                  case rel => exact ⟨k + 1, by omega, by omega, by go_num, HZ⟩
                  case measure => simp [intOf]; omega
                · have d57 : decide ((57 : Int) < (x[k].toNat : Int)) = true := by simp; omega
                  by_cases h95 : (x[k].toNat : Int) = 95
                  · have d95 : ((x[k].toNat : Int) == 95) = true := by rw [beq_iff_eq]; exact h95
                    have HZ : Hid (nameL x.data.toList = (x.data.toList.drop (k + 1)).all innC) := Lib.hid (by rw [HY.out, d95]; simp)
                    clear h95
                    go_wp2_with (go_at_call 98; refine (letter_any _ _).mono ?_; rintro e w' ⟨rfl, rfl⟩; rw [HN.out])
                    go_round
                    case rel => exact ⟨k + 1, by omega, by omega, by go_num, HZ⟩
                    case measure => simp [intOf]; omega
                  · have d95 : ((x[k].toNat : Int) == 95) = false := by rw [beq_eq_false_iff_ne]; exact h95
                    have HZ : Hid (nameL x.data.toList = false) := Lib.hid (by rw [HY.out, d95, decide_eq_false (by omega)]; rfl)
                    go_wp2_with (go_at_call 98; refine (letter_any _ _).mono ?_; rintro e w' ⟨rfl, rfl⟩; rw [HN.out])
                    go_ret
                    exact ⟨ret_bool HZ.out.symm, rfl⟩
          · have HY : Hid (nameL x.data.toList = true) := Lib.hid (by rw [HK.out, drop_nil' x k hlt]; rfl)
            go_wp2
            go_ret
            exact ⟨ret_bool HY.out.symm, rfl⟩
    · have d1 : decide ((32 : Int) < (x.size : Int)) = true := by simp; omega
      have HR : Hid (nameL x.data.toList = false) := Lib.hid (by rw [hR]; simp [h1])
      clear hR
      go_enter Tryz.func64, Tryz.ntmps64
      go_wp2_with (go_at_call 97; refine (trim_q _ _).mono ?_; rintro e w' ⟨rfl, rfl⟩; rw [HX.out])
      go_ret
      exact ⟨ret_bool HR.out.symm, rfl⟩
  · have HR : Hid (nameL x.data.toList = false) := Lib.hid (name_nil x h0)
    have d0 : ((x.size : Int) == 0) = true := by rw [beq_iff_eq]; omega
    go_enter Tryz.func64, Tryz.ntmps64
    go_wp2_with (go_at_call 97; refine (trim_q _ _).mono ?_; rintro e w' ⟨rfl, rfl⟩; rw [HX.out])
    go_ret
    exact ⟨ret_bool HR.out.symm, rfl⟩
theorem word_any (s : ByteArray) (w : World) (hs : s.size ≤ maxLen) : Calls Tryz.prog 64 #[.string s] w (Says w (wordB s)) := by
  rw [strip_word]
  exact name_walk s _ w rfl (Nat.le_trans (strip_le s) hs)
theorem word_is (s : ByteArray) (b : Bool) (w : World) (hs : s.size ≤ maxLen) (h : wordB s = b) : Calls Tryz.prog 64 #[.string s] w (Says w b) := h ▸ word_any s w hs
end Go.Proofs.YtjjlofaejpnnnaaGreatDoor
namespace Go.Proofs.YtjjlofaejpnnnaaGreatDoor
open Go Go.RowKit
set_option linter.unusedVariables false
def mdObj (next : Int) (A : Option Addr) (n c : Nat) : Obj := .cells #[.int .i64 next, .slice A n c] 25
/-- halves: what is known of the places on both sides -/
structure Half (nds : List Nd) (id : Int) (l h : Nat) : Prop where
  le : l ≤ h
  lo : ∀ (i : Nat) nd, i < l → nds[i]? = some nd → nd.id < id
  hi : ∀ (i : Nat) nd, h ≤ i → nds[i]? = some nd → id ≤ nd.id
theorem Half.start (nds : List Nd) (id : Int) (n : Nat) (hn : nds.length = n) : Half nds id 0 n :=
  ⟨Nat.zero_le _, fun i nd hi => absurd hi (by omega), fun i nd hi hg => by have := (List.getElem?_eq_some_iff.1 hg).1; omega⟩
theorem Half.up {nds : List Nd} {id : Int} {l h m : Nat} {nd : Nd} (H : Half nds id l h) (hr : Rise nds) (hm : nds[m]? = some nd) (h1 : m < h) (hlt : nd.id < id) : Half nds id (m + 1) h :=
  ⟨by omega, fun i nd' hi hg => by
    rcases Nat.lt_or_ge i m with g | g
    · have := hr.lt i m nd' nd g hg hm; omega
    · obtain rfl : i = m := by omega
      rw [hm] at hg; injection hg with hg; subst hg; exact hlt, H.hi⟩
theorem Half.down {nds : List Nd} {id : Int} {l h m : Nat} {nd : Nd} (H : Half nds id l h) (hr : Rise nds) (hm : nds[m]? = some nd) (h1 : l ≤ m) (hge : id ≤ nd.id) : Half nds id l m :=
  ⟨h1, H.lo, fun i nd' hi hg => by
    rcases Nat.lt_or_ge m i with g | g
    · have := hr.lt m i nd nd' g hm hg; omega
    · obtain rfl : i = m := by omega
      rw [hm] at hg; injection hg with hg; subst hg; exact hge⟩
theorem Half.at_ {nds : List Nd} {id : Int} {k : Nat} (H : Half nds id k k) (hr : Rise nds) : ixOf nds id = match nds[k]? with | some nd => if nd.id = id then some k else none | none => none :=
  ixOf_at hr H.lo H.hi
theorem below_box (w : World) (x : Obj) : Below w.heap.size w (w.alloc x) := (Below.refl _ _).alloc (Nat.le_refl _) _
theorem ret_i {w w' : World} {v : Value} {k : IntKind} {a b : Int} (h : b = a) (hv : v = .int k a) (hb : Below w.heap.size w w') : Ret w (.int k b) (.returned v) w' := ⟨by rw [hv, h], hb⟩
theorem ret_b {w w' : World} {v : Value} {a b : Bool} (h : b = a) (hv : v = .bool a) (hb : Below w.heap.size w w') : Ret w (.bool b) (.returned v) w' := ⟨by rw [hv, h], hb⟩
end Go.Proofs.YtjjlofaejpnnnaaGreatDoor
namespace Go.Proofs.YtjjlofaejpnnnaaGreatDoor
open Go Go.RowKit
set_option linter.unusedVariables false
/-- how many nodes have a lower number -/
def rank (nds : List Nd) (id : Int) : Nat := nds.countP (fun n => decide (n.id < id))
theorem Half.rank {nds : List Nd} {id : Int} {k : Nat} (H : Half nds id k k) (hk : k ≤ nds.length) : rank nds id = k := by
  unfold Proofs.YtjjlofaejpnnnaaGreatDoor.rank
  have e : nds = nds.take k ++ nds.drop k := (List.take_append_drop k nds).symm
  rw [e, List.countP_append]
  have h1 : List.countP (fun n => decide (n.id < id)) (nds.take k) = (nds.take k).length := by
    rw [List.countP_eq_length]
    intro a ha
    obtain ⟨i, hi⟩ := List.getElem?_of_mem ha
    rw [List.getElem?_take] at hi
    split at hi
    · simpa using H.lo i a (by assumption) hi
    · cases hi
  have h2 : List.countP (fun n => decide (n.id < id)) (nds.drop k) = 0 := by
    rw [List.countP_eq_zero]
    intro a ha
    obtain ⟨i, hi⟩ := List.getElem?_of_mem ha
    rw [List.getElem?_drop] at hi
    have := H.hi (k + i) a (by omega) hi
    simp; omega
  rw [h1, h2, List.length_take]
  omega
/-- what index tells -/
def ixV (nds : List Nd) (id : Int) : Value := .tuple #[.int .i64 (rank nds id), .bool (ixOf nds id).isSome]
set_option maxHeartbeats 400000 in
theorem index1_any (w : World) (hi : Nat) (next id : Int) (b o n c : Nat) (nds : List Nd) (p1 p2 : Nat) (k : Nat) (nd : Nd) (L : Leaf)
    (h1 : w.cell? ⟨p1, 0, none⟩ = some (.int .i64 id)) (h2 : w.cell? ⟨p2, 1, none⟩ = some (.slice (some ⟨b, o, none⟩) n c)) (hk : k < n) (hnc : n ≤ c) (hc : c ≤ maxLen)
    (hat : w.cell? ⟨b, o + k * 7, none⟩ = some (.int .i64 nd.id)) :
    Calls Tryz.prog 99 #[.int .i64 k, .pointer (some ⟨p1, 0, none⟩), .pointer (some ⟨p2, 0, none⟩)] w fun e w' => e = .returned (.int .i64 (Lib.compareInt id nd.id)) ∧ ∃ q, w' = w.drewN q := by
  unfold maxLen at hc
  go_enter Tryz.func99, Tryz.ntmps99
  go_wp2_with fail
  go_quiet ((go_at_call 49; exact Calls.quiet_of_same (Tryz.cmp_Compare_int _ _ _)))
  go_wp2
  go_ret
  exact ⟨rfl, _, rfl⟩
theorem cmp_gt {x y : Int} (h : y < x) : (0 : Int) < Lib.compareInt x y ∧ (Lib.compareInt x y == 0) = false := by
  unfold Lib.compareInt; rw [if_neg (by omega), if_pos (by omega)]; exact ⟨by omega, rfl⟩
theorem cmp_le {x y : Int} (h : x ≤ y) : decide ((0 : Int) < Lib.compareInt x y) = false := by
  unfold Lib.compareInt
  refine decide_eq_false ?_
  split
  · omega
  · rw [if_neg (by omega)]; omega
theorem cmp_eq {x y : Int} (h : x = y) : (Lib.compareInt x y == 0) = true := by
  unfold Lib.compareInt; rw [if_neg (by omega), if_neg (by omega)]; rfl
theorem cmp_ne {x y : Int} (h : x ≠ y) : (Lib.compareInt x y == 0) = false := by
  unfold Lib.compareInt
  split
  · rfl
  · rw [if_pos (by omega)]; rfl
theorem ixOf_none_some {nds : List Nd} {id : Int} {k : Nat} (H : Half nds id k k) (hr : Rise nds) : (nds.length ≤ k → (ixOf nds id).isSome = false) ∧ (∀ nd, nds[k]? = some nd → (nd.id = id → (ixOf nds id).isSome = true) ∧ (nd.id ≠ id → (ixOf nds id).isSome = false)) := by
  have e := H.at_ hr
  refine ⟨fun hl => by rw [e, List.getElem?_eq_none hl]; rfl, fun nd hnd => ⟨fun hx => by rw [e, hnd]; simp [hx], fun hx => by rw [e, hnd]; simp [hx]⟩⟩
def FindRel (nds : List Nd) (id : Int) (w : World) (n : Nat) (x y : Value) (wr : World) : Prop := ∃ l m q : Nat, m ≤ n ∧ x = .int .i64 l ∧ y = .int .i64 m ∧ Half nds id l m ∧ wr = w.drewN q
def DrewV (w : World) (v : Value) (e : Ending) (w' : World) : Prop := e = .returned v ∧ ∃ q, w' = w.drewN q
theorem drew_v {w : World} {v u : Value} {q : Nat} (h : v = u) : DrewV w u (.returned v) (w.drewN q) := ⟨by rw [h], q, rfl⟩
set_option maxHeartbeats 1600000 in
theorem find_any (w : World) (hi : Nat) (next id : Int) (A : Option Addr) (n c : Nat) (nds : List Nd) (p1 p2 : Nat) (h : NodesIn w 0 hi A n c nds) (hr : Rise nds) (hn : n ≤ 4096)
    (h1 : w.cell? ⟨p1, 0, none⟩ = some (.int .i64 id)) (h2 : w.cell? ⟨p2, 1, none⟩ = some (.slice A n c)) :
    Calls Tryz.prog 62 #[.int .i64 n, .func (.func 99) #[] #[.pointer (some ⟨p1, 0, none⟩), .pointer (some ⟨p2, 0, none⟩)]] w (DrewV w (ixV nds id)) := by
  have hc := h.2.2.1
  have hnc := h.2.1
  have hl := Lib.hid h.1
  have C1 : ∀ (q k : Nat) (b o : Nat) (nd : Nd) (L : Leaf), A = some ⟨b, o, none⟩ → k < n → NodeAt w b (o + k * 7) nd L → Calls Tryz.prog 99 #[.int .i64 k, .pointer (some ⟨p1, 0, none⟩), .pointer (some ⟨p2, 0, none⟩)] (w.drewN q) fun e w' => e = .returned (.int .i64 (Lib.compareInt id nd.id)) ∧ ∃ q', w' = w.drewN q' := by
    intro q k b o nd L hA hk hat
    subst hA
    refine (index1_any (w.drewN q) hi next id b o n c nds p1 p2 k nd L (by simpa using h1) (by simpa using h2) hk hnc hc (by simpa using hat.c0)).mono ?_
    rintro e w' ⟨he, q', hq⟩
    exact ⟨he, q + q', by rw [hq, World.drewN_drewN]⟩
  have HC := Lib.hid C1
  have H1 := Lib.hid h1
  have H2 := Lib.hid h2
  have hc63 : c ≤ 9223372036854775807 := by unfold maxLen at hc; omega
  clear C1 h1 h2 hc
  go_enter Tryz.func62, Tryz.ntmps62
  go_wp2_with fail
  go_loopw [4, 6] (fun x y wr => FindRel nds id w n x y wr) (fun x y _ => (intOf y - intOf x).toNat)
  case atStart => exact ⟨0, n, 0, Nat.le_refl _, rfl, rfl, Half.start nds id n hl.out, rfl⟩
  case round =>
    obtain ⟨l, m, q, hm, rfl, rfl, H, rfl⟩ := hrel
    have hle := H.le
    by_cases hlt : l < m
    · obtain ⟨b, o, nd, L, rfl, _, hb, hnd, hat, _⟩ := h.at_ (i := (l + m) / 2) (by omega)
      have hX := HC.out q ((l + m) / 2) b o nd L rfl (by omega) hat
      rw [show (((l + m) / 2 : Nat) : Int) = ((l : Int) + (m : Int)) / 2 from by omega] at hX
      have HX := Lib.hid hX
      clear hX
      by_cases hx : nd.id < id
      · have HU := Lib.hid (H.up hr hnd (by omega) hx)
        have d1 := (cmp_gt hx).1
        clear hx hnd hat
        go_wp2_with (go_at_call 99; refine HX.out.mono ?_; rintro e w' ⟨rfl, q', rfl⟩)
        go_roundw
        case rel => exact ⟨(l + m) / 2 + 1, m, q', hm, by go_num, rfl, HU.out, rfl⟩
        case measure => simp [intOf]; omega
      · have HU := Lib.hid (H.down hr hnd (by omega) (by omega))
        have d1 := cmp_le (x := id) (y := nd.id) (by omega)
        clear hx hnd hat
        go_wp2_with (go_at_call 99; refine HX.out.mono ?_; rintro e w' ⟨rfl, q', rfl⟩)
        go_roundw
        case rel => exact ⟨l, (l + m) / 2, q', by omega, rfl, by go_num, HU.out, rfl⟩
        case measure => simp [intOf]; omega
    · have he : m = l := by omega
      rw [he] at H
      clear he
      have hl' := hl.out
      have HR := Lib.hid (H.rank (by omega))
      by_cases hk : l < n
      · obtain ⟨b, o, nd, L, rfl, _, hb, hnd, hat, _⟩ := h.at_ (i := l) hk
        have HX := Lib.hid (HC.out q l b o nd L rfl (by omega) hat)
        have hS := (ixOf_none_some H hr).2 nd hnd
        by_cases hx : nd.id = id
        · have HS := Lib.hid (hS.1 hx)
          have d1 := cmp_eq hx.symm
          clear hx hS hnd hat hl'
          go_wp2_with (go_at_call 99; refine HX.out.mono ?_; rintro e w' ⟨rfl, q', rfl⟩)
          go_ret2
          unfold ixV
          rw [HS.out, HR.out]
          exact drew_v rfl
        · have HS := Lib.hid (hS.2 hx)
          have d1 := cmp_ne (x := id) (y := nd.id) (fun e => hx e.symm)
          clear hx hS hnd hat hl'
          go_wp2_with (go_at_call 99; refine HX.out.mono ?_; rintro e w' ⟨rfl, q', rfl⟩)
          go_ret2
          unfold ixV
          rw [HS.out, HR.out]
          exact drew_v rfl
      · have HS := Lib.hid ((ixOf_none_some H hr).1 (by omega))
        clear hl'
        go_wp2_with fail
        go_ret2
        unfold ixV
        rw [HS.out, HR.out]
        exact drew_v rfl
theorem ret_v {w w' : World} {v u : Value} (h : v = u) (hb : Below w.heap.size w w') : Ret w u (.returned v) w' := ⟨by rw [h], hb⟩
theorem rank_fast {nds : List Nd} (hr : Rise nds) {i : Nat} {nd : Nd} (h : nds[i]? = some nd) : rank nds nd.id = i ∧ (ixOf nds nd.id).isSome = true := by
  refine ⟨Half.rank (k := i) ⟨Nat.le_refl _, fun j a hj ha => hr.lt j i a nd hj ha h, fun j a hj ha => ?_⟩ (by have := (List.getElem?_eq_some_iff.1 h).1; omega), by rw [ixOf_is hr h rfl]; rfl⟩
  rcases Nat.lt_or_ge i j with g | g
  · have := hr.lt i j nd a g h ha; omega
  · obtain rfl : i = j := by omega
    rw [h] at ha; injection ha with ha; subst ha; exact Int.le_refl _
set_option maxHeartbeats 1600000 in
theorem index_any (w : World) (hi : Nat) (next id : Int) (A : Option Addr) (n c : Nat) (nds : List Nd) (h : NodesIn w 0 hi A n c nds) (hh : hi ≤ w.heap.size) (hr : Rise nds) (hn : n ≤ 4096) :
    Calls Tryz.prog 68 #[.agg #[.int .i64 next, .slice A n c], .int .i64 id] w (Ret w (ixV nds id)) := by
  have hc := h.2.2.1
  have hnc := h.2.1
  have hl := Lib.hid h.1
  have hc63 : c ≤ 9223372036854775807 := by unfold maxLen at hc; omega
  have hbel : Below w.heap.size w ((w.alloc (mdObj next A n c)).alloc (.cells #[.int .i64 id] 3)) := (below_box _ _).alloc (by simp) _
  have HB := Lib.hid hbel
  have hF : ∀ q, Calls Tryz.prog 62 #[.int .i64 n, .func (.func 99) #[] #[.pointer (some ⟨w.heap.size + 1, 0, none⟩), .pointer (some ⟨w.heap.size, 0, none⟩)]] (((w.alloc (mdObj next A n c)).alloc (.cells #[.int .i64 id] 3)).drewN q) (DrewV (((w.alloc (mdObj next A n c)).alloc (.cells #[.int .i64 id] 3)).drewN q) (ixV nds id)) := by
    intro q
    refine find_any _ hi next id A n c nds (w.heap.size + 1) w.heap.size ((h.below (hbel.mono hh)).below (below_drewN (Below.refl _ _) q)) hr hn ?_ ?_
    · exact World.cell?_alloc_at (hn := by simp) ..
    · exact (World.cell?_alloc_past (hn := by simp) ..).trans (World.cell?_alloc_at (hn := rfl) ..)
  have HF := Lib.hid hF
  unfold mdObj at HF HB
  clear hF hbel
  by_cases h0 : 0 < id
  · have d0 : decide (0 < id) = true := decide_eq_true h0
    by_cases h1 : id ≤ n
    · have d1 : decide (id ≤ (n : Int)) = true := decide_eq_true h1
      obtain ⟨m, rfl⟩ : ∃ m : Nat, id = (m : Int) + 1 := ⟨(id - 1).toNat, by omega⟩
      obtain ⟨b, o, nd, L, rfl, _, hb, hnd, hat, _⟩ := h.at_ (i := m) (by omega)
      have hcl : ∀ x, ((w.alloc (.cells #[.int .i64 next, .slice (some ⟨b, o, none⟩) n c] 25)).alloc x).cell? ⟨b, o + m * 7, none⟩ = some (.int .i64 nd.id) := fun x => cell_alloc (cell_alloc hat.c0 (Nat.lt_of_lt_of_le hb hh) _) (by simp; omega) x
      by_cases hx : nd.id = (m : Int) + 1
      · have d2 : (nd.id == (m : Int) + 1) = true := by rw [beq_iff_eq]; exact hx
        have HK := Lib.hid (rank_fast hr hnd)
        rw [hx] at HK
        clear hx hnd hat
        go_enter Tryz.func68, Tryz.ntmps68
        go_wp2_with fail
        go_quiet (fail)
        go_wp2_with fail
        go_ret2
        unfold ixV
        rw [HK.out.1, HK.out.2]
        exact ret_v rfl (below_drewN HB.out _)
      · have d2 : (nd.id == (m : Int) + 1) = false := by rw [beq_eq_false_iff_ne]; exact hx
        clear hx hnd hat
        go_enter Tryz.func68, Tryz.ntmps68
        go_wp2_with fail
        go_quiet (fail)
        go_wp2_with (go_at_call 62; refine (HF.out _).mono ?_; rintro e w' ⟨rfl, q', rfl⟩; unfold ixV)
        go_ret2
        exact ret_v rfl (below_drewN HB.out _)
    · have d1 : decide (id ≤ (n : Int)) = false := decide_eq_false h1
      go_enter Tryz.func68, Tryz.ntmps68
      go_wp2_with fail
      go_quiet (fail)
      go_wp2_with (go_at_call 62; refine (HF.out _).mono ?_; rintro e w' ⟨rfl, q', rfl⟩; unfold ixV)
      go_ret2
      exact ret_v rfl (below_drewN HB.out _)
  · have d0 : decide (0 < id) = false := decide_eq_false h0
    go_enter Tryz.func68, Tryz.ntmps68
    go_wp2_with fail
    go_quiet (fail)
    go_wp2_with (go_at_call 62; refine (HF.out _).mono ?_; rintro e w' ⟨rfl, q', rfl⟩; unfold ixV)
    go_ret2
    exact ret_v rfl (below_drewN HB.out _)
end Go.Proofs.YtjjlofaejpnnnaaGreatDoor

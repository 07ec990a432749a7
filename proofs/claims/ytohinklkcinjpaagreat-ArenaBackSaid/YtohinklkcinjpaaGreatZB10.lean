/-
  WALKS: where among a node's properties, its references, a name is, or would be: the program's binary search.
  WALKS: slices.Insert into a list of a node's own, which has no room.
  WALKS: slices.Delete of one element of a list of a node's own, in place.
-/
import Derived.Test.YtohinklkcinjpaaGreatZB9
import Derived.Lib.AppendZerosOnto
namespace Go.Proofs.YtohinklkcinjpaaGreat
open Go Go.RowKit Go.Sort
set_option linter.unusedVariables false
attribute [local go_sem ↓] Go.wp_at_zero Go.wp_at_succ
/-- the order of two texts, as a number -/
def cmpS (a b : ByteArray) : Int := if ltS a b then -1 else if ltS b a then 1 else 0
theorem cmpS_lt {a b : ByteArray} (h : ltS a b = true) : decide (cmpS a b < 0) = true ∧ (cmpS a b == 0) = false := by unfold cmpS; rw [h]; exact ⟨rfl, rfl⟩
theorem cmpS_ge {a b : ByteArray} (h : ltS a b = false) : decide (cmpS a b < 0) = false := by
  unfold cmpS; rw [h]
  cases ltS b a <;> rfl
theorem cmpS_eq (a : ByteArray) : (cmpS a a == 0) = true := by
  unfold cmpS ltS; rw [less_irrefl]; rfl
theorem cmpS_ne {a b : ByteArray} (h : a ≠ b) : (cmpS a b == 0) = false := by
  unfold cmpS
  cases h1 : ltS a b with
  | true => rfl
  | false =>
    cases h2 : ltS b a with
    | true => rfl
    | false =>
      unfold ltS at h1 h2
      rcases less_tri a.toList b.toList with h3 | h3 | h3
      · rw [h1] at h3; cases h3
      · exact absurd (str_eq.1 h3) h
      · rw [h2] at h3; cases h3
theorem isNaN_any (s : ByteArray) (w : World) : Calls Tryz.prog 117 #[.string s] w (Says w false) := by
  go_enter Tryz.func117, Tryz.ntmps117
  go_wp2_with fail
  go_ret
  exact ⟨by simp, rfl⟩
set_option maxHeartbeats 800000 in
theorem cmpString_any (a b : ByteArray) (w : World) : Calls Tryz.prog 94 #[.string a, .string b] w fun e w' => e = .returned (.int .i64 (cmpS a b)) ∧ w = w' := by
  cases h1 : Op.bytesLess a.toList b.toList with
  | true =>
    have HX : Hid (cmpS a b = -1) := Lib.hid (by unfold cmpS ltS; rw [h1]; rfl)
    go_enter Tryz.func94, Tryz.ntmps94
    go_wp2_with (go_at_call 117; go_must (refine (isNaN_any _ _).mono ?_; rintro e w2 ⟨rfl, rfl⟩))
    go_ret
    rw [HX.out]; exact ⟨rfl, rfl⟩
  | false =>
    cases h2 : Op.bytesLess b.toList a.toList with
    | true =>
      have HX : Hid (cmpS a b = 1) := Lib.hid (by unfold cmpS ltS; rw [h1, h2]; rfl)
      have d1 : (a.toList == b.toList) = false := by
        rw [beq_eq_false_iff_ne]; intro e
        rw [e, less_irrefl] at h2; cases h2
      go_enter Tryz.func94, Tryz.ntmps94
      go_wp2_with (go_at_call 117; go_must (refine (isNaN_any _ _).mono ?_; rintro e w2 ⟨rfl, rfl⟩))
      go_ret
      rw [HX.out]; exact ⟨rfl, rfl⟩
    | false =>
      have HX : Hid (cmpS a b = 0) := Lib.hid (by unfold cmpS ltS; rw [h1, h2]; rfl)
      have d1 : (a.toList == b.toList) = true := by
        rw [beq_iff_eq]
        rcases less_tri a.toList b.toList with h3 | h3 | h3
        · rw [h1] at h3; cases h3
        · exact h3
        · rw [h2] at h3; cases h3
      go_enter Tryz.func94, Tryz.ntmps94
      go_wp2_with (go_at_call 117; go_must (refine (isNaN_any _ _).mono ?_; rintro e w2 ⟨rfl, rfl⟩))
      go_ret
      rw [HX.out]; exact ⟨rfl, rfl⟩
/-- names that rise -/
def SortS (ks : List ByteArray) : Prop := ∀ (i j : Nat) a b, i < j → ks[i]? = some a → ks[j]? = some b → ltS a b = true
/-- the place of a name among names that rise, and whether it is there -/
def rankS (ks : List ByteArray) (s : ByteArray) : Nat := ks.countP (fun k => ltS k s)
def foundS (ks : List ByteArray) (s : ByteArray) : Bool := ks.any (fun k => k.toList == s.toList)
structure HalfS (ks : List ByteArray) (s : ByteArray) (l h : Nat) : Prop where
  le : l ≤ h
  len : h ≤ ks.length
  lo : ∀ (i : Nat) k, i < l → ks[i]? = some k → ltS k s = true
  hi : ∀ (i : Nat) k, h ≤ i → ks[i]? = some k → ltS k s = false
theorem HalfS.start (ks : List ByteArray) (s : ByteArray) (n : Nat) (hn : ks.length = n) : HalfS ks s 0 n :=
  ⟨Nat.zero_le _, by omega, fun i k h => absurd h (by omega), fun i k h hk => by rw [List.getElem?_eq_none (by omega)] at hk; cases hk⟩
theorem HalfS.up {ks : List ByteArray} {s k : ByteArray} {l h m : Nat} (H : HalfS ks s l h) (hs : SortS ks) (hm : ks[m]? = some k) (h1 : m < h) (hlt : ltS k s = true) : HalfS ks s (m + 1) h :=
  ⟨by omega, H.len, fun i x hi hx => by
    rcases Nat.lt_or_ge i m with h2 | h2
    · exact less_trans (hs i m x k h2 hx hm) hlt
    · obtain rfl : i = m := by omega
      rw [hm] at hx; cases hx; exact hlt, H.hi⟩
theorem HalfS.down {ks : List ByteArray} {s k : ByteArray} {l h m : Nat} (H : HalfS ks s l h) (hs : SortS ks) (hm : ks[m]? = some k) (h1 : l ≤ m) (h2 : m < h) (hge : ltS k s = false) : HalfS ks s l m :=
  ⟨h1, by have := H.len; omega, H.lo, fun i x hi hx => by
    rcases Nat.lt_or_ge m i with h3 | h3
    · cases hx2 : ltS x s with
      | false => rfl
      | true =>
        have := less_trans (hs m i k x h3 hm hx) hx2
        unfold ltS at hge
        rw [hge] at this; cases this
    · obtain rfl : i = m := by omega
      rw [hm] at hx; cases hx; exact hge⟩
theorem HalfS.rank {ks : List ByteArray} {s : ByteArray} {k : Nat} (H : HalfS ks s k k) : rankS ks s = k := by
  have hk := H.len
  unfold rankS
  have e : ks = ks.take k ++ ks.drop k := (List.take_append_drop k ks).symm
  rw [e, List.countP_append]
  have h1 : List.countP (fun x => ltS x s) (ks.take k) = (ks.take k).length := by
    rw [List.countP_eq_length]
    intro a ha
    obtain ⟨i, hi⟩ := List.getElem?_of_mem ha
    rw [List.getElem?_take] at hi
    split at hi
    · exact H.lo i a (by assumption) hi
    · cases hi
  have h2 : List.countP (fun x => ltS x s) (ks.drop k) = 0 := by
    rw [List.countP_eq_zero]
    intro a ha
    obtain ⟨i, hi⟩ := List.getElem?_of_mem ha
    rw [List.getElem?_drop] at hi
    have := H.hi (k + i) a (by omega) hi
    rw [this]; simp
  rw [h1, h2, List.length_take]
  omega
theorem HalfS.none {ks : List ByteArray} {s : ByteArray} {k : Nat} (H : HalfS ks s k k) (hk : ks.length ≤ k) : foundS ks s = false := by
  unfold foundS
  rw [List.any_eq_false]
  intro x hx
  obtain ⟨i, hi⟩ := List.getElem?_of_mem hx
  have h1 := H.lo i x (by have := (List.getElem?_eq_some_iff.1 hi).1; omega) hi
  intro e
  have := str_eq.1 (eq_of_beq e)
  subst this
  unfold ltS at h1
  rw [less_irrefl] at h1; cases h1
theorem HalfS.at_ {ks : List ByteArray} {s x : ByteArray} {k : Nat} (H : HalfS ks s k k) (hs : SortS ks) (hx : ks[k]? = some x) : (x = s → foundS ks s = true) ∧ (x ≠ s → foundS ks s = false) := by
  refine ⟨fun e => ?_, fun hne => ?_⟩
  · unfold foundS
    exact List.any_eq_true.2 ⟨x, List.mem_of_getElem? hx, by rw [e]; simp⟩
  · unfold foundS
    rw [List.any_eq_false]
    intro y hy e
    have := str_eq.1 (eq_of_beq e)
    subst this
    obtain ⟨i, hi⟩ := List.getElem?_of_mem hy
    rcases Nat.lt_trichotomy i k with h1 | h1 | h1
    · have h2 := H.lo i y h1 hi
      unfold ltS at h2
      rw [less_irrefl] at h2; cases h2
    · subst h1
      rw [hx] at hi; cases hi; exact hne rfl
    · have h2 := hs k i x y h1 hx hi
      rw [H.hi k x (Nat.le_refl _) hx] at h2; cases h2
set_option maxHeartbeats 400000 in
theorem at1Prop_any (w : World) (a name : ByteArray) (b : ByteArray) : Calls Tryz.prog 93 #[.agg #[.string a, .string b], .string name] w (Ret w (.int .i64 (cmpS a name))) := by
  have HB := Lib.hid (below_box w (.cells #[.string a, .string b] 94))
  go_enter Tryz.func93, Tryz.ntmps93
  go_wp2_with (go_at_call 94; go_must (refine (cmpString_any _ _ _).mono ?_; rintro e w2 ⟨rfl, rfl⟩))
  go_ret
  exact ret_v rfl HB.out
set_option maxRecDepth 20000 in
set_option maxHeartbeats 3200000 in
theorem searchProp_any (w : World) (hi : Nat) (A : Option Addr) (n c : Nat) (l : List (ByteArray × ByteArray)) (name : ByteArray) (h : Row w 0 hi 2 A n c (propCells l)) (hh : hi ≤ w.heap.size) (hs : SortS (l.map (·.1))) (hn : n ≤ 140737488355328) :
    Calls Tryz.prog 92 #[.slice A n c, .string name, .func (.func 93) #[] #[]] w (Ret w (.tuple #[.int .i64 (rankS (l.map (·.1)) name), .bool (foundS (l.map (·.1)) name)])) := by
  have hc := h.2.2.1
  have hnc := h.2.1
  have hln : l.length = n := by have := h.1; rw [propCells_length] at this; omega
  have HL := Lib.hid hln
  unfold maxLen at hc
  clear hln
  go_enter Tryz.func92, Tryz.ntmps92
  go_wp2_with fail
  go_loopw [9, 10] (fun x y wr => ∃ (lo m : Nat), m ≤ n ∧ x = .int .i64 lo ∧ y = .int .i64 m ∧ Hid (HalfS (l.map (·.1)) name lo m) ∧ Hid (Below w.heap.size w wr)) (fun x y _ => (intOf y - intOf x).toNat)
  case atStart => exact ⟨0, n, Nat.le_refl _, rfl, rfl, Lib.hid (HalfS.start _ _ _ (by rw [List.length_map]; exact HL.out)), Lib.hid (Below.refl _ _)⟩
  case round =>
    obtain ⟨lo, m, hm, rfl, rfl, HH, HB⟩ := hrel
    rename World => wr
    have hle := HH.out.le
    by_cases hlt : lo < m
    · obtain ⟨mid, hmid⟩ : ∃ mid, mid = (lo + m) / 2 := ⟨_, rfl⟩
      have hm1 : lo ≤ mid := by omega
      have hm2 : mid < m := by omega
      have emid : ((lo : Int) + (m : Int)) / 2 = (mid : Int) := by omega
      obtain ⟨b, o, rfl, _, hb, hcell⟩ := h.at_ (by omega)
      obtain ⟨q, hq⟩ : ∃ q, l[mid]? = some q := ⟨l[mid]'(by have := HL.out; omega), List.getElem?_eq_getElem _⟩
      have hg2 := propCells_get hq
      have c0 := (HB.out.cell (p := ⟨b, _, none⟩) (Nat.lt_of_lt_of_le hb hh)).trans (hcell _ _ hg2.1)
      have c1 := (HB.out.cell (p := ⟨b, _, none⟩) (Nat.lt_of_lt_of_le hb hh)).trans (hcell _ _ hg2.2)
      rw [show o + (mid * 2 + 1) = o + mid * 2 + 1 from by omega] at c1
      have hk : (l.map (·.1))[mid]? = some q.1 := by rw [List.getElem?_map, hq]; rfl
      have HK := Lib.hid hk
      obtain ⟨qa, qb⟩ := q
      simp only at c0 c1 HK
      clear hcell hg2 hq hk hmid
      cases d1 : ltS qa name with
      | true =>
        have HU := Lib.hid (HH.out.up hs HK.out hm2 d1)
        have d2 := (cmpS_lt d1).1
        clear d1
        go_wp2_with (go_at_call 93; go_must (refine (at1Prop_any _ qa name qb).mono ?_; rintro e w2 ⟨rfl, hb2⟩; have HB2 := Lib.hid (HB.out.trans (hb2.mono HB.out.size)); clear hb2))
        go_roundw
        case rel => exact ⟨mid + 1, m, hm, by go_num, rfl, HU, HB2⟩
        case measure => simp [intOf]; omega
      | false =>
        have HU := Lib.hid (HH.out.down hs HK.out hm1 hm2 d1)
        have d2 := cmpS_ge d1
        clear d1
        go_wp2_with (go_at_call 93; go_must (refine (at1Prop_any _ qa name qb).mono ?_; rintro e w2 ⟨rfl, hb2⟩; have HB2 := Lib.hid (HB.out.trans (hb2.mono HB.out.size)); clear hb2))
        go_roundw
        case rel => exact ⟨lo, mid, by omega, rfl, by go_num, HU, HB2⟩
        case measure => simp [intOf]; omega
    · have he : m = lo := by omega
      have HHk : Hid (HalfS (l.map (·.1)) name lo lo) := Lib.hid (by have := HH.out; rwa [he] at this)
      clear HH he
      have HR := Lib.hid (HHk.out.rank)
      by_cases hk : lo < n
      · obtain ⟨b, o, rfl, _, hb, hcell⟩ := h.at_ (by omega)
        obtain ⟨q, hq⟩ : ∃ q, l[lo]? = some q := ⟨l[lo]'(by have := HL.out; omega), List.getElem?_eq_getElem _⟩
        have hg2 := propCells_get hq
        have c0 := (HB.out.cell (p := ⟨b, _, none⟩) (Nat.lt_of_lt_of_le hb hh)).trans (hcell _ _ hg2.1)
        have c1 := (HB.out.cell (p := ⟨b, _, none⟩) (Nat.lt_of_lt_of_le hb hh)).trans (hcell _ _ hg2.2)
        rw [show o + (lo * 2 + 1) = o + lo * 2 + 1 from by omega] at c1
        have hkk : (l.map (·.1))[lo]? = some q.1 := by rw [List.getElem?_map, hq]; rfl
        have hat := HHk.out.at_ hs hkk
        obtain ⟨qa, qb⟩ := q
        simp only at c0 c1 hat
        clear hcell hg2 hq hkk
        by_cases hx : qa = name
        · have HS := Lib.hid (hat.1 hx)
          subst hx
          have d2 := cmpS_eq qa
          clear hat
          go_wp2_with (go_at_call 93; go_must (refine (at1Prop_any _ qa qa qb).mono ?_; rintro e w2 ⟨rfl, hb2⟩; have HB2 := Lib.hid (HB.out.trans (hb2.mono HB.out.size)); clear hb2))
          go_ret2
          rw [HS.out, HR.out]
          exact ret_mk rfl HB2.out
        · have HS := Lib.hid (hat.2 hx)
          have d2 := cmpS_ne hx
          clear hat hx
          go_wp2_with (go_at_call 93; go_must (refine (at1Prop_any _ qa name qb).mono ?_; rintro e w2 ⟨rfl, hb2⟩; have HB2 := Lib.hid (HB.out.trans (hb2.mono HB.out.size)); clear hb2))
          go_ret2
          rw [HS.out, HR.out]
          exact ret_mk rfl HB2.out
      · have HS := Lib.hid (HHk.out.none (by rw [List.length_map]; have := HL.out; omega))
        clear h
        go_wp2_with fail
        go_ret2
        rw [HS.out, HR.out]
        exact ret_mk rfl HB.out
set_option maxHeartbeats 400000 in
/-- where a name is among a node's own -/
theorem pAt_any (w : World) (hi b o : Nat) (A : Option Addr) (n c : Nat) (l : List (ByteArray × ByteArray)) (name : ByteArray) (hc : w.cell? ⟨b, o + 4, none⟩ = some (.slice A n c)) (h : Row w 0 hi 2 A n c (propCells l)) (hh : hi ≤ w.heap.size) (hs : SortS (l.map (·.1))) (hn : n ≤ 140737488355328) :
    Calls Tryz.prog 64 #[.pointer (some ⟨b, o, none⟩), .string name] w (Ret w (.tuple #[.int .i64 (rankS (l.map (·.1)) name), .bool (foundS (l.map (·.1)) name)])) := by
  have HS := Lib.hid (searchProp_any w hi A n c l name h hh hs hn)
  generalize rankS (l.map (·.1)) name = k at HS
  generalize foundS (l.map (·.1)) name = f at HS
  clear h hs
  go_enter Tryz.func64, Tryz.ntmps64
  go_wp2_with (go_at_call 92; go_must (refine HS.out.mono ?_; rintro e w2 ⟨rfl, hb2⟩; have HB2 := Lib.hid hb2; clear hb2))
  go_ret2
  exact ret_mk rfl HB2.out
set_option maxHeartbeats 400000 in
theorem at1Ref_any (w : World) (a name : ByteArray) (b : Int) : Calls Tryz.prog 98 #[.agg #[.string a, .int .i64 b], .string name] w (Ret w (.int .i64 (cmpS a name))) := by
  have HB := Lib.hid (below_box w (.cells #[.string a, .int .i64 b] 60))
  go_enter Tryz.func98, Tryz.ntmps98
  go_wp2_with (go_at_call 94; go_must (refine (cmpString_any _ _ _).mono ?_; rintro e w2 ⟨rfl, rfl⟩))
  go_ret
  exact ret_v rfl HB.out
set_option maxRecDepth 20000 in
set_option maxHeartbeats 3200000 in
theorem searchRef_any (w : World) (hi : Nat) (A : Option Addr) (n c : Nat) (l : List (ByteArray × Int)) (name : ByteArray) (h : Row w 0 hi 2 A n c (refCells l)) (hh : hi ≤ w.heap.size) (hs : SortS (l.map (·.1))) (hn : n ≤ 140737488355328) :
    Calls Tryz.prog 97 #[.slice A n c, .string name, .func (.func 98) #[] #[]] w (Ret w (.tuple #[.int .i64 (rankS (l.map (·.1)) name), .bool (foundS (l.map (·.1)) name)])) := by
  have hc := h.2.2.1
  have hnc := h.2.1
  have hln : l.length = n := by have := h.1; rw [refCells_length] at this; omega
  have HL := Lib.hid hln
  unfold maxLen at hc
  clear hln
  go_enter Tryz.func97, Tryz.ntmps97
  go_wp2_with fail
  go_loopw [9, 10] (fun x y wr => ∃ (lo m : Nat), m ≤ n ∧ x = .int .i64 lo ∧ y = .int .i64 m ∧ Hid (HalfS (l.map (·.1)) name lo m) ∧ Hid (Below w.heap.size w wr)) (fun x y _ => (intOf y - intOf x).toNat)
  case atStart => exact ⟨0, n, Nat.le_refl _, rfl, rfl, Lib.hid (HalfS.start _ _ _ (by rw [List.length_map]; exact HL.out)), Lib.hid (Below.refl _ _)⟩
  case round =>
    obtain ⟨lo, m, hm, rfl, rfl, HH, HB⟩ := hrel
    rename World => wr
    have hle := HH.out.le
    by_cases hlt : lo < m
    · obtain ⟨mid, hmid⟩ : ∃ mid, mid = (lo + m) / 2 := ⟨_, rfl⟩
      have hm1 : lo ≤ mid := by omega
      have hm2 : mid < m := by omega
      have emid : ((lo : Int) + (m : Int)) / 2 = (mid : Int) := by omega
      obtain ⟨b, o, rfl, _, hb, hcell⟩ := h.at_ (by omega)
      obtain ⟨q, hq⟩ : ∃ q, l[mid]? = some q := ⟨l[mid]'(by have := HL.out; omega), List.getElem?_eq_getElem _⟩
      have hg2 := refCells_get hq
      have c0 := (HB.out.cell (p := ⟨b, _, none⟩) (Nat.lt_of_lt_of_le hb hh)).trans (hcell _ _ hg2.1)
      have c1 := (HB.out.cell (p := ⟨b, _, none⟩) (Nat.lt_of_lt_of_le hb hh)).trans (hcell _ _ hg2.2)
      rw [show o + (mid * 2 + 1) = o + mid * 2 + 1 from by omega] at c1
      have hk : (l.map (·.1))[mid]? = some q.1 := by rw [List.getElem?_map, hq]; rfl
      have HK := Lib.hid hk
      obtain ⟨qa, qb⟩ := q
      simp only at c0 c1 HK
      clear hcell hg2 hq hk hmid
      cases d1 : ltS qa name with
      | true =>
        have HU := Lib.hid (HH.out.up hs HK.out hm2 d1)
        have d2 := (cmpS_lt d1).1
        clear d1
        go_wp2_with (go_at_call 98; go_must (refine (at1Ref_any _ qa name qb).mono ?_; rintro e w2 ⟨rfl, hb2⟩; have HB2 := Lib.hid (HB.out.trans (hb2.mono HB.out.size)); clear hb2))
        go_roundw
        case rel => exact ⟨mid + 1, m, hm, by go_num, rfl, HU, HB2⟩
        case measure => simp [intOf]; omega
      | false =>
        have HU := Lib.hid (HH.out.down hs HK.out hm1 hm2 d1)
        have d2 := cmpS_ge d1
        clear d1
        go_wp2_with (go_at_call 98; go_must (refine (at1Ref_any _ qa name qb).mono ?_; rintro e w2 ⟨rfl, hb2⟩; have HB2 := Lib.hid (HB.out.trans (hb2.mono HB.out.size)); clear hb2))
        go_roundw
        case rel => exact ⟨lo, mid, by omega, rfl, by go_num, HU, HB2⟩
        case measure => simp [intOf]; omega
    · have he : m = lo := by omega
      have HHk : Hid (HalfS (l.map (·.1)) name lo lo) := Lib.hid (by have := HH.out; rwa [he] at this)
      clear HH he
      have HR := Lib.hid (HHk.out.rank)
      by_cases hk : lo < n
      · obtain ⟨b, o, rfl, _, hb, hcell⟩ := h.at_ (by omega)
        obtain ⟨q, hq⟩ : ∃ q, l[lo]? = some q := ⟨l[lo]'(by have := HL.out; omega), List.getElem?_eq_getElem _⟩
        have hg2 := refCells_get hq
        have c0 := (HB.out.cell (p := ⟨b, _, none⟩) (Nat.lt_of_lt_of_le hb hh)).trans (hcell _ _ hg2.1)
        have c1 := (HB.out.cell (p := ⟨b, _, none⟩) (Nat.lt_of_lt_of_le hb hh)).trans (hcell _ _ hg2.2)
        rw [show o + (lo * 2 + 1) = o + lo * 2 + 1 from by omega] at c1
        have hkk : (l.map (·.1))[lo]? = some q.1 := by rw [List.getElem?_map, hq]; rfl
        have hat := HHk.out.at_ hs hkk
        obtain ⟨qa, qb⟩ := q
        simp only at c0 c1 hat
        clear hcell hg2 hq hkk
        by_cases hx : qa = name
        · have HS := Lib.hid (hat.1 hx)
          subst hx
          have d2 := cmpS_eq qa
          clear hat
          go_wp2_with (go_at_call 98; go_must (refine (at1Ref_any _ qa qa qb).mono ?_; rintro e w2 ⟨rfl, hb2⟩; have HB2 := Lib.hid (HB.out.trans (hb2.mono HB.out.size)); clear hb2))
          go_ret2
          rw [HS.out, HR.out]
          exact ret_mk rfl HB2.out
        · have HS := Lib.hid (hat.2 hx)
          have d2 := cmpS_ne hx
          clear hat hx
          go_wp2_with (go_at_call 98; go_must (refine (at1Ref_any _ qa name qb).mono ?_; rintro e w2 ⟨rfl, hb2⟩; have HB2 := Lib.hid (HB.out.trans (hb2.mono HB.out.size)); clear hb2))
          go_ret2
          rw [HS.out, HR.out]
          exact ret_mk rfl HB2.out
      · have HS := Lib.hid (HHk.out.none (by rw [List.length_map]; have := HL.out; omega))
        clear h
        go_wp2_with fail
        go_ret2
        rw [HS.out, HR.out]
        exact ret_mk rfl HB.out
set_option maxHeartbeats 400000 in
/-- where a name is among a node's own -/
theorem rAt_any (w : World) (hi b o : Nat) (A : Option Addr) (n c : Nat) (l : List (ByteArray × Int)) (name : ByteArray) (hc : w.cell? ⟨b, o + 6, none⟩ = some (.slice A n c)) (h : Row w 0 hi 2 A n c (refCells l)) (hh : hi ≤ w.heap.size) (hs : SortS (l.map (·.1))) (hn : n ≤ 140737488355328) :
    Calls Tryz.prog 67 #[.pointer (some ⟨b, o, none⟩), .string name] w (Ret w (.tuple #[.int .i64 (rankS (l.map (·.1)) name), .bool (foundS (l.map (·.1)) name)])) := by
  have HS := Lib.hid (searchRef_any w hi A n c l name h hh hs hn)
  generalize rankS (l.map (·.1)) name = k at HS
  generalize foundS (l.map (·.1)) name = f at HS
  clear h hs
  go_enter Tryz.func67, Tryz.ntmps67
  go_wp2_with (go_at_call 97; go_must (refine HS.out.mono ?_; rintro e w2 ⟨rfl, hb2⟩; have HB2 := Lib.hid hb2; clear hb2))
  go_ret2
  exact ret_mk rfl HB2.out
end Go.Proofs.YtohinklkcinjpaaGreat
namespace Go.Proofs.YtohinklkcinjpaaGreat
open Go Go.RowKit Go.Sort
set_option linter.unusedVariables false
attribute [local go_sem ↓] Go.wp_at_zero Go.wp_at_succ
section
variable {P : Program} (w : World)
/-- copy into the middle of a block of the call's own -/
theorem run_copy_seg (dT sT ty elem : TypeId) (i : TypeInfo) (size : Nat) (hu : P.underlying dT = some (.slice elem)) (hi : P.info? elem = some i) (hs : i.size = size)
    (g o m dLen dCap sLen sCap : Nat) (a : Addr) (cur : Array Value) (t : TypeId) (cs : List Value) (hg : w.heap[g]? = some (.cells cur t (0, 0))) (hm : Nat.min sLen dLen = m) (hn : cs.length = m * size)
    (hsrc : ∀ j v, cs[j]? = some v → w.cell? (a.add j) = some v) (hfit : o + cs.length ≤ cur.size) (h1 : ∀ v ∈ cs, v.oneCell' = true) :
    (Builtin.copy_ #[dT, sT] ty #[.slice (some ⟨g, o, none⟩) dLen dCap, .slice (some a) sLen sCap]).run P w = .ok (goInt m) (w.setRow g (cur.toList.take o ++ cs ++ cur.toList.drop (o + cs.length)).toArray) := by
  have hl := run_loadCells_list (P := P) w a cs hsrc
  have hst := run_storeCells_at P g o t cs 0 cur w hg (by simpa using hfit) h1
  rw [hn] at hl
  simp only [Nat.add_zero] at hst
  have hm' : min sLen dLen = m := hm
  simp [Builtin.copy_, run_underlying hu, Builtin.lenOf, Builtin.firstCells, sizeOf, typeInfo, hi, hs, hm', hl, hst]
/-- append to a list without room: new memory -/
theorem run_app_new (t ty e : TypeId) (i : TypeInfo) (z : Value) (size bytes : Nat) (ht : P.underlying t = some (.slice e)) (hi : P.info? e = some i) (hz : i.zero = some z)
    (hsize : i.size = size) (hby : i.bytes = bytes) (hzs : z.cells.size = size)
    (base : Nat) (A : Option Addr) (n : Nat) (xs : List Value) (hown : w.ownsRow base e size (.slice A n n) n xs) (h0 : n = 0 → A = none)
    (gm : Nat) (cs : List Value) (hb : Blk w gm e cs.toArray) (hcs : cs.length = size) (h63 : n + 1 ≤ maxLen) (hbytes : (n + 1) * bytes ≤ 140737488355328) :
    ∃ c w', (Builtin.append_ #[t, t] ty #[.slice A n n, .slice (some ⟨gm, 0, none⟩) 1 1]).run P w = .ok (.slice (some ⟨w.heap.size, 0, none⟩) (n + 1) c) w' ∧
      w'.ownsRow w.heap.size e size (.slice (some ⟨w.heap.size, 0, none⟩) (n + 1) c) (n + 1) (xs ++ cs) ∧ Below w.heap.size w w' := by
  subst hsize hby
  have hsmall : n + 1 ≤ 9223372036854775807 := by simp only [maxLen] at h63; omega
  have hsrc : ∀ j u, cs[j]? = some u → w.cell? ((⟨gm, 0, none⟩ : Addr).add j) = some u := fun j u hu => by rw [Addr.add_lit, Nat.zero_add, hb.cell]; simpa using hu
  have hlen : (xs ++ cs).length = (n + 1) * i.size := by rw [List.length_append, hown.1, hcs, Nat.add_mul, Nat.one_mul]
  have grown : ∀ (old : Nat), (w.drew.alloc (.cells (xs.toArray ++ cs.toArray ++ Builtin.zeroCells z.cells (grownCap w (n + 1) old e - (n + 1))) e)).ownsRow w.heap.size e i.size
        (.slice (some ⟨w.heap.size, 0, none⟩) (n + 1) (grownCap w (n + 1) old e)) (n + 1) (xs ++ cs) := by
    intro old
    have hge := grownCap_ge w (n + 1) old e
    have hcm : grownCap w (n + 1) old e ≤ maxLen := grownCap_le_maxLen w (n + 1) old e h63
    refine ⟨hlen, .inr ⟨w.heap.size, _, _, rfl, Nat.le_refl _, heap_alloc_new w.drew _, hge, hcm, ?_, ?_⟩⟩
    · simp only [Array.size_append, List.size_toArray, size_zeroCells, hzs, hown.1, hcs]
      rw [show n * i.size + i.size = (n + 1) * i.size from by rw [Nat.add_mul, Nat.one_mul], ← Nat.add_mul]
      congr 1
      omega
    · simp only [Array.toList_append, List.append_assoc]
      rw [← List.append_assoc, ← hlen]
      exact List.take_left
  have hbel : ∀ o : Obj, Below w.heap.size w (w.drew.alloc o) := fun o => (below_drew1 w).trans ((below_box w.drew o))
  by_cases hn : n = 0
  · subst hn
    obtain rfl := h0 rfl
    have hx : xs = [] := List.eq_nil_of_length_eq_zero (by simpa using hown.1)
    subst hx
    have hr := run_append_nil (P := P) w t ty e i z ht hi hz ⟨gm, 0, none⟩ 1 1 cs (by rw [hcs, Nat.one_mul]) hsrc (by omega) (by omega) (by have hb := hbytes; simp only [Nat.zero_add] at hb; omega)
    have hgr := grown 0
    simp only [Nat.zero_add, List.nil_append, Array.empty_append] at hgr ⊢
    exact ⟨_, _, hr, hgr, hbel _⟩
  · rcases hown.2 with ⟨hv, h0'⟩ | ⟨g, cap, cur, hv, hbg, hg, hnc, hcm, hcz, htake⟩
    · exact absurd h0' hn
    · injection hv with hA _ hcap
      subst hA hcap
      have holds : ∀ j u, xs[j]? = some u → w.cell? ((⟨g, 0, none⟩ : Addr).add j) = some u := hown.cells (g := g) rfl
      have hr := run_append_grow (P := P) w t ty e i z ht hi hz ⟨g, 0, none⟩ n n xs hown.1 holds ⟨gm, 0, none⟩ 1 1 cs (by rw [hcs, Nat.one_mul]) hsrc (by omega) (by omega) (growslice_fits (by omega) hbytes)
      exact ⟨_, _, hr, grown n, hbel _⟩
/-- append as the walk takes it, by what it comes to -/
theorem wpList_app_run {ops : Array Oper} {rest : List Oper} {o : Oper} {a : Act} {Q : Exit → Act → World → Prop} (hgd : o.guard = none) (s x : Operand) (t t' : TypeId)
    (ho : o.op = .call { callee := .builtin .append, args := #[s, x], argTypes := #[t, t'] }) (vs vx : Value) (hs : a.eval s = vs) (hx : a.eval x = vx) (v' : Value) (w' : World)
    (hrun : (Builtin.append_ #[t, t'] o.type #[vs, vx]).run P w = .ok v' w') (h : wpList P ops Q rest (a.put o.dst v') w') : wpList P ops Q (o :: rest) a w :=
  wpList_plain hgd fun _ hK => by
    unfold Oper.wp execOp
    simp only [ho, resolve, invoke, builtin, Sem.run_bind, Sem.run_pure, Result.andThen_ok, List.map_toArray, List.map_cons, List.map_nil, hs, hx, hrun]
    exact hK _ _ h
/-- append of so many zero values to the first ones of a list that has no room for them: new memory -/
theorem run_zeros_new (t tn ty e : TypeId) (i : TypeInfo) (z : Value) (size bytes : Nat) (kn : IntKind) (ht : P.underlying t = some (.slice e)) (htn : P.underlying tn = some (.int kn)) (hi : P.info? e = some i) (hz : i.zero = some z)
    (hsize : i.size = size) (hby : i.bytes = bytes) (hzs : z.cells.size = size) (hsz : 0 < size)
    (base : Nat) (g n k : Nat) (xs : List Value) (hown : w.ownsRow base e size (.slice (some ⟨g, 0, none⟩) n n) n xs) (hk : k ≤ n) (h63 : n + 1 ≤ maxLen) (hbytes : (n + 1) * bytes ≤ 140737488355328) :
    ∃ c cur, (Builtin.append_ #[t, tn] ty #[.slice (some ⟨g, 0, none⟩) k n, .int .i64 ((n + 1 - k : Nat) : Int)]).run P w = .ok (.slice (some ⟨w.heap.size, 0, none⟩) (n + 1) c) (w.drew.alloc (.cells cur e)) ∧
      cur.size = c * size ∧ n + 1 ≤ c ∧ c ≤ maxLen ∧ cur.toList.take (k * size) = xs.take (k * size) := by
  subst hsize hby
  have hsmall : n + 1 ≤ 9223372036854775807 := by simp only [maxLen] at h63; omega
  have hlx : (xs.take (k * i.size)).length = k * i.size := by rw [List.length_take, hown.1]; have := Nat.mul_le_mul_right i.size hk; omega
  have hold : (Builtin.firstCells i.size k (.slice (some ⟨g, 0, none⟩) k n)).run P w.drew = .ok (xs.take (k * i.size)).toArray w.drew := by
    have hcl := hown.cells (g := g) rfl
    have hl := run_loadCells_list (P := P) w.drew ⟨g, 0, none⟩ (xs.take (k * i.size)) (fun j u hu => by
      rw [List.getElem?_take] at hu
      split at hu
      · exact hcl j u hu
      · cases hu)
    rw [hlx] at hl
    simp [Builtin.firstCells, hl]
  have hr := Lib.run_append_grow_zeros (P := P) w t tn ty e i z .i64 kn ht htn hi hz (some ⟨g, 0, none⟩) k n _ hold (n + 1 - k) (by omega) hsz (by omega) (by omega) (Nat.le_trans (Nat.mul_le_mul_right _ (by omega)) (by omega : (n + 1) * i.bytes ≤ 281474976710656)) (growslice_fits (by omega) (by rw [show k + (n + 1 - k) = n + 1 from by omega]; exact hbytes))
  rw [show k + (n + 1 - k) = n + 1 from by omega] at hr
  have hge := grownCap_ge w (n + 1) n e
  have hcm : grownCap w (n + 1) n e ≤ maxLen := grownCap_le_maxLen w (n + 1) n e h63
  refine ⟨_, _, hr, ?_, hge, hcm, ?_⟩
  · simp only [Array.size_append, List.size_toArray, size_zeroCells, hzs, hlx]
    rw [← Nat.add_mul, ← Nat.add_mul]
    congr 1
    omega
  · simp only [Array.toList_append, List.append_assoc]
    rw [← hlx]
    simp
end
/-- a cell of a list of the call's own that isn't empty -/
theorem own_cell1 {w : World} {B size n c : Nat} {e : TypeId} {A : Option Addr} (h : ∃ xs, w.ownsRow B e size (.slice A n c) n xs) (hn : 0 < n) :
    ∃ g cs, A = some ⟨g, 0, none⟩ ∧ Blk w g e cs ∧ B ≤ g ∧ n ≤ c ∧ c ≤ maxLen ∧ cs.size = c * size := by
  obtain ⟨xs, h⟩ := h
  rcases h.2 with ⟨hv, h0⟩ | ⟨g, cap, cur, hv, hb, hg, h1, h2, h3, rest⟩
  · omega
  · injection hv with hA _ hc
    subst hA hc
    exact ⟨g, cur, rfl, hg, hb, h1, h2, h3⟩
/-- one more at a place -/
def insL {α : Type} (l : List α) (k : Nat) (x : α) : List α := l.take k ++ x :: l.drop k
theorem insL_flat {α : Type} (f : α → List Value) (hf : ∀ a, (f a).length = 2) (l : List α) (k : Nat) (x : α) (hk : k ≤ l.length) : (insL l k x).flatMap f = (l.flatMap f).take (k * 2) ++ f x ++ (l.flatMap f).drop (k * 2) := by
  have e : l.flatMap f = (l.take k).flatMap f ++ (l.drop k).flatMap f := by rw [← List.flatMap_append, List.take_append_drop]
  have hl : ((l.take k).flatMap f).length = k * 2 := by rw [flatN_len hf, List.length_take, Nat.min_eq_left hk]
  rw [e, List.take_left' hl, List.drop_left' hl]
  simp [insL]
set_option maxRecDepth 20000 in
set_option maxHeartbeats 1600000 in
theorem insProp_any (w : World) (base : Nat) (A : Option Addr) (n k gv : Nat) (l : List (ByteArray × ByteArray)) (name : ByteArray) (hown : w.ownsRow base 94 2 (.slice A n n) n (propCells l)) (hln : l.length = n) (h0 : n = 0 → A = none) (hk : k ≤ n)
    (hv : Blk w gv 94 #[.string name, .string ⟨#[]⟩]) (hb : (n + 1) * 32 ≤ 140737488355328) :
    Calls Tryz.prog 65 #[.slice A n n, .int .i64 k, .slice (some ⟨gv, 0, none⟩) 1 1] w fun e w' => ∃ A' c', e = .returned (.slice A' (n + 1) c') ∧ w'.ownsRow w.heap.size 94 2 (.slice A' (n + 1) c') (n + 1) (propCells (insL l k (name, ⟨#[]⟩))) ∧ Below w.heap.size w w' := by
  obtain ⟨i0, hi0, hz0, hz1, hz2⟩ := info_parts propInfo
  have hcell : propCells (insL l k (name, ⟨#[]⟩)) = (propCells l).take (k * 2) ++ [.string name, .string ⟨#[]⟩] ++ (propCells l).drop (k * 2) := insL_flat _ (fun _ => rfl) l k _ (by omega)
  rw [hcell]
  have hxl : (propCells l).length = n * 2 := by rw [propCells_length, hln]
  clear hcell
  by_cases hkn : k = n
  · subst hkn
    have hx1 : (propCells l).take (k * 2) = propCells l := List.take_of_length_le (by omega)
    have hx2 : (propCells l).drop (k * 2) = [] := List.drop_eq_nil_of_le (by omega)
    rw [hx1, hx2, List.append_nil]
    obtain ⟨c, w', hrun, ho, hbl⟩ := run_app_new (P := Tryz.prog) w 38 38 94 i0 _ 2 32 Tryz.underlying38 hi0 hz0 hz1 hz2 rfl base A k _ hown h0 gv [.string name, .string ⟨#[]⟩] hv rfl (by unfold maxLen; omega) hb
    have HO := Lib.hid ho
    have HB := Lib.hid hbl
    have HRN := Lib.hid hrun
    clear hrun
    by_cases hk0 : k = 0
    · subst hk0
      obtain rfl := h0 rfl
      clear hown ho hbl hv h0
      go_enter Tryz.func65, Tryz.ntmps65
      go_wp2_with (at_builtin; go_must (refine wpList_app_run _ rfl (.tmp 23) (.tmp 24) _ _ rfl _ _ rfl rfl _ _ HRN.out ?_))
      go_ret
      exact ⟨_, c, rfl, HO.out, HB.out⟩
    · obtain ⟨g, cs, hA, _, _, _, _, _⟩ := own_cell1 ⟨_, hown⟩ (by omega)
      subst hA
      clear hown ho hbl hv h0
      go_enter Tryz.func65, Tryz.ntmps65
      go_wp2_with (at_builtin; go_must (refine wpList_app_run _ rfl (.tmp 23) (.tmp 24) _ _ rfl _ _ rfl rfl _ _ HRN.out ?_))
      go_ret
      exact ⟨_, c, rfl, HO.out, HB.out⟩
  · have hlt : k < n := by omega
    obtain ⟨g, cs, hA, hgb, _, _, _, _⟩ := own_cell1 ⟨_, hown⟩ (by omega)
    subst hA
    obtain ⟨c, cur, hrun, hcs, hc1, hc2, htk⟩ := run_zeros_new (P := Tryz.prog) w 38 3 38 94 i0 _ 2 32 _ Tryz.underlying38 Tryz.underlying3 hi0 hz0 hz1 hz2 rfl (by omega) base g n k _ hown hk (by unfold maxLen; omega) hb
    rw [show ((n + 1 - k : Nat) : Int) = (n : Int) + 1 - (k : Int) from by omega] at hrun
    have hB1 : Blk (w.drew.alloc (.cells cur 94)) w.heap.size 94 cur := Blk.new' rfl
    have hE1 : Below w.heap.size w (w.drew.alloc (.cells cur 94)) := (below_drew1 w).trans (below_box w.drew _)
    generalize w.drew.alloc (.cells cur 94) = W1 at hrun hB1 hE1
    have hv1 := hv.after hE1
    have hmul : (k + 1) * 2 ≤ c * 2 := Nat.mul_le_mul_right 2 (by omega)
    have hrun2 := run_copy_seg (P := Tryz.prog) W1 38 38 3 94 i0 2 Tryz.underlying38 hi0 hz1 w.heap.size (k * 2) 1 (n + 1 - k) (c - k) 1 1 ⟨gv, 0, none⟩ cur 94 [.string name, .string ⟨#[]⟩] hB1 (by show min 1 (n + 1 - k) = 1; omega) rfl
      (fun j u hu => by rw [Addr.add_lit, Nat.zero_add, hv1.cell]; simpa using hu) (by simp only [List.length_cons, List.length_nil]; omega) (by simp [Value.oneCell'])
    have hB2 : Blk (W1.setRow w.heap.size (cur.toList.take (k * 2) ++ [Value.string name, Value.string ⟨#[]⟩] ++ cur.toList.drop (k * 2 + ([Value.string name, Value.string ⟨#[]⟩] : List Value).length)).toArray) w.heap.size 94 _ := setRow_heap W1 w.heap.size cur _ 94 (0, 0) hB1
    have hE2 := below_setRow hE1 (Nat.le_refl _) (cur.toList.take (k * 2) ++ [Value.string name, Value.string ⟨#[]⟩] ++ cur.toList.drop (k * 2 + ([Value.string name, Value.string ⟨#[]⟩] : List Value).length)).toArray
    generalize W1.setRow w.heap.size (cur.toList.take (k * 2) ++ [Value.string name, Value.string ⟨#[]⟩] ++ cur.toList.drop (k * 2 + ([Value.string name, Value.string ⟨#[]⟩] : List Value).length)).toArray = W2 at hrun2 hB2 hE2
    obtain ⟨cur2, hcur2⟩ : ∃ x, (cur.toList.take (k * 2) ++ [Value.string name, Value.string ⟨#[]⟩] ++ cur.toList.drop (k * 2 + ([Value.string name, Value.string ⟨#[]⟩] : List Value).length)) = x := ⟨_, rfl⟩
    rw [hcur2] at hB2
    have hlc2 : cur2.length = c * 2 := by
      rw [← hcur2]
      simp only [List.length_append, List.length_take, List.length_drop, Array.length_toList, List.length_cons, List.length_nil]
      omega
    obtain ⟨k1, hk1⟩ : ∃ k1, k1 = k + 1 := ⟨_, rfl⟩
    have ho2 := own_after hown (hE2.trans ((below_drew1 W2).mono hE2.size))
    have hcl := ho2.cells (g := g) rfl
    have hrun3 := run_copy_seg (P := Tryz.prog) W2.drew 38 38 3 94 i0 2 Tryz.underlying38 hi0 hz1 w.heap.size (k1 * 2) (n - k) (n + 1 - k1) (c - k1) (n - k) (n - k) ⟨g, k * 2, none⟩ cur2.toArray 94 ((propCells l).drop (k * 2)) (hB2.after (below_drew1 W2)) (by show min (n - k) (n + 1 - k1) = n - k; omega) (by rw [List.length_drop, hxl, ← Nat.sub_mul])
      (fun j u hu => by
        rw [Addr.add_lit]
        rw [List.getElem?_drop] at hu
        have := hcl _ _ hu
        rwa [Addr.add_lit, Nat.zero_add] at this) (by rw [List.length_drop, hxl, List.size_toArray, hlc2]; have : (n + 1) * 2 ≤ c * 2 := Nat.mul_le_mul_right 2 hc1; omega) (fun u hu => propCells_one l u (List.mem_of_mem_drop hu))
    have hB3 := setRow_heap W2.drew w.heap.size cur2.toArray (cur2.toArray.toList.take (k1 * 2) ++ (propCells l).drop (k * 2) ++ cur2.toArray.toList.drop (k1 * 2 + ((propCells l).drop (k * 2)).length)).toArray 94 (0, 0) (hB2.after (below_drew1 W2))
    have hE3 := below_setRow (hE2.trans ((below_drew1 W2).mono hE2.size)) (Nat.le_refl _) (cur2.toArray.toList.take (k1 * 2) ++ (propCells l).drop (k * 2) ++ cur2.toArray.toList.drop (k1 * 2 + ((propCells l).drop (k * 2)).length)).toArray
    generalize W2.drew.setRow w.heap.size (cur2.toArray.toList.take (k1 * 2) ++ (propCells l).drop (k * 2) ++ cur2.toArray.toList.drop (k1 * 2 + ((propCells l).drop (k * 2)).length)).toArray = W3 at hrun3 hB3 hE3
    have hlt1 : (cur.toList.take (k * 2)).length = k * 2 := by rw [List.length_take, Array.length_toList]; omega
    have hcut : cur2.take (k1 * 2) = (propCells l).take (k * 2) ++ [.string name, .string ⟨#[]⟩] := by
      rw [← hcur2, List.take_left' (by rw [List.length_append, hlt1]; simp only [List.length_cons, List.length_nil]; omega), htk]
    have hfin : W3.ownsRow w.heap.size 94 2 (.slice (some ⟨w.heap.size, 0, none⟩) (n + 1) c) (n + 1) ((propCells l).take (k * 2) ++ [.string name, .string ⟨#[]⟩] ++ (propCells l).drop (k * 2)) := by
      have hl : ((propCells l).take (k * 2) ++ [Value.string name, Value.string ⟨#[]⟩] ++ (propCells l).drop (k * 2)).length = (n + 1) * 2 := by
        simp only [List.length_append, List.length_take, List.length_drop, hxl, List.length_cons, List.length_nil]
        omega
      refine ⟨hl, .inr ⟨w.heap.size, c, _, rfl, Nat.le_refl _, hB3, hc1, hc2, ?_, ?_⟩⟩
      · simp only [List.size_toArray, List.length_append, List.length_take, List.length_drop, hlc2, hxl]
        have : (n + 1) * 2 ≤ c * 2 := Nat.mul_le_mul_right 2 hc1
        omega
      · simp only [List.toList_toArray]
        rw [hcut, List.take_left' hl]
    have HRN := Lib.hid hrun
    have HFI := Lib.hid hfin
    have HE3 := Lib.hid hE3
    have hw1 : IntKind.i64.wrap ((k : Int) + 1) = (k1 : Int) := by rw [IntWalk.i64_in _ ⟨by omega, by unfold maxLen at hc2; omega⟩]; omega
    have hk1i : ¬ (n : Int) + 1 < (k1 : Int) := by omega
    have hnk : ¬ n = k := by omega
    have hck : ¬ c = k1 := by omega
    have hk1c : k1 ≤ c := by omega
    have hk1n : k1 ≤ n + 1 := by omega
    have hc3 : c ≤ 9223372036854775807 := by unfold maxLen at hc2; omega
    clear hrun hown hv hv1 h0 hgb htk hc2 hB1 hE1 hB2 hE2 hcur2 hlc2 ho2 hcl hB3 hE3 hlt1 hcut hfin hmul hk1
    go_enter Tryz.func65, Tryz.ntmps65
    go_upto_region 11 with (at_builtin; go_must (refine wpList_app_run _ rfl (.tmp 34) (.tmp 39) _ _ rfl _ _ rfl rfl _ _ HRN.out ?_))
    refine wp_region_held_tail 8 (fun w' => True) (by kernel_rfl) (by kernel_rfl) trivial (fun hHeld => ?qt0)
    case qt0 =>
      simp only [List.take_succ_cons, List.take_zero, List.drop_succ_cons, List.drop_zero]
      refine wpAnyH_take (i := 0) (v := (.slice (some ⟨w.heap.size, 0, none⟩) (n + 1) c)) rfl (by kernel_rfl) (by kernel_rfl) (by kernel_rfl) (fun _ _ _ h => h) (Or.inl ⟨by rfl, ?yt_1⟩) (by assumption) ?qt_1
      case yt_1 => (intro w hSw; (try dsimp only at hSw); go_simp)
      case qt_1 =>
        (try simp only [Act.put]); (try simp only [List.setIfInBounds_toArray])
        refine wpAnyH_take (i := 1) (v := (.int .i64 k)) rfl (by kernel_rfl) (by kernel_rfl) (by kernel_rfl) (fun _ _ _ h => h) (Or.inl ⟨by rfl, ?yt_2⟩) (by assumption) ?qt_2
        case yt_2 => (intro w hSw; (try dsimp only at hSw); go_simp)
        case qt_2 =>
          (try simp only [Act.put]); (try simp only [List.setIfInBounds_toArray])
          refine wpAnyH_take (i := 2) (v := (.int .i64 1)) rfl (by kernel_rfl) (by kernel_rfl) (by kernel_rfl) (fun _ _ _ h => h) (Or.inl ⟨by rfl, ?yt_3⟩) (by assumption) ?qt_3
          case yt_3 => (intro w hSw; (try dsimp only at hSw); go_simp)
          case qt_3 =>
            (try simp only [Act.put]); (try simp only [List.setIfInBounds_toArray])
            refine wpAnyH_take (i := 3) (v := (.int .i64 k1)) rfl (by kernel_rfl) (by kernel_rfl) (by kernel_rfl) (fun _ _ _ h => h) (Or.inl ⟨by rfl, ?yt_4⟩) (by assumption) ?qt_4
            case yt_4 => (intro w hSw; (try dsimp only at hSw); go_simp)
            case qt_4 =>
              (try simp only [Act.put]); (try simp only [List.setIfInBounds_toArray])
              refine wpAnyH_take (i := 4) (v := (.slice (some ⟨w.heap.size, k1 * 2, none⟩) (n + 1 - k1) (c - k1))) rfl (by kernel_rfl) (by kernel_rfl) (by kernel_rfl) (fun _ _ _ h => h) (Or.inl ⟨by rfl, ?yt_5⟩) (by assumption) ?qt_5
              case yt_5 => (intro w hSw; (try dsimp only at hSw); go_simp)
              case qt_5 =>
                (try simp only [Act.put]); (try simp only [List.setIfInBounds_toArray])
                refine wpAnyH_take (i := 5) (v := (.slice (some ⟨g, 0, none⟩) n n)) rfl (by kernel_rfl) (by kernel_rfl) (by kernel_rfl) (fun _ _ _ h => h) (Or.inl ⟨by rfl, ?yt_6⟩) (by assumption) ?qt_6
                case yt_6 => (intro w hSw; (try dsimp only at hSw); go_simp)
                case qt_6 =>
                  (try simp only [Act.put]); (try simp only [List.setIfInBounds_toArray])
                  refine wpAnyH_take (i := 6) (v := (.int .i64 k)) rfl (by kernel_rfl) (by kernel_rfl) (by kernel_rfl) (fun _ _ _ h => h) (Or.inl ⟨by rfl, ?yt_7⟩) (by assumption) ?qt_7
                  case yt_7 => (intro w hSw; (try dsimp only at hSw); go_simp)
                  case qt_7 =>
                    (try simp only [Act.put]); (try simp only [List.setIfInBounds_toArray])
                    refine wpAnyH_take (i := 7) (v := (.slice (some ⟨g, k * 2, none⟩) (n - k) (n - k))) rfl (by kernel_rfl) (by kernel_rfl) (by kernel_rfl) (fun _ _ _ h => h) (Or.inl ⟨by rfl, ?yt_8⟩) (by assumption) ?qt_8
                    case yt_8 => (intro w hSw; (try dsimp only at hSw); go_simp)
                    case qt_8 =>
                      (try simp only [Act.put]); (try simp only [List.setIfInBounds_toArray])
                      refine wpAnyH_done (by kernel_rfl) ?_ _
                      show wpList _ _ _ _ _ _
                      go_wp2_with fail
                      go_ret
                      have hfo := HFI.out
                      simp only [List.append_assoc, List.cons_append, List.nil_append] at hfo
                      exact ⟨_, c, rfl, hfo, HE3.out⟩
set_option maxRecDepth 20000 in
set_option maxHeartbeats 1600000 in
theorem insRef_any (w : World) (base : Nat) (A : Option Addr) (n k gv : Nat) (l : List (ByteArray × Int)) (name : ByteArray) (hown : w.ownsRow base 60 2 (.slice A n n) n (refCells l)) (hln : l.length = n) (h0 : n = 0 → A = none) (hk : k ≤ n)
    (hv : Blk w gv 60 #[.string name, .int .i64 0]) (hb : (n + 1) * 24 ≤ 140737488355328) :
    Calls Tryz.prog 68 #[.slice A n n, .int .i64 k, .slice (some ⟨gv, 0, none⟩) 1 1] w fun e w' => ∃ A' c', e = .returned (.slice A' (n + 1) c') ∧ w'.ownsRow w.heap.size 60 2 (.slice A' (n + 1) c') (n + 1) (refCells (insL l k (name, 0))) ∧ Below w.heap.size w w' := by
  obtain ⟨i0, hi0, hz0, hz1, hz2⟩ := info_parts refInfo
  have hcell : refCells (insL l k (name, 0)) = (refCells l).take (k * 2) ++ [.string name, .int .i64 0] ++ (refCells l).drop (k * 2) := insL_flat _ (fun _ => rfl) l k _ (by omega)
  rw [hcell]
  have hxl : (refCells l).length = n * 2 := by rw [refCells_length, hln]
  clear hcell
  by_cases hkn : k = n
  · subst hkn
    have hx1 : (refCells l).take (k * 2) = refCells l := List.take_of_length_le (by omega)
    have hx2 : (refCells l).drop (k * 2) = [] := List.drop_eq_nil_of_le (by omega)
    rw [hx1, hx2, List.append_nil]
    obtain ⟨c, w', hrun, ho, hbl⟩ := run_app_new (P := Tryz.prog) w 39 39 60 i0 _ 2 24 Tryz.underlying39 hi0 hz0 hz1 hz2 rfl base A k _ hown h0 gv [.string name, .int .i64 0] hv rfl (by unfold maxLen; omega) hb
    have HO := Lib.hid ho
    have HB := Lib.hid hbl
    have HRN := Lib.hid hrun
    clear hrun
    by_cases hk0 : k = 0
    · subst hk0
      obtain rfl := h0 rfl
      clear hown ho hbl hv h0
      go_enter Tryz.func68, Tryz.ntmps68
      go_wp2_with (at_builtin; go_must (refine wpList_app_run _ rfl (.tmp 23) (.tmp 24) _ _ rfl _ _ rfl rfl _ _ HRN.out ?_))
      go_ret
      exact ⟨_, c, rfl, HO.out, HB.out⟩
    · obtain ⟨g, cs, hA, _, _, _, _, _⟩ := own_cell1 ⟨_, hown⟩ (by omega)
      subst hA
      clear hown ho hbl hv h0
      go_enter Tryz.func68, Tryz.ntmps68
      go_wp2_with (at_builtin; go_must (refine wpList_app_run _ rfl (.tmp 23) (.tmp 24) _ _ rfl _ _ rfl rfl _ _ HRN.out ?_))
      go_ret
      exact ⟨_, c, rfl, HO.out, HB.out⟩
  · have hlt : k < n := by omega
    obtain ⟨g, cs, hA, hgb, _, _, _, _⟩ := own_cell1 ⟨_, hown⟩ (by omega)
    subst hA
    obtain ⟨c, cur, hrun, hcs, hc1, hc2, htk⟩ := run_zeros_new (P := Tryz.prog) w 39 3 39 60 i0 _ 2 24 _ Tryz.underlying39 Tryz.underlying3 hi0 hz0 hz1 hz2 rfl (by omega) base g n k _ hown hk (by unfold maxLen; omega) hb
    rw [show ((n + 1 - k : Nat) : Int) = (n : Int) + 1 - (k : Int) from by omega] at hrun
    have hB1 : Blk (w.drew.alloc (.cells cur 60)) w.heap.size 60 cur := Blk.new' rfl
    have hE1 : Below w.heap.size w (w.drew.alloc (.cells cur 60)) := (below_drew1 w).trans (below_box w.drew _)
    generalize w.drew.alloc (.cells cur 60) = W1 at hrun hB1 hE1
    have hv1 := hv.after hE1
    have hmul : (k + 1) * 2 ≤ c * 2 := Nat.mul_le_mul_right 2 (by omega)
    have hrun2 := run_copy_seg (P := Tryz.prog) W1 39 39 3 60 i0 2 Tryz.underlying39 hi0 hz1 w.heap.size (k * 2) 1 (n + 1 - k) (c - k) 1 1 ⟨gv, 0, none⟩ cur 60 [.string name, .int .i64 0] hB1 (by show min 1 (n + 1 - k) = 1; omega) rfl
      (fun j u hu => by rw [Addr.add_lit, Nat.zero_add, hv1.cell]; simpa using hu) (by simp only [List.length_cons, List.length_nil]; omega) (by simp [Value.oneCell'])
    have hB2 : Blk (W1.setRow w.heap.size (cur.toList.take (k * 2) ++ [Value.string name, Value.int .i64 0] ++ cur.toList.drop (k * 2 + ([Value.string name, Value.int .i64 0] : List Value).length)).toArray) w.heap.size 60 _ := setRow_heap W1 w.heap.size cur _ 60 (0, 0) hB1
    have hE2 := below_setRow hE1 (Nat.le_refl _) (cur.toList.take (k * 2) ++ [Value.string name, Value.int .i64 0] ++ cur.toList.drop (k * 2 + ([Value.string name, Value.int .i64 0] : List Value).length)).toArray
    generalize W1.setRow w.heap.size (cur.toList.take (k * 2) ++ [Value.string name, Value.int .i64 0] ++ cur.toList.drop (k * 2 + ([Value.string name, Value.int .i64 0] : List Value).length)).toArray = W2 at hrun2 hB2 hE2
    obtain ⟨cur2, hcur2⟩ : ∃ x, (cur.toList.take (k * 2) ++ [Value.string name, Value.int .i64 0] ++ cur.toList.drop (k * 2 + ([Value.string name, Value.int .i64 0] : List Value).length)) = x := ⟨_, rfl⟩
    rw [hcur2] at hB2
    have hlc2 : cur2.length = c * 2 := by
      rw [← hcur2]
      simp only [List.length_append, List.length_take, List.length_drop, Array.length_toList, List.length_cons, List.length_nil]
      omega
    obtain ⟨k1, hk1⟩ : ∃ k1, k1 = k + 1 := ⟨_, rfl⟩
    have ho2 := own_after hown (hE2.trans ((below_drew1 W2).mono hE2.size))
    have hcl := ho2.cells (g := g) rfl
    have hrun3 := run_copy_seg (P := Tryz.prog) W2.drew 39 39 3 60 i0 2 Tryz.underlying39 hi0 hz1 w.heap.size (k1 * 2) (n - k) (n + 1 - k1) (c - k1) (n - k) (n - k) ⟨g, k * 2, none⟩ cur2.toArray 60 ((refCells l).drop (k * 2)) (hB2.after (below_drew1 W2)) (by show min (n - k) (n + 1 - k1) = n - k; omega) (by rw [List.length_drop, hxl, ← Nat.sub_mul])
      (fun j u hu => by
        rw [Addr.add_lit]
        rw [List.getElem?_drop] at hu
        have := hcl _ _ hu
        rwa [Addr.add_lit, Nat.zero_add] at this) (by rw [List.length_drop, hxl, List.size_toArray, hlc2]; have : (n + 1) * 2 ≤ c * 2 := Nat.mul_le_mul_right 2 hc1; omega) (fun u hu => refCells_one l u (List.mem_of_mem_drop hu))
    have hB3 := setRow_heap W2.drew w.heap.size cur2.toArray (cur2.toArray.toList.take (k1 * 2) ++ (refCells l).drop (k * 2) ++ cur2.toArray.toList.drop (k1 * 2 + ((refCells l).drop (k * 2)).length)).toArray 60 (0, 0) (hB2.after (below_drew1 W2))
    have hE3 := below_setRow (hE2.trans ((below_drew1 W2).mono hE2.size)) (Nat.le_refl _) (cur2.toArray.toList.take (k1 * 2) ++ (refCells l).drop (k * 2) ++ cur2.toArray.toList.drop (k1 * 2 + ((refCells l).drop (k * 2)).length)).toArray
    generalize W2.drew.setRow w.heap.size (cur2.toArray.toList.take (k1 * 2) ++ (refCells l).drop (k * 2) ++ cur2.toArray.toList.drop (k1 * 2 + ((refCells l).drop (k * 2)).length)).toArray = W3 at hrun3 hB3 hE3
    have hlt1 : (cur.toList.take (k * 2)).length = k * 2 := by rw [List.length_take, Array.length_toList]; omega
    have hcut : cur2.take (k1 * 2) = (refCells l).take (k * 2) ++ [.string name, .int .i64 0] := by
      rw [← hcur2, List.take_left' (by rw [List.length_append, hlt1]; simp only [List.length_cons, List.length_nil]; omega), htk]
    have hfin : W3.ownsRow w.heap.size 60 2 (.slice (some ⟨w.heap.size, 0, none⟩) (n + 1) c) (n + 1) ((refCells l).take (k * 2) ++ [.string name, .int .i64 0] ++ (refCells l).drop (k * 2)) := by
      have hl : ((refCells l).take (k * 2) ++ [Value.string name, Value.int .i64 0] ++ (refCells l).drop (k * 2)).length = (n + 1) * 2 := by
        simp only [List.length_append, List.length_take, List.length_drop, hxl, List.length_cons, List.length_nil]
        omega
      refine ⟨hl, .inr ⟨w.heap.size, c, _, rfl, Nat.le_refl _, hB3, hc1, hc2, ?_, ?_⟩⟩
      · simp only [List.size_toArray, List.length_append, List.length_take, List.length_drop, hlc2, hxl]
        have : (n + 1) * 2 ≤ c * 2 := Nat.mul_le_mul_right 2 hc1
        omega
      · simp only [List.toList_toArray]
        rw [hcut, List.take_left' hl]
    have HRN := Lib.hid hrun
    have HFI := Lib.hid hfin
    have HE3 := Lib.hid hE3
    have hw1 : IntKind.i64.wrap ((k : Int) + 1) = (k1 : Int) := by rw [IntWalk.i64_in _ ⟨by omega, by unfold maxLen at hc2; omega⟩]; omega
    have hk1i : ¬ (n : Int) + 1 < (k1 : Int) := by omega
    have hnk : ¬ n = k := by omega
    have hck : ¬ c = k1 := by omega
    have hk1c : k1 ≤ c := by omega
    have hk1n : k1 ≤ n + 1 := by omega
    have hc3 : c ≤ 9223372036854775807 := by unfold maxLen at hc2; omega
    clear hrun hown hv hv1 h0 hgb htk hc2 hB1 hE1 hB2 hE2 hcur2 hlc2 ho2 hcl hB3 hE3 hlt1 hcut hfin hmul hk1
    go_enter Tryz.func68, Tryz.ntmps68
    go_upto_region 11 with (at_builtin; go_must (refine wpList_app_run _ rfl (.tmp 34) (.tmp 39) _ _ rfl _ _ rfl rfl _ _ HRN.out ?_))
    refine wp_region_held_tail 8 (fun w' => True) (by kernel_rfl) (by kernel_rfl) trivial (fun hHeld => ?qt0)
    case qt0 =>
      simp only [List.take_succ_cons, List.take_zero, List.drop_succ_cons, List.drop_zero]
      refine wpAnyH_take (i := 0) (v := (.slice (some ⟨w.heap.size, 0, none⟩) (n + 1) c)) rfl (by kernel_rfl) (by kernel_rfl) (by kernel_rfl) (fun _ _ _ h => h) (Or.inl ⟨by rfl, ?yt_1⟩) (by assumption) ?qt_1
      case yt_1 => (intro w hSw; (try dsimp only at hSw); go_simp)
      case qt_1 =>
        (try simp only [Act.put]); (try simp only [List.setIfInBounds_toArray])
        refine wpAnyH_take (i := 1) (v := (.int .i64 k)) rfl (by kernel_rfl) (by kernel_rfl) (by kernel_rfl) (fun _ _ _ h => h) (Or.inl ⟨by rfl, ?yt_2⟩) (by assumption) ?qt_2
        case yt_2 => (intro w hSw; (try dsimp only at hSw); go_simp)
        case qt_2 =>
          (try simp only [Act.put]); (try simp only [List.setIfInBounds_toArray])
          refine wpAnyH_take (i := 2) (v := (.int .i64 1)) rfl (by kernel_rfl) (by kernel_rfl) (by kernel_rfl) (fun _ _ _ h => h) (Or.inl ⟨by rfl, ?yt_3⟩) (by assumption) ?qt_3
          case yt_3 => (intro w hSw; (try dsimp only at hSw); go_simp)
          case qt_3 =>
            (try simp only [Act.put]); (try simp only [List.setIfInBounds_toArray])
            refine wpAnyH_take (i := 3) (v := (.int .i64 k1)) rfl (by kernel_rfl) (by kernel_rfl) (by kernel_rfl) (fun _ _ _ h => h) (Or.inl ⟨by rfl, ?yt_4⟩) (by assumption) ?qt_4
            case yt_4 => (intro w hSw; (try dsimp only at hSw); go_simp)
            case qt_4 =>
              (try simp only [Act.put]); (try simp only [List.setIfInBounds_toArray])
              refine wpAnyH_take (i := 4) (v := (.slice (some ⟨w.heap.size, k1 * 2, none⟩) (n + 1 - k1) (c - k1))) rfl (by kernel_rfl) (by kernel_rfl) (by kernel_rfl) (fun _ _ _ h => h) (Or.inl ⟨by rfl, ?yt_5⟩) (by assumption) ?qt_5
              case yt_5 => (intro w hSw; (try dsimp only at hSw); go_simp)
              case qt_5 =>
                (try simp only [Act.put]); (try simp only [List.setIfInBounds_toArray])
                refine wpAnyH_take (i := 5) (v := (.slice (some ⟨g, 0, none⟩) n n)) rfl (by kernel_rfl) (by kernel_rfl) (by kernel_rfl) (fun _ _ _ h => h) (Or.inl ⟨by rfl, ?yt_6⟩) (by assumption) ?qt_6
                case yt_6 => (intro w hSw; (try dsimp only at hSw); go_simp)
                case qt_6 =>
                  (try simp only [Act.put]); (try simp only [List.setIfInBounds_toArray])
                  refine wpAnyH_take (i := 6) (v := (.int .i64 k)) rfl (by kernel_rfl) (by kernel_rfl) (by kernel_rfl) (fun _ _ _ h => h) (Or.inl ⟨by rfl, ?yt_7⟩) (by assumption) ?qt_7
                  case yt_7 => (intro w hSw; (try dsimp only at hSw); go_simp)
                  case qt_7 =>
                    (try simp only [Act.put]); (try simp only [List.setIfInBounds_toArray])
                    refine wpAnyH_take (i := 7) (v := (.slice (some ⟨g, k * 2, none⟩) (n - k) (n - k))) rfl (by kernel_rfl) (by kernel_rfl) (by kernel_rfl) (fun _ _ _ h => h) (Or.inl ⟨by rfl, ?yt_8⟩) (by assumption) ?qt_8
                    case yt_8 => (intro w hSw; (try dsimp only at hSw); go_simp)
                    case qt_8 =>
                      (try simp only [Act.put]); (try simp only [List.setIfInBounds_toArray])
                      refine wpAnyH_done (by kernel_rfl) ?_ _
                      show wpList _ _ _ _ _ _
                      go_wp2_with fail
                      go_ret
                      have hfo := HFI.out
                      simp only [List.append_assoc, List.cons_append, List.nil_append] at hfo
                      exact ⟨_, c, rfl, hfo, HE3.out⟩
end Go.Proofs.YtohinklkcinjpaaGreat
namespace Go.Proofs.YtohinklkcinjpaaGreat
open Go Go.RowKit Go.Sort
set_option linter.unusedVariables false
attribute [local go_sem ↓] Go.wp_at_zero Go.wp_at_succ
section
variable {P : Program} (w : World)
end
theorem wpList_clear_run {P : Program} {w : World} {ops : Array Oper} {rest : List Oper} {o : Oper} {a : Act} {Q : Exit → Act → World → Prop} (hgd : o.guard = none) (s : Operand) (t : TypeId)
    (ho : o.op = .call { callee := .builtin .clear, args := #[s], argTypes := #[t] }) (vs : Value) (hs : a.eval s = vs) (v' : Value) (w' : World)
    (hrun : (Builtin.clear_ #[t] o.type #[vs]).run P w = .ok v' w') (h : wpList P ops Q rest (a.put o.dst v') w') : wpList P ops Q (o :: rest) a w := by
  refine wpList_plain hgd fun K hK => ?_
  unfold Oper.wp
  simp [execOp, ho, resolve, invoke, builtin, hs, hrun, Result.andThen]
  exact hK _ _ h
end Go.Proofs.YtohinklkcinjpaaGreat

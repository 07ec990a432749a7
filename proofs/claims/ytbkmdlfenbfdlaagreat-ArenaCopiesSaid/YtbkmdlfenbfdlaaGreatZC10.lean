/-
  WALKS: changed, where nothing is told ahead: no such node; and the change.
  WALKS: where among a node's properties, its references, a name is, or would be: the program's binary search.
-/
import Derived.Test.YtbkmdlfenbfdlaaGreatZC9
namespace Go.Proofs.YtbkmdlfenbfdlaaGreat
open Go Go.RowKit Go.Sort
set_option linter.unusedVariables false
attribute [local go_sem ↓] Go.wp_at_zero Go.wp_at_succ
set_option maxRecDepth 20000 in
set_option maxHeartbeats 3200000 in
theorem changed_none (w : World) (hi : Nat) (next id : Int) (A : Option Addr) (n c : Nat) (nds : List Nd) (F : FuncId) (caps : Array Value) (h : NodesIn w 0 hi A n c nds) (hh : hi ≤ w.heap.size) (hr : Rise nds) (hn : n ≤ 4096) (hix : ixOf nds id = none) :
    Calls Tryz.prog 62 #[.agg #[.int .i64 next, .slice A n c], .int .i64 id, .int .i64 0, .func (.func F) #[] caps] w fun e w' => e = .returned (.tuple #[.agg #[.int .i64 0, .slice none 0 0], .int .i64 20]) ∧ Below w.heap.size w w' := by
  have HM0 := Lib.hid (CB.start w next A n c)
  have HCh := Lib.hid (has_any _ hi next id A n c nds (h.below (HM0.out.bel.mono hh)) (Nat.le_trans hh HM0.out.bel.size) hr hn)
  have HS : Hid ((ixOf nds id).isSome = false) := Lib.hid (by rw [hix]; rfl)
  have a0 := (HM0.out.m.cell 0).trans (show _ = some (.int .i64 next) from rfl)
  have a1 := (HM0.out.m.cell 1).trans (show _ = some (.slice A n c) from rfl)
  clear h hr hix
  go_enter Tryz.func62, Tryz.ntmps62
  go_wp2_with (go_at_call 40; go_must (refine HCh.out.mono ?_; rintro e w2 ⟨rfl, hb2⟩; rw [HS.out]; have HM2 := Lib.hid (HM0.out.after hb2); have r0 := HM2.out.r.frozen 0; have r1 := HM2.out.r.frozen 1; have r2 := HM2.out.r.cell 0; have r3 := HM2.out.r.cell 1; simp at r2 r3; clear hb2))
  (try rw [Exit.noGoto_ret])
  (try simp only [Exit.inBlock, Exit.then])
  have hres : Tryz.f62.results = #[.cell 8 26, .tmp 9] := by kernel_rfl
  refine bodyPost_ret (v := .tuple #[.agg #[.int .i64 0, .slice none 0 0], .int .i64 20]) ?hr rfl ?_
  case hr =>
    simp only [results, hres]
    go_simp
  exact ⟨rfl, HM2.out.lay _ _⟩
set_option maxRecDepth 20000 in
set_option maxHeartbeats 3200000 in
theorem changed_yes (w : World) (hi : Nat) (next id : Int) (A : Option Addr) (n c : Nat) (nds : List Nd) (F : FuncId) (caps : Array Value) (i : Nat) (nd nd' : Nd) (h : NodesIn w 0 hi A n c nds) (hh : hi ≤ w.heap.size) (hr : Rise nds) (hn : n ≤ 4096)
    (hf : ∀ nd ∈ nds, Fits 1 nd) (hix : ixOf nds id = some i) (hnd : nds[i]? = some nd) (hen : ∀ args w, Sem.run Tryz.prog (callFunc F args) w = .ok (.enter F args) w) (hC : Change w n F caps nd nd') :
    Calls Tryz.prog 62 #[.agg #[.int .i64 next, .slice A n c], .int .i64 id, .int .i64 0, .func (.func F) #[] caps] w fun e w' => ∃ g l, e = .returned (.tuple #[.agg #[.int .i64 next, .slice (some ⟨g, 0, none⟩) n n], .int .i64 0]) ∧
      OwnM w' w.heap.size (.slice (some ⟨g, 0, none⟩) n n) l ∧ l.map (·.1) = nds.set i nd' ∧ Below w.heap.size w w' := by
  have hlen := h.1
  have HM0 := Lib.hid (CB.start w next A n c)
  have HCh := Lib.hid (has_any _ hi next id A n c nds (h.below (HM0.out.bel.mono hh)) (Nat.le_trans hh HM0.out.bel.size) hr hn)
  have HOW := Lib.hid fun (X : World) (hX : CB w next A n c X) => own_dist X hi next A n c nds (h.below (hX.bel.mono hh)) (Nat.le_trans hh hX.bel.size) hn hf
  have HS : Hid ((ixOf nds id).isSome = true) := Lib.hid (by rw [hix]; rfl)
  have a0 := (HM0.out.m.cell 0).trans (show _ = some (.int .i64 next) from rfl)
  have a1 := (HM0.out.m.cell 1).trans (show _ = some (.slice A n c) from rfl)
  have HR := Lib.hid hr
  have HIX := Lib.hid hix
  have HND := Lib.hid hnd
  have HCC := Lib.hid hC
  clear h hr hix hnd hC hf
  go_enter Tryz.func62, Tryz.ntmps62
  go_upto_region 6 with (first | (go_at_call 40; go_must (refine HCh.out.mono ?_; rintro e w2 ⟨rfl, hb2⟩; rw [HS.out]; have HM2 := Lib.hid (HM0.out.after hb2); have b0 := (HM2.out.m.cell 0).trans (show _ = some (.int .i64 next) from rfl); have b1 := (HM2.out.m.cell 1).trans (show _ = some (.slice A n c) from rfl); clear hb2)) | (go_at_call 46; go_must (refine (HOW.out _ HM2.out).mono ?_; rintro e w3 ⟨g, l, rfl, ho, hm, hd, hb3⟩; have HM3 := Lib.hid (HM2.out.after hb3); have HO := Lib.hid ho; have HMM := Lib.hid hm; have HD := Lib.hid hd; have HB3 := Lib.hid hb3; clear ho hm hd hb3)))
  have hbl : Below w3.heap.size w3 (w3.alloc (.cells #[.int .i64 next, .slice (some ⟨g, 0, none⟩) n n] 26)) := below_box w3 _
  have hbx : Blk (w3.alloc (.cells #[.int .i64 next, .slice (some ⟨g, 0, none⟩) n n] 26)) w3.heap.size 26 #[.int .i64 next, .slice (some ⟨g, 0, none⟩) n n] := Blk.new _ _ _
  generalize w3.alloc (.cells #[.int .i64 next, .slice (some ⟨g, 0, none⟩) n n] 26) = X at hbl hbx ⊢
  have hln : l.length = n := by have := congrArg List.length HMM.out; rwa [List.length_map, hlen] at this
  have hox : OwnM X w.heap.size (.slice (some ⟨g, 0, none⟩) n n) l := (HO.out.mono HM2.out.bel.size).after hbl
  have hnx : NodesIn X 0 X.heap.size (some ⟨g, 0, none⟩) n n nds := by
    have h1 := OwnN.nodesIn (lo := 0) (hi := X.heap.size) hox.own hln (fun p hp => ((hox.mono (Nat.zero_le _)).leaf p hp).leafIn) (Nat.zero_le _) (Nat.le_refl _)
    rwa [HMM.out] at h1
  have HNo := Lib.hid (node_any X X.heap.size next id (some ⟨g, 0, none⟩) n n nds hnx (Nat.le_refl _) HR.out hn (.pointer (some ⟨g, i * 7, none⟩)) (by rw [HIX.out]; exact ⟨g, 0, rfl, by rw [Nat.zero_add]⟩))
  obtain ⟨p, hp, hp1⟩ : ∃ p, l[i]? = some p ∧ p.1 = nd := by
    have h1 := HND.out
    rw [← HMM.out, List.getElem?_map] at h1
    obtain ⟨p, hp, h2⟩ := Option.map_eq_some_iff.1 h1
    exact ⟨p, hp, h2⟩
  have hbX : Below w.heap.size w X := HM3.out.bel.trans (hbl.mono HM3.out.bel.size)
  have HCA := Lib.hid fun (Y : World) (hY : Below X.heap.size X Y) => HCC.out Y g i l p (hox.after hY) HD.out hln hp hp1 (hbX.trans (hY.mono hbX.size))
  have HBX := Lib.hid hbx
  have HRX := Lib.hid (HM3.out.r.after hbl)
  have HMX := Lib.hid HMM.out
  have HLX := Lib.hid hln
  have c0 := (HBX.out.cell 0).trans (show _ = some (.int .i64 next) from rfl)
  have c1 := (HBX.out.cell 1).trans (show _ = some (.slice (some ⟨g, 0, none⟩) n n) from rfl)
  clear hbl hbx hox hnx hbX
  go_wp2_with (first | (go_at_call 42; go_must (refine HNo.out.mono ?_; rintro e w4 ⟨rfl, hb4⟩; have HB4 := Lib.hid hb4; clear hb4)) | (with_reducible refine (HCA.out _ HB4.out).mono ?_; go_must (rintro e w5 ⟨rfl, l', ho5, hm5, hb5, hk5⟩; have hx5 := hk5 _ _ (HBX.out.after HB4.out); have hr5 := hk5 _ _ (HRX.out.after HB4.out); have d0 := (hx5.cell 0).trans (show _ = some (.int .i64 next) from rfl); have d1 := (hx5.cell 1).trans (show _ = some (.slice (some ⟨g, 0, none⟩) n n) from rfl); have r0 := hr5.frozen 0; have r1 := hr5.frozen 1; have r2 := hr5.cell 0; have r3 := hr5.cell 1; simp at r2 r3; have HO5 := Lib.hid ho5; have HM5 := Lib.hid hm5; have HB5 := Lib.hid hb5; have HR5 := Lib.hid hr5; clear ho5 hm5 hb5 hk5 hx5 hr5)))
  (try rw [Exit.noGoto_ret])
  (try simp only [Exit.inBlock, Exit.then])
  have hres : Tryz.f62.results = #[.cell 8 26, .tmp 9] := by kernel_rfl
  refine bodyPost_ret (v := .tuple #[.agg #[.int .i64 next, .slice (some ⟨g, 0, none⟩) n n], .int .i64 0]) ?hr rfl ?_
  case hr =>
    simp only [results, hres]
    go_simp
  refine ⟨g, l', rfl, (HO5.out.other HR5.out 0 _).other (HR5.out.set_ 0 _) 1 _, by rw [HM5.out, HMX.out], ?_⟩
  exact (HB5.out.setCell (p := ⟨w.heap.size + 1, 0, none⟩) (by simp) _).setCell (p := ⟨w.heap.size + 1, 1, none⟩) (by simp) _
end Go.Proofs.YtbkmdlfenbfdlaaGreat
namespace Go.Proofs.YtbkmdlfenbfdlaaGreat
open Go Go.RowKit Go.Sort
set_option linter.unusedVariables false
attribute [local go_sem ↓] Go.wp_at_zero Go.wp_at_succ
/-- the order of two texts, as a number -/
def cmpS (a b : ByteArray) : Int := if ltS a b then -1 else if ltS b a then 1 else 0
theorem cmpS_lt {a b : ByteArray} (h : ltS a b = true) : decide (cmpS a b < 0) = true ∧ (cmpS a b == 0) = false := by unfold cmpS; rw [h]; exact ⟨rfl, rfl⟩
theorem cmpS_ge {a b : ByteArray} (h : ltS a b = false) : decide (cmpS a b < 0) = false := by
  unfold cmpS; rw [h]
  cases ltS b a <;> rfl
theorem cmpS_eq (a : ByteArray) : (cmpS a a == 0) = true := by
  unfold cmpS ltS; rw [less_irrefl]; rfl
theorem cmpS_ne {a b : ByteArray} (h : a ≠ b) : (cmpS a b == 0) = false := by
  unfold cmpS
  cases h1 : ltS a b with
  | true => rfl
  | false =>
    cases h2 : ltS b a with
    | true => rfl
    | false =>
      unfold ltS at h1 h2
      rcases less_tri a.toList b.toList with h3 | h3 | h3
      · rw [h1] at h3; cases h3
      · exact absurd (str_eq.1 h3) h
      · rw [h2] at h3; cases h3
theorem isNaN_any (s : ByteArray) (w : World) : Calls Tryz.prog 117 #[.string s] w (Says w false) := by
  go_enter Tryz.func117, Tryz.ntmps117
  go_wp2_with fail
  go_ret
  exact ⟨by simp, rfl⟩
set_option maxHeartbeats 800000 in
theorem cmpString_any (a b : ByteArray) (w : World) : Calls Tryz.prog 94 #[.string a, .string b] w fun e w' => e = .returned (.int .i64 (cmpS a b)) ∧ w = w' := by
  cases h1 : Op.bytesLess a.toList b.toList with
  | true =>
    have HX : Hid (cmpS a b = -1) := Lib.hid (by unfold cmpS ltS; rw [h1]; rfl)
    go_enter Tryz.func94, Tryz.ntmps94
    go_wp2_with (go_at_call 117; go_must (refine (isNaN_any _ _).mono ?_; rintro e w2 ⟨rfl, rfl⟩))
    go_ret
    rw [HX.out]; exact ⟨rfl, rfl⟩
  | false =>
    cases h2 : Op.bytesLess b.toList a.toList with
    | true =>
      have HX : Hid (cmpS a b = 1) := Lib.hid (by unfold cmpS ltS; rw [h1, h2]; rfl)
      have d1 : (a.toList == b.toList) = false := by
        rw [beq_eq_false_iff_ne]; intro e
        rw [e, less_irrefl] at h2; cases h2
      go_enter Tryz.func94, Tryz.ntmps94
      go_wp2_with (go_at_call 117; go_must (refine (isNaN_any _ _).mono ?_; rintro e w2 ⟨rfl, rfl⟩))
      go_ret
      rw [HX.out]; exact ⟨rfl, rfl⟩
    | false =>
      have HX : Hid (cmpS a b = 0) := Lib.hid (by unfold cmpS ltS; rw [h1, h2]; rfl)
      have d1 : (a.toList == b.toList) = true := by
        rw [beq_iff_eq]
        rcases less_tri a.toList b.toList with h3 | h3 | h3
        · rw [h1] at h3; cases h3
        · exact h3
        · rw [h2] at h3; cases h3
      go_enter Tryz.func94, Tryz.ntmps94
      go_wp2_with (go_at_call 117; go_must (refine (isNaN_any _ _).mono ?_; rintro e w2 ⟨rfl, rfl⟩))
      go_ret
      rw [HX.out]; exact ⟨rfl, rfl⟩
/-- names that rise -/
def SortS (ks : List ByteArray) : Prop := ∀ (i j : Nat) a b, i < j → ks[i]? = some a → ks[j]? = some b → ltS a b = true
/-- the place of a name among names that rise, and whether it is there -/
def rankS (ks : List ByteArray) (s : ByteArray) : Nat := ks.countP (fun k => ltS k s)
def foundS (ks : List ByteArray) (s : ByteArray) : Bool := ks.any (fun k => k.toList == s.toList)
structure HalfS (ks : List ByteArray) (s : ByteArray) (l h : Nat) : Prop where
  le : l ≤ h
  len : h ≤ ks.length
  lo : ∀ (i : Nat) k, i < l → ks[i]? = some k → ltS k s = true
  hi : ∀ (i : Nat) k, h ≤ i → ks[i]? = some k → ltS k s = false
theorem HalfS.start (ks : List ByteArray) (s : ByteArray) (n : Nat) (hn : ks.length = n) : HalfS ks s 0 n :=
  ⟨Nat.zero_le _, by omega, fun i k h => absurd h (by omega), fun i k h hk => by rw [List.getElem?_eq_none (by omega)] at hk; cases hk⟩
theorem HalfS.up {ks : List ByteArray} {s k : ByteArray} {l h m : Nat} (H : HalfS ks s l h) (hs : SortS ks) (hm : ks[m]? = some k) (h1 : m < h) (hlt : ltS k s = true) : HalfS ks s (m + 1) h :=
  ⟨by omega, H.len, fun i x hi hx => by
    rcases Nat.lt_or_ge i m with h2 | h2
    · exact less_trans (hs i m x k h2 hx hm) hlt
    · obtain rfl : i = m := by omega
      rw [hm] at hx; cases hx; exact hlt, H.hi⟩
theorem HalfS.down {ks : List ByteArray} {s k : ByteArray} {l h m : Nat} (H : HalfS ks s l h) (hs : SortS ks) (hm : ks[m]? = some k) (h1 : l ≤ m) (h2 : m < h) (hge : ltS k s = false) : HalfS ks s l m :=
  ⟨h1, by have := H.len; omega, H.lo, fun i x hi hx => by
    rcases Nat.lt_or_ge m i with h3 | h3
    · cases hx2 : ltS x s with
      | false => rfl
      | true =>
        have := less_trans (hs m i k x h3 hm hx) hx2
        unfold ltS at hge
        rw [hge] at this; cases this
    · obtain rfl : i = m := by omega
      rw [hm] at hx; cases hx; exact hge⟩
theorem HalfS.rank {ks : List ByteArray} {s : ByteArray} {k : Nat} (H : HalfS ks s k k) : rankS ks s = k := by
  have hk := H.len
  unfold rankS
  have e : ks = ks.take k ++ ks.drop k := (List.take_append_drop k ks).symm
  rw [e, List.countP_append]
  have h1 : List.countP (fun x => ltS x s) (ks.take k) = (ks.take k).length := by
    rw [List.countP_eq_length]
    intro a ha
    obtain ⟨i, hi⟩ := List.getElem?_of_mem ha
    rw [List.getElem?_take] at hi
    split at hi
    · exact H.lo i a (by assumption) hi
    · cases hi
  have h2 : List.countP (fun x => ltS x s) (ks.drop k) = 0 := by
    rw [List.countP_eq_zero]
    intro a ha
    obtain ⟨i, hi⟩ := List.getElem?_of_mem ha
    rw [List.getElem?_drop] at hi
    have := H.hi (k + i) a (by omega) hi
    rw [this]; simp
  rw [h1, h2, List.length_take]
  omega
theorem HalfS.none {ks : List ByteArray} {s : ByteArray} {k : Nat} (H : HalfS ks s k k) (hk : ks.length ≤ k) : foundS ks s = false := by
  unfold foundS
  rw [List.any_eq_false]
  intro x hx
  obtain ⟨i, hi⟩ := List.getElem?_of_mem hx
  have h1 := H.lo i x (by have := (List.getElem?_eq_some_iff.1 hi).1; omega) hi
  intro e
  have := str_eq.1 (eq_of_beq e)
  subst this
  unfold ltS at h1
  rw [less_irrefl] at h1; cases h1
theorem HalfS.at_ {ks : List ByteArray} {s x : ByteArray} {k : Nat} (H : HalfS ks s k k) (hs : SortS ks) (hx : ks[k]? = some x) : (x = s → foundS ks s = true) ∧ (x ≠ s → foundS ks s = false) := by
  refine ⟨fun e => ?_, fun hne => ?_⟩
  · unfold foundS
    exact List.any_eq_true.2 ⟨x, List.mem_of_getElem? hx, by rw [e]; simp⟩
  · unfold foundS
    rw [List.any_eq_false]
    intro y hy e
    have := str_eq.1 (eq_of_beq e)
    subst this
    obtain ⟨i, hi⟩ := List.getElem?_of_mem hy
    rcases Nat.lt_trichotomy i k with h1 | h1 | h1
    · have h2 := H.lo i y h1 hi
      unfold ltS at h2
      rw [less_irrefl] at h2; cases h2
    · subst h1
      rw [hx] at hi; cases hi; exact hne rfl
    · have h2 := hs k i x y h1 hx hi
      rw [H.hi k x (Nat.le_refl _) hx] at h2; cases h2
set_option maxHeartbeats 400000 in
theorem at1Prop_any (w : World) (a name : ByteArray) (b : ByteArray) : Calls Tryz.prog 93 #[.agg #[.string a, .string b], .string name] w (Ret w (.int .i64 (cmpS a name))) := by
  have HB := Lib.hid (below_box w (.cells #[.string a, .string b] 94))
  go_enter Tryz.func93, Tryz.ntmps93
  go_wp2_with (go_at_call 94; go_must (refine (cmpString_any _ _ _).mono ?_; rintro e w2 ⟨rfl, rfl⟩))
  go_ret
  exact ret_v rfl HB.out
set_option maxRecDepth 20000 in
set_option maxHeartbeats 3200000 in
theorem searchProp_any (w : World) (hi : Nat) (A : Option Addr) (n c : Nat) (l : List (ByteArray × ByteArray)) (name : ByteArray) (h : Row w 0 hi 2 A n c (propCells l)) (hh : hi ≤ w.heap.size) (hs : SortS (l.map (·.1))) (hn : n ≤ 140737488355328) :
    Calls Tryz.prog 92 #[.slice A n c, .string name, .func (.func 93) #[] #[]] w (Ret w (.tuple #[.int .i64 (rankS (l.map (·.1)) name), .bool (foundS (l.map (·.1)) name)])) := by
  have hc := h.2.2.1
  have hnc := h.2.1
  have hln : l.length = n := by have := h.1; rw [propCells_length] at this; omega
  have HL := Lib.hid hln
  unfold maxLen at hc
  clear hln
  go_enter Tryz.func92, Tryz.ntmps92
  go_wp2_with fail
  go_loopw [9, 10] (fun x y wr => ∃ (lo m : Nat), m ≤ n ∧ x = .int .i64 lo ∧ y = .int .i64 m ∧ Hid (HalfS (l.map (·.1)) name lo m) ∧ Hid (Below w.heap.size w wr)) (fun x y _ => (intOf y - intOf x).toNat)
  case atStart => exact ⟨0, n, Nat.le_refl _, rfl, rfl, Lib.hid (HalfS.start _ _ _ (by rw [List.length_map]; exact HL.out)), Lib.hid (Below.refl _ _)⟩
  case round =>
    obtain ⟨lo, m, hm, rfl, rfl, HH, HB⟩ := hrel
    rename World => wr
    have hle := HH.out.le
    by_cases hlt : lo < m
    · obtain ⟨mid, hmid⟩ : ∃ mid, mid = (lo + m) / 2 := ⟨_, rfl⟩
      have hm1 : lo ≤ mid := by omega
      have hm2 : mid < m := by omega
      have emid : ((lo : Int) + (m : Int)) / 2 = (mid : Int) := by omega
      obtain ⟨b, o, rfl, _, hb, hcell⟩ := h.at_ (by omega)
      obtain ⟨q, hq⟩ : ∃ q, l[mid]? = some q := ⟨l[mid]'(by have := HL.out; omega), List.getElem?_eq_getElem _⟩
      have hg2 := propCells_get hq
      have c0 := (HB.out.cell (p := ⟨b, _, none⟩) (Nat.lt_of_lt_of_le hb hh)).trans (hcell _ _ hg2.1)
      have c1 := (HB.out.cell (p := ⟨b, _, none⟩) (Nat.lt_of_lt_of_le hb hh)).trans (hcell _ _ hg2.2)
      rw [show o + (mid * 2 + 1) = o + mid * 2 + 1 from by omega] at c1
      have hk : (l.map (·.1))[mid]? = some q.1 := by rw [List.getElem?_map, hq]; rfl
      have HK := Lib.hid hk
      obtain ⟨qa, qb⟩ := q
      simp only at c0 c1 HK
      clear hcell hg2 hq hk hmid
      cases d1 : ltS qa name with
      | true =>
        have HU := Lib.hid (HH.out.up hs HK.out hm2 d1)
        have d2 := (cmpS_lt d1).1
        clear d1
        go_wp2_with (go_at_call 93; go_must (refine (at1Prop_any _ qa name qb).mono ?_; rintro e w2 ⟨rfl, hb2⟩; have HB2 := Lib.hid (HB.out.trans (hb2.mono HB.out.size)); clear hb2))
        go_roundw
        case rel => exact ⟨mid + 1, m, hm, by go_num, rfl, HU, HB2⟩
        case measure => simp [intOf]; omega
      | false =>
        have HU := Lib.hid (HH.out.down hs HK.out hm1 hm2 d1)
        have d2 := cmpS_ge d1
        clear d1
        go_wp2_with (go_at_call 93; go_must (refine (at1Prop_any _ qa name qb).mono ?_; rintro e w2 ⟨rfl, hb2⟩; have HB2 := Lib.hid (HB.out.trans (hb2.mono HB.out.size)); clear hb2))
        go_roundw
        case rel => exact ⟨lo, mid, by omega, rfl, by go_num, HU, HB2⟩
        case measure => simp [intOf]; omega
    · have he : m = lo := by omega
      have HHk : Hid (HalfS (l.map (·.1)) name lo lo) := Lib.hid (by have := HH.out; rwa [he] at this)
      clear HH he
      have HR := Lib.hid (HHk.out.rank)
      by_cases hk : lo < n
      · obtain ⟨b, o, rfl, _, hb, hcell⟩ := h.at_ (by omega)
        obtain ⟨q, hq⟩ : ∃ q, l[lo]? = some q := ⟨l[lo]'(by have := HL.out; omega), List.getElem?_eq_getElem _⟩
        have hg2 := propCells_get hq
        have c0 := (HB.out.cell (p := ⟨b, _, none⟩) (Nat.lt_of_lt_of_le hb hh)).trans (hcell _ _ hg2.1)
        have c1 := (HB.out.cell (p := ⟨b, _, none⟩) (Nat.lt_of_lt_of_le hb hh)).trans (hcell _ _ hg2.2)
        rw [show o + (lo * 2 + 1) = o + lo * 2 + 1 from by omega] at c1
        have hkk : (l.map (·.1))[lo]? = some q.1 := by rw [List.getElem?_map, hq]; rfl
        have hat := HHk.out.at_ hs hkk
        obtain ⟨qa, qb⟩ := q
        simp only at c0 c1 hat
        clear hcell hg2 hq hkk
        by_cases hx : qa = name
        · have HS := Lib.hid (hat.1 hx)
          subst hx
          have d2 := cmpS_eq qa
          clear hat
          go_wp2_with (go_at_call 93; go_must (refine (at1Prop_any _ qa qa qb).mono ?_; rintro e w2 ⟨rfl, hb2⟩; have HB2 := Lib.hid (HB.out.trans (hb2.mono HB.out.size)); clear hb2))
          go_ret2
          rw [HS.out, HR.out]
          exact ret_mk rfl HB2.out
        · have HS := Lib.hid (hat.2 hx)
          have d2 := cmpS_ne hx
          clear hat hx
          go_wp2_with (go_at_call 93; go_must (refine (at1Prop_any _ qa name qb).mono ?_; rintro e w2 ⟨rfl, hb2⟩; have HB2 := Lib.hid (HB.out.trans (hb2.mono HB.out.size)); clear hb2))
          go_ret2
          rw [HS.out, HR.out]
          exact ret_mk rfl HB2.out
      · have HS := Lib.hid (HHk.out.none (by rw [List.length_map]; have := HL.out; omega))
        clear h
        go_wp2_with fail
        go_ret2
        rw [HS.out, HR.out]
        exact ret_mk rfl HB.out
set_option maxHeartbeats 400000 in
/-- where a name is among a node's own -/
theorem pAt_any (w : World) (hi b o : Nat) (A : Option Addr) (n c : Nat) (l : List (ByteArray × ByteArray)) (name : ByteArray) (hc : w.cell? ⟨b, o + 4, none⟩ = some (.slice A n c)) (h : Row w 0 hi 2 A n c (propCells l)) (hh : hi ≤ w.heap.size) (hs : SortS (l.map (·.1))) (hn : n ≤ 140737488355328) :
    Calls Tryz.prog 64 #[.pointer (some ⟨b, o, none⟩), .string name] w (Ret w (.tuple #[.int .i64 (rankS (l.map (·.1)) name), .bool (foundS (l.map (·.1)) name)])) := by
  have HS := Lib.hid (searchProp_any w hi A n c l name h hh hs hn)
  generalize rankS (l.map (·.1)) name = k at HS
  generalize foundS (l.map (·.1)) name = f at HS
  clear h hs
  go_enter Tryz.func64, Tryz.ntmps64
  go_wp2_with (go_at_call 92; go_must (refine HS.out.mono ?_; rintro e w2 ⟨rfl, hb2⟩; have HB2 := Lib.hid hb2; clear hb2))
  go_ret2
  exact ret_mk rfl HB2.out
set_option maxHeartbeats 400000 in
theorem at1Ref_any (w : World) (a name : ByteArray) (b : Int) : Calls Tryz.prog 98 #[.agg #[.string a, .int .i64 b], .string name] w (Ret w (.int .i64 (cmpS a name))) := by
  have HB := Lib.hid (below_box w (.cells #[.string a, .int .i64 b] 60))
  go_enter Tryz.func98, Tryz.ntmps98
  go_wp2_with (go_at_call 94; go_must (refine (cmpString_any _ _ _).mono ?_; rintro e w2 ⟨rfl, rfl⟩))
  go_ret
  exact ret_v rfl HB.out
set_option maxRecDepth 20000 in
set_option maxHeartbeats 3200000 in
theorem searchRef_any (w : World) (hi : Nat) (A : Option Addr) (n c : Nat) (l : List (ByteArray × Int)) (name : ByteArray) (h : Row w 0 hi 2 A n c (refCells l)) (hh : hi ≤ w.heap.size) (hs : SortS (l.map (·.1))) (hn : n ≤ 140737488355328) :
    Calls Tryz.prog 97 #[.slice A n c, .string name, .func (.func 98) #[] #[]] w (Ret w (.tuple #[.int .i64 (rankS (l.map (·.1)) name), .bool (foundS (l.map (·.1)) name)])) := by
  have hc := h.2.2.1
  have hnc := h.2.1
  have hln : l.length = n := by have := h.1; rw [refCells_length] at this; omega
  have HL := Lib.hid hln
  unfold maxLen at hc
  clear hln
  go_enter Tryz.func97, Tryz.ntmps97
  go_wp2_with fail
  go_loopw [9, 10] (fun x y wr => ∃ (lo m : Nat), m ≤ n ∧ x = .int .i64 lo ∧ y = .int .i64 m ∧ Hid (HalfS (l.map (·.1)) name lo m) ∧ Hid (Below w.heap.size w wr)) (fun x y _ => (intOf y - intOf x).toNat)
  case atStart => exact ⟨0, n, Nat.le_refl _, rfl, rfl, Lib.hid (HalfS.start _ _ _ (by rw [List.length_map]; exact HL.out)), Lib.hid (Below.refl _ _)⟩
  case round =>
    obtain ⟨lo, m, hm, rfl, rfl, HH, HB⟩ := hrel
    rename World => wr
    have hle := HH.out.le
    by_cases hlt : lo < m
    · obtain ⟨mid, hmid⟩ : ∃ mid, mid = (lo + m) / 2 := ⟨_, rfl⟩
      have hm1 : lo ≤ mid := by omega
      have hm2 : mid < m := by omega
      have emid : ((lo : Int) + (m : Int)) / 2 = (mid : Int) := by omega
      obtain ⟨b, o, rfl, _, hb, hcell⟩ := h.at_ (by omega)
      obtain ⟨q, hq⟩ : ∃ q, l[mid]? = some q := ⟨l[mid]'(by have := HL.out; omega), List.getElem?_eq_getElem _⟩
      have hg2 := refCells_get hq
      have c0 := (HB.out.cell (p := ⟨b, _, none⟩) (Nat.lt_of_lt_of_le hb hh)).trans (hcell _ _ hg2.1)
      have c1 := (HB.out.cell (p := ⟨b, _, none⟩) (Nat.lt_of_lt_of_le hb hh)).trans (hcell _ _ hg2.2)
      rw [show o + (mid * 2 + 1) = o + mid * 2 + 1 from by omega] at c1
      have hk : (l.map (·.1))[mid]? = some q.1 := by rw [List.getElem?_map, hq]; rfl
      have HK := Lib.hid hk
      obtain ⟨qa, qb⟩ := q
      simp only at c0 c1 HK
      clear hcell hg2 hq hk hmid
      cases d1 : ltS qa name with
      | true =>
        have HU := Lib.hid (HH.out.up hs HK.out hm2 d1)
        have d2 := (cmpS_lt d1).1
        clear d1
        go_wp2_with (go_at_call 98; go_must (refine (at1Ref_any _ qa name qb).mono ?_; rintro e w2 ⟨rfl, hb2⟩; have HB2 := Lib.hid (HB.out.trans (hb2.mono HB.out.size)); clear hb2))
        go_roundw
        case rel => exact ⟨mid + 1, m, hm, by go_num, rfl, HU, HB2⟩
        case measure => simp [intOf]; omega
      | false =>
        have HU := Lib.hid (HH.out.down hs HK.out hm1 hm2 d1)
        have d2 := cmpS_ge d1
        clear d1
        go_wp2_with (go_at_call 98; go_must (refine (at1Ref_any _ qa name qb).mono ?_; rintro e w2 ⟨rfl, hb2⟩; have HB2 := Lib.hid (HB.out.trans (hb2.mono HB.out.size)); clear hb2))
        go_roundw
        case rel => exact ⟨lo, mid, by omega, rfl, by go_num, HU, HB2⟩
        case measure => simp [intOf]; omega
    · have he : m = lo := by omega
      have HHk : Hid (HalfS (l.map (·.1)) name lo lo) := Lib.hid (by have := HH.out; rwa [he] at this)
      clear HH he
      have HR := Lib.hid (HHk.out.rank)
      by_cases hk : lo < n
      · obtain ⟨b, o, rfl, _, hb, hcell⟩ := h.at_ (by omega)
        obtain ⟨q, hq⟩ : ∃ q, l[lo]? = some q := ⟨l[lo]'(by have := HL.out; omega), List.getElem?_eq_getElem _⟩
        have hg2 := refCells_get hq
        have c0 := (HB.out.cell (p := ⟨b, _, none⟩) (Nat.lt_of_lt_of_le hb hh)).trans (hcell _ _ hg2.1)
        have c1 := (HB.out.cell (p := ⟨b, _, none⟩) (Nat.lt_of_lt_of_le hb hh)).trans (hcell _ _ hg2.2)
        rw [show o + (lo * 2 + 1) = o + lo * 2 + 1 from by omega] at c1
        have hkk : (l.map (·.1))[lo]? = some q.1 := by rw [List.getElem?_map, hq]; rfl
        have hat := HHk.out.at_ hs hkk
        obtain ⟨qa, qb⟩ := q
        simp only at c0 c1 hat
        clear hcell hg2 hq hkk
        by_cases hx : qa = name
        · have HS := Lib.hid (hat.1 hx)
          subst hx
          have d2 := cmpS_eq qa
          clear hat
          go_wp2_with (go_at_call 98; go_must (refine (at1Ref_any _ qa qa qb).mono ?_; rintro e w2 ⟨rfl, hb2⟩; have HB2 := Lib.hid (HB.out.trans (hb2.mono HB.out.size)); clear hb2))
          go_ret2
          rw [HS.out, HR.out]
          exact ret_mk rfl HB2.out
        · have HS := Lib.hid (hat.2 hx)
          have d2 := cmpS_ne hx
          clear hat hx
          go_wp2_with (go_at_call 98; go_must (refine (at1Ref_any _ qa name qb).mono ?_; rintro e w2 ⟨rfl, hb2⟩; have HB2 := Lib.hid (HB.out.trans (hb2.mono HB.out.size)); clear hb2))
          go_ret2
          rw [HS.out, HR.out]
          exact ret_mk rfl HB2.out
      · have HS := Lib.hid (HHk.out.none (by rw [List.length_map]; have := HL.out; omega))
        clear h
        go_wp2_with fail
        go_ret2
        rw [HS.out, HR.out]
        exact ret_mk rfl HB.out
set_option maxHeartbeats 400000 in
/-- where a name is among a node's own -/
theorem rAt_any (w : World) (hi b o : Nat) (A : Option Addr) (n c : Nat) (l : List (ByteArray × Int)) (name : ByteArray) (hc : w.cell? ⟨b, o + 6, none⟩ = some (.slice A n c)) (h : Row w 0 hi 2 A n c (refCells l)) (hh : hi ≤ w.heap.size) (hs : SortS (l.map (·.1))) (hn : n ≤ 140737488355328) :
    Calls Tryz.prog 67 #[.pointer (some ⟨b, o, none⟩), .string name] w (Ret w (.tuple #[.int .i64 (rankS (l.map (·.1)) name), .bool (foundS (l.map (·.1)) name)])) := by
  have HS := Lib.hid (searchRef_any w hi A n c l name h hh hs hn)
  generalize rankS (l.map (·.1)) name = k at HS
  generalize foundS (l.map (·.1)) name = f at HS
  clear h hs
  go_enter Tryz.func67, Tryz.ntmps67
  go_wp2_with (go_at_call 97; go_must (refine HS.out.mono ?_; rintro e w2 ⟨rfl, hb2⟩; have HB2 := Lib.hid hb2; clear hb2))
  go_ret2
  exact ret_mk rfl HB2.out
end Go.Proofs.YtbkmdlfenbfdlaaGreat

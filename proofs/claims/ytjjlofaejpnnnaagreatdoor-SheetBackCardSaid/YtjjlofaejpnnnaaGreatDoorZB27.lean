/-
  THE LAW SheetBack: what is printed is read back as the same model, and what is read is right, and is printed as it was.
-/
import Derived.Test.YtjjlofaejpnnnaaGreatDoorZB26
namespace Go.Proofs.YtjjlofaejpnnnaaGreatDoor
open Go Go.RowKit Go.Sort
set_option linter.unusedVariables false
theorem linesV_pos : ∀ {f : Nat} {st : RS} {c k : Nat} {l : List UInt8}, linesV f st c l = .inr k → 1 ≤ k
  | 0, st, c, k, l, h => by have := Sum.inr.inj h; omega
  | f + 1, st, c, k, l, h => by
    have e : linesV (f + 1) st c l = match takesV st (cutA 10 l), l.drop (cutA 10 l).length with
      | some st', _ :: rest => if rest = [] then .inl st' else linesV f st' (c + 1) rest
      | _, _ => .inr (c + 1) := rfl
    rw [e] at h
    cases ht : takesV st (cutA 10 l) with
    | none => rw [ht] at h; have := Sum.inr.inj h; omega
    | some st' =>
      rw [ht] at h
      cases hd : l.drop (cutA 10 l).length with
      | nil => rw [hd] at h; have := Sum.inr.inj h; omega
      | cons x rest =>
        rw [hd] at h
        simp only at h
        split at h
        · cases h
        · exact linesV_pos h
theorem parse_three (l : List UInt8) : (parseV l = ((0, []), 0, 3) ∧ 1048576 < l.length) ∨ (∃ k : Int, parseV l = ((0, []), k, 30) ∧ 0 < k) ∨ ∃ st : RS, parseV l = ((st.next, sortV st.nds), 0, 0) ∧ rightB st.next (sortV st.nds) = true ∧ printV st.next (sortV st.nds) = (l, 0) := by
  unfold parseV
  by_cases h : 1048576 < l.length
  · rw [if_pos h]; exact .inl ⟨rfl, h⟩
  · rw [if_neg h]
    cases hl : linesV (l.length + 1) ⟨0, [], []⟩ 0 l with
    | inl st =>
      obtain ⟨_, hok, ht⟩ := read_fin hl
      exact .inr (.inr ⟨st, rfl, (order_read hok ht).1, print_read (by omega) hl⟩)
    | inr k => exact .inr (.inl ⟨_, rfl, by have := linesV_pos hl; omega⟩)
theorem print_three (next : Int) (nds : List Nd) : (rightB next nds = false ∧ printV next nds = ([], 29)) ∨ (rightB next nds = true ∧ printV next nds = ([], 3)) ∨ ∃ T, rightB next nds = true ∧ printV next nds = (T, 0) ∧ T.length ≤ 1048576 ∧ parseV T = ((next, nds), 0, 0) := by
  cases hB : rightB next nds with
  | false => exact .inl ⟨rfl, by unfold printV; rw [hB]; rfl⟩
  | true =>
    right
    have hp : printV next nds = toldV ((headL next :: (pre nds 64 1 (rootsV nds)).flatMap (nodeT nds)).flatten) := by unfold printV; rw [if_pos hB]
    unfold toldV at hp
    split at hp
    · exact .inl ⟨rfl, hp⟩
    · have := parse_print hp
      exact .inr ⟨_, rfl, hp, this.2.1, this.2.2⟩
set_option maxRecDepth 20000 in
set_option maxHeartbeats 6400000 in
theorem sheetBack_bad_long (w : World) (hi : Nat) (next : Int) (A : Option Addr) (n c : Nat) (nds : List Nd) (h : NodesIn w 0 hi A n c nds) (hh : hi ≤ w.heap.size) (s : ByteArray) (hE : Env w) (hB : rightB next nds = false) (hpr : printV next nds = ([], 29)) (hpt : parseV s.data.toList = ((0, []), 0, 3)) (hlt : 1048576 < s.data.toList.length) : Calls Tryz.prog 4 #[.agg #[.int .i64 next, .slice A n c], .string s] w (Ret w (.bool true)) := by
  have HE := Lib.hid hE
  have HW0 : Hid (Below w.heap.size w (w.alloc (.cells #[.int .i64 next, .slice A n c] 25))) := Lib.hid ((Below.refl _ _).alloc (Nat.le_refl _) _)
  have HX0 : Hid (Blk (w.alloc (.cells #[.int .i64 next, .slice A n c] 25)) w.heap.size 25 #[.int .i64 next, .slice A n c]) := Lib.hid (Blk.new _ _ _)
  obtain ⟨W0, hW0⟩ : ∃ W0, (w.alloc (.cells #[.int .i64 next, .slice A n c] 25)) = W0 := ⟨_, rfl⟩
  rw [hW0] at HW0 HX0
  have HKEEP : Hid (∀ Y, Below W0.heap.size W0 Y → Y.cell? ⟨w.heap.size, 0, none⟩ = some (.int .i64 next) ∧ Y.cell? ⟨w.heap.size, 1, none⟩ = some (.slice A n c)) := Lib.hid fun Y hY => ⟨((HX0.out.after hY).cell 0).trans rfl, ((HX0.out.after hY).cell 1).trans rfl⟩
  have HB0 : Hid (Below W0.heap.size W0 W0) := Lib.hid (Below.refl _ _)
  have HAW : Hid (∀ Y, Below W0.heap.size W0 Y → Calls Tryz.prog 11 #[] Y (Ret Y (.bool true))) := Lib.hid fun Y hY => awake_any Y (HE.out.below (HW0.out.trans (hY.mono HW0.out.size)))
  clear hE
  have HPR : Hid (∀ Y, Below W0.heap.size W0 Y → Calls Tryz.prog 12 #[.agg #[.int .i64 next, .slice A n c]] Y fun e w' => e = .returned (.tuple #[.string ⟨#[]⟩, .int .i64 29]) ∧ Below Y.heap.size Y w') := Lib.hid fun Y hY => by
    have h1 := HW0.out.trans (hY.mono HW0.out.size)
    have := print_any Y hi next A n c nds (h.below (h1.mono hh)) (Nat.le_trans hh h1.size) (HE.out.below h1).tab
    unfold PrintP at this
    rw [hpr] at this
    exact this
  have HCK : Hid (∀ Y, Below W0.heap.size W0 Y → Calls Tryz.prog 13 #[.agg #[.int .i64 next, .slice A n c]] Y (Ret Y (.int .i64 29))) := Lib.hid fun Y hY => by
    have h1 := HW0.out.trans (hY.mono HW0.out.size)
    have := check_any Y hi next A n c nds (h.below (h1.mono hh)) (Nat.le_trans hh h1.size)
    rw [checkV_no hB] at this
    exact this
  have HPT : Hid (∀ Y, Below W0.heap.size W0 Y → Calls Tryz.prog 8 #[.string s] Y (ParseP Y ((0, []), 0, 3))) := Lib.hid fun Y hY => by
    have := sheetParse_any Y s (HE.out.below (HW0.out.trans (hY.mono HW0.out.size)))
    rwa [hpt] at this
  have hsl : (1048576 : Int) < (s.size : Int) := by rw [toList_eq] at hlt; omega
  clear hlt
  clear hpr hpt hB
  go_enter Tryz.func4, Tryz.ntmps4
  go_upto_region 1 with fail
  (try rw [hW0])
  go_upto_region 12 with (first | (go_at_call 11; refine (HAW.out _ HB0.out).mono ?_; rintro e w1 ⟨rfl, hb⟩; have HB1 : Hid (Below W0.heap.size W0 w1) := Lib.hid (HB0.out.trans (hb.mono HB0.out.size)); obtain ⟨x0w1, x1w1⟩ := HKEEP.out _ HB1.out; clear hb) | (go_at_call 12; refine (HPR.out _ HB1.out).mono ?_; rintro e w2 ⟨rfl, hb⟩; have HB2 : Hid (Below W0.heap.size W0 w2) := Lib.hid (HB1.out.trans (hb.mono HB1.out.size)); obtain ⟨x0w2, x1w2⟩ := HKEEP.out _ HB2.out; clear hb) | (go_at_call 13; refine (HCK.out _ HB2.out).mono ?_; rintro e w3 ⟨rfl, hb⟩; have HB3 : Hid (Below W0.heap.size W0 w3) := Lib.hid (HB2.out.trans (hb.mono HB2.out.size)); obtain ⟨x0w3, x1w3⟩ := HKEEP.out _ HB3.out; clear hb))
  go_upto_region 13 with (go_at_call 8; refine (HPT.out _ HB3.out).mono ?_; rintro e w7 ⟨A7, n7, c7, rfl, hn7, hb7⟩; have HN7 := Lib.hid hn7; have HB7 : Hid (Below W0.heap.size W0 w7) := Lib.hid (HB3.out.trans (hb7.mono HB3.out.size)); clear hn7 hb7)
  have hz : n7 = 0 := HN7.out.1.symm
  subst hz
  have HX7 : Hid (Blk (w7.alloc (.cells #[.int .i64 0, .slice A7 0 c7] 25)) w7.heap.size 25 #[.int .i64 0, .slice A7 0 c7]) := Lib.hid (Blk.new _ _ _)
  have HB8 : Hid (Below W0.heap.size W0 (w7.alloc (.cells #[.int .i64 0, .slice A7 0 c7] 25))) := Lib.hid (below_more HB7.out _)
  generalize (w7.alloc (.cells #[.int .i64 0, .slice A7 0 c7] 25)) = W8 at HX7 HB8 ⊢
  have z0 : W8.cell? ⟨w7.heap.size, 0, none⟩ = some (.int .i64 0) := (HX7.out.cell 0).trans rfl
  have z1 : W8.cell? ⟨w7.heap.size, 1, none⟩ = some (.slice A7 0 c7) := (HX7.out.cell 1).trans rfl
  go_wp2_with fail
  go_ret
  exact ⟨rfl, HW0.out.trans (HB8.out.mono HW0.out.size)⟩
set_option maxRecDepth 20000 in
set_option maxHeartbeats 6400000 in
theorem sheetBack_bad_form (w : World) (hi : Nat) (next : Int) (A : Option Addr) (n c : Nat) (nds : List Nd) (h : NodesIn w 0 hi A n c nds) (hh : hi ≤ w.heap.size) (s : ByteArray) (hE : Env w) (hB : rightB next nds = false) (hpr : printV next nds = ([], 29)) (k : Int) (hpt : parseV s.data.toList = ((0, []), k, 30)) (hk : 0 < k) : Calls Tryz.prog 4 #[.agg #[.int .i64 next, .slice A n c], .string s] w (Ret w (.bool true)) := by
  have HE := Lib.hid hE
  have HW0 : Hid (Below w.heap.size w (w.alloc (.cells #[.int .i64 next, .slice A n c] 25))) := Lib.hid ((Below.refl _ _).alloc (Nat.le_refl _) _)
  have HX0 : Hid (Blk (w.alloc (.cells #[.int .i64 next, .slice A n c] 25)) w.heap.size 25 #[.int .i64 next, .slice A n c]) := Lib.hid (Blk.new _ _ _)
  obtain ⟨W0, hW0⟩ : ∃ W0, (w.alloc (.cells #[.int .i64 next, .slice A n c] 25)) = W0 := ⟨_, rfl⟩
  rw [hW0] at HW0 HX0
  have HKEEP : Hid (∀ Y, Below W0.heap.size W0 Y → Y.cell? ⟨w.heap.size, 0, none⟩ = some (.int .i64 next) ∧ Y.cell? ⟨w.heap.size, 1, none⟩ = some (.slice A n c)) := Lib.hid fun Y hY => ⟨((HX0.out.after hY).cell 0).trans rfl, ((HX0.out.after hY).cell 1).trans rfl⟩
  have HB0 : Hid (Below W0.heap.size W0 W0) := Lib.hid (Below.refl _ _)
  have HAW : Hid (∀ Y, Below W0.heap.size W0 Y → Calls Tryz.prog 11 #[] Y (Ret Y (.bool true))) := Lib.hid fun Y hY => awake_any Y (HE.out.below (HW0.out.trans (hY.mono HW0.out.size)))
  clear hE
  have HPR : Hid (∀ Y, Below W0.heap.size W0 Y → Calls Tryz.prog 12 #[.agg #[.int .i64 next, .slice A n c]] Y fun e w' => e = .returned (.tuple #[.string ⟨#[]⟩, .int .i64 29]) ∧ Below Y.heap.size Y w') := Lib.hid fun Y hY => by
    have h1 := HW0.out.trans (hY.mono HW0.out.size)
    have := print_any Y hi next A n c nds (h.below (h1.mono hh)) (Nat.le_trans hh h1.size) (HE.out.below h1).tab
    unfold PrintP at this
    rw [hpr] at this
    exact this
  have HCK : Hid (∀ Y, Below W0.heap.size W0 Y → Calls Tryz.prog 13 #[.agg #[.int .i64 next, .slice A n c]] Y (Ret Y (.int .i64 29))) := Lib.hid fun Y hY => by
    have h1 := HW0.out.trans (hY.mono HW0.out.size)
    have := check_any Y hi next A n c nds (h.below (h1.mono hh)) (Nat.le_trans hh h1.size)
    rw [checkV_no hB] at this
    exact this
  have HPT : Hid (∀ Y, Below W0.heap.size W0 Y → Calls Tryz.prog 8 #[.string s] Y (ParseP Y ((0, []), k, 30))) := Lib.hid fun Y hY => by
    have := sheetParse_any Y s (HE.out.below (HW0.out.trans (hY.mono HW0.out.size)))
    rwa [hpt] at this
  clear hpr hpt hB
  go_enter Tryz.func4, Tryz.ntmps4
  go_upto_region 1 with fail
  (try rw [hW0])
  go_upto_region 12 with (first | (go_at_call 11; refine (HAW.out _ HB0.out).mono ?_; rintro e w1 ⟨rfl, hb⟩; have HB1 : Hid (Below W0.heap.size W0 w1) := Lib.hid (HB0.out.trans (hb.mono HB0.out.size)); obtain ⟨x0w1, x1w1⟩ := HKEEP.out _ HB1.out; clear hb) | (go_at_call 12; refine (HPR.out _ HB1.out).mono ?_; rintro e w2 ⟨rfl, hb⟩; have HB2 : Hid (Below W0.heap.size W0 w2) := Lib.hid (HB1.out.trans (hb.mono HB1.out.size)); obtain ⟨x0w2, x1w2⟩ := HKEEP.out _ HB2.out; clear hb) | (go_at_call 13; refine (HCK.out _ HB2.out).mono ?_; rintro e w3 ⟨rfl, hb⟩; have HB3 : Hid (Below W0.heap.size W0 w3) := Lib.hid (HB2.out.trans (hb.mono HB2.out.size)); obtain ⟨x0w3, x1w3⟩ := HKEEP.out _ HB3.out; clear hb))
  go_upto_region 13 with (go_at_call 8; refine (HPT.out _ HB3.out).mono ?_; rintro e w7 ⟨A7, n7, c7, rfl, hn7, hb7⟩; have HN7 := Lib.hid hn7; have HB7 : Hid (Below W0.heap.size W0 w7) := Lib.hid (HB3.out.trans (hb7.mono HB3.out.size)); clear hn7 hb7)
  have hz : n7 = 0 := HN7.out.1.symm
  subst hz
  have HX7 : Hid (Blk (w7.alloc (.cells #[.int .i64 0, .slice A7 0 c7] 25)) w7.heap.size 25 #[.int .i64 0, .slice A7 0 c7]) := Lib.hid (Blk.new _ _ _)
  have HB8 : Hid (Below W0.heap.size W0 (w7.alloc (.cells #[.int .i64 0, .slice A7 0 c7] 25))) := Lib.hid (below_more HB7.out _)
  generalize (w7.alloc (.cells #[.int .i64 0, .slice A7 0 c7] 25)) = W8 at HX7 HB8 ⊢
  have z0 : W8.cell? ⟨w7.heap.size, 0, none⟩ = some (.int .i64 0) := (HX7.out.cell 0).trans rfl
  have z1 : W8.cell? ⟨w7.heap.size, 1, none⟩ = some (.slice A7 0 c7) := (HX7.out.cell 1).trans rfl
  go_wp2_with fail
  go_ret
  exact ⟨rfl, HW0.out.trans (HB8.out.mono HW0.out.size)⟩
set_option maxRecDepth 20000 in
set_option maxHeartbeats 6400000 in
theorem sheetBack_bad_ok (w : World) (hi : Nat) (next : Int) (A : Option Addr) (n c : Nat) (nds : List Nd) (h : NodesIn w 0 hi A n c nds) (hh : hi ≤ w.heap.size) (s : ByteArray) (hE : Env w) (hB : rightB next nds = false) (hpr : printV next nds = ([], 29)) (st : RS) (hpt : parseV s.data.toList = ((st.next, sortV st.nds), 0, 0)) (hrt : rightB st.next (sortV st.nds) = true) (hpx : printV st.next (sortV st.nds) = (s.data.toList, 0)) : Calls Tryz.prog 4 #[.agg #[.int .i64 next, .slice A n c], .string s] w (Ret w (.bool true)) := by
  have HE := Lib.hid hE
  have HW0 : Hid (Below w.heap.size w (w.alloc (.cells #[.int .i64 next, .slice A n c] 25))) := Lib.hid ((Below.refl _ _).alloc (Nat.le_refl _) _)
  have HX0 : Hid (Blk (w.alloc (.cells #[.int .i64 next, .slice A n c] 25)) w.heap.size 25 #[.int .i64 next, .slice A n c]) := Lib.hid (Blk.new _ _ _)
  obtain ⟨W0, hW0⟩ : ∃ W0, (w.alloc (.cells #[.int .i64 next, .slice A n c] 25)) = W0 := ⟨_, rfl⟩
  rw [hW0] at HW0 HX0
  have HKEEP : Hid (∀ Y, Below W0.heap.size W0 Y → Y.cell? ⟨w.heap.size, 0, none⟩ = some (.int .i64 next) ∧ Y.cell? ⟨w.heap.size, 1, none⟩ = some (.slice A n c)) := Lib.hid fun Y hY => ⟨((HX0.out.after hY).cell 0).trans rfl, ((HX0.out.after hY).cell 1).trans rfl⟩
  have HB0 : Hid (Below W0.heap.size W0 W0) := Lib.hid (Below.refl _ _)
  have HAW : Hid (∀ Y, Below W0.heap.size W0 Y → Calls Tryz.prog 11 #[] Y (Ret Y (.bool true))) := Lib.hid fun Y hY => awake_any Y (HE.out.below (HW0.out.trans (hY.mono HW0.out.size)))
  clear hE
  have HPR : Hid (∀ Y, Below W0.heap.size W0 Y → Calls Tryz.prog 12 #[.agg #[.int .i64 next, .slice A n c]] Y fun e w' => e = .returned (.tuple #[.string ⟨#[]⟩, .int .i64 29]) ∧ Below Y.heap.size Y w') := Lib.hid fun Y hY => by
    have h1 := HW0.out.trans (hY.mono HW0.out.size)
    have := print_any Y hi next A n c nds (h.below (h1.mono hh)) (Nat.le_trans hh h1.size) (HE.out.below h1).tab
    unfold PrintP at this
    rw [hpr] at this
    exact this
  have HCK : Hid (∀ Y, Below W0.heap.size W0 Y → Calls Tryz.prog 13 #[.agg #[.int .i64 next, .slice A n c]] Y (Ret Y (.int .i64 29))) := Lib.hid fun Y hY => by
    have h1 := HW0.out.trans (hY.mono HW0.out.size)
    have := check_any Y hi next A n c nds (h.below (h1.mono hh)) (Nat.le_trans hh h1.size)
    rw [checkV_no hB] at this
    exact this
  have HPT : Hid (∀ Y, Below W0.heap.size W0 Y → Calls Tryz.prog 8 #[.string s] Y (ParseP Y ((st.next, sortV st.nds), 0, 0))) := Lib.hid fun Y hY => by
    have := sheetParse_any Y s (HE.out.below (HW0.out.trans (hY.mono HW0.out.size)))
    rwa [hpt] at this
  have HRT := Lib.hid hrt
  have HPX := Lib.hid hpx
  clear hrt hpx
  clear hpr hpt hB
  go_enter Tryz.func4, Tryz.ntmps4
  go_upto_region 1 with fail
  (try rw [hW0])
  go_upto_region 12 with (first | (go_at_call 11; refine (HAW.out _ HB0.out).mono ?_; rintro e w1 ⟨rfl, hb⟩; have HB1 : Hid (Below W0.heap.size W0 w1) := Lib.hid (HB0.out.trans (hb.mono HB0.out.size)); obtain ⟨x0w1, x1w1⟩ := HKEEP.out _ HB1.out; clear hb) | (go_at_call 12; refine (HPR.out _ HB1.out).mono ?_; rintro e w2 ⟨rfl, hb⟩; have HB2 : Hid (Below W0.heap.size W0 w2) := Lib.hid (HB1.out.trans (hb.mono HB1.out.size)); obtain ⟨x0w2, x1w2⟩ := HKEEP.out _ HB2.out; clear hb) | (go_at_call 13; refine (HCK.out _ HB2.out).mono ?_; rintro e w3 ⟨rfl, hb⟩; have HB3 : Hid (Below W0.heap.size W0 w3) := Lib.hid (HB2.out.trans (hb.mono HB2.out.size)); obtain ⟨x0w3, x1w3⟩ := HKEEP.out _ HB3.out; clear hb))
  go_upto_region 13 with (go_at_call 8; refine (HPT.out _ HB3.out).mono ?_; rintro e w7 ⟨A7, n7, c7, rfl, hn7, hb7⟩; have HN7 := Lib.hid hn7; have HB7 : Hid (Below W0.heap.size W0 w7) := Lib.hid (HB3.out.trans (hb7.mono HB3.out.size)); clear hn7 hb7)
  have HX7 : Hid (Blk (w7.alloc (.cells #[.int .i64 st.next, .slice A7 n7 c7] 25)) w7.heap.size 25 #[.int .i64 st.next, .slice A7 n7 c7]) := Lib.hid (Blk.new _ _ _)
  have HB8 : Hid (Below W0.heap.size W0 (w7.alloc (.cells #[.int .i64 st.next, .slice A7 n7 c7] 25))) := Lib.hid (below_more HB7.out _)
  have HN8 : Hid (NodesIn (w7.alloc (.cells #[.int .i64 st.next, .slice A7 n7 c7] 25)) 0 w7.heap.size A7 n7 c7 (sortV st.nds)) := Lib.hid (HN7.out.below ((Below.refl _ _).alloc (Nat.le_refl _) _))
  generalize (w7.alloc (.cells #[.int .i64 st.next, .slice A7 n7 c7] 25)) = W8 at HX7 HB8 HN8 ⊢
  have z0 : W8.cell? ⟨w7.heap.size, 0, none⟩ = some (.int .i64 st.next) := (HX7.out.cell 0).trans rfl
  have z1 : W8.cell? ⟨w7.heap.size, 1, none⟩ = some (.slice A7 n7 c7) := (HX7.out.cell 1).trans rfl
  have HC8 : Hid (Calls Tryz.prog 13 #[.agg #[.int .i64 st.next, .slice A7 n7 c7]] W8 (Ret W8 (.int .i64 0))) := Lib.hid (by have := check_any W8 w7.heap.size st.next A7 n7 c7 (sortV st.nds) HN8.out (Nat.le_of_lt HX7.out.lt); rwa [checkV_yes HRT.out] at this)
  have HP8 : Hid (∀ Y, Below W8.heap.size W8 Y → Calls Tryz.prog 12 #[.agg #[.int .i64 st.next, .slice A7 n7 c7]] Y fun e w' => e = .returned (.tuple #[.string s, .int .i64 0]) ∧ Below Y.heap.size Y w') := Lib.hid fun Y hY => by
    have h1 := HW0.out.trans ((HB8.out.trans (hY.mono HB8.out.size)).mono HW0.out.size)
    have := print_any Y w7.heap.size st.next A7 n7 c7 (sortV st.nds) (HN8.out.below (hY.mono (Nat.le_of_lt HX7.out.lt))) (Nat.le_trans (Nat.le_of_lt HX7.out.lt) hY.size) (HE.out.below h1).tab
    unfold PrintP at this
    rw [HPX.out] at this
    have e : (⟨s.data.toList.toArray⟩ : ByteArray) = s := bytesOf_isP s
    simp only [e] at this
    exact this
  go_wp2_with (first | (go_at_call 13; refine HC8.out.mono ?_; rintro e w9 ⟨rfl, hb⟩; have HB9 := Lib.hid hb; have u0 : w9.cell? ⟨w7.heap.size, 0, none⟩ = some (.int .i64 st.next) := ((HX7.out.after hb).cell 0).trans rfl; have u1 : w9.cell? ⟨w7.heap.size, 1, none⟩ = some (.slice A7 n7 c7) := ((HX7.out.after hb).cell 1).trans rfl; clear hb) | (go_at_call 12; refine (HP8.out _ HB9.out).mono ?_; rintro e w10 ⟨rfl, hb⟩; have HB10 := Lib.hid (HB9.out.trans (hb.mono HB9.out.size)); clear hb))
  go_ret
  exact ⟨rfl, HW0.out.trans ((HB8.out.trans (HB10.out.mono HB8.out.size)).mono HW0.out.size)⟩
set_option maxRecDepth 20000 in
set_option maxHeartbeats 6400000 in
theorem sheetBack_long_long (w : World) (hi : Nat) (next : Int) (A : Option Addr) (n c : Nat) (nds : List Nd) (h : NodesIn w 0 hi A n c nds) (hh : hi ≤ w.heap.size) (s : ByteArray) (hE : Env w) (hB : rightB next nds = true) (hpr : printV next nds = ([], 3)) (hpt : parseV s.data.toList = ((0, []), 0, 3)) (hlt : 1048576 < s.data.toList.length) : Calls Tryz.prog 4 #[.agg #[.int .i64 next, .slice A n c], .string s] w (Ret w (.bool true)) := by
  have HE := Lib.hid hE
  have HW0 : Hid (Below w.heap.size w (w.alloc (.cells #[.int .i64 next, .slice A n c] 25))) := Lib.hid ((Below.refl _ _).alloc (Nat.le_refl _) _)
  have HX0 : Hid (Blk (w.alloc (.cells #[.int .i64 next, .slice A n c] 25)) w.heap.size 25 #[.int .i64 next, .slice A n c]) := Lib.hid (Blk.new _ _ _)
  obtain ⟨W0, hW0⟩ : ∃ W0, (w.alloc (.cells #[.int .i64 next, .slice A n c] 25)) = W0 := ⟨_, rfl⟩
  rw [hW0] at HW0 HX0
  have HKEEP : Hid (∀ Y, Below W0.heap.size W0 Y → Y.cell? ⟨w.heap.size, 0, none⟩ = some (.int .i64 next) ∧ Y.cell? ⟨w.heap.size, 1, none⟩ = some (.slice A n c)) := Lib.hid fun Y hY => ⟨((HX0.out.after hY).cell 0).trans rfl, ((HX0.out.after hY).cell 1).trans rfl⟩
  have HB0 : Hid (Below W0.heap.size W0 W0) := Lib.hid (Below.refl _ _)
  have HAW : Hid (∀ Y, Below W0.heap.size W0 Y → Calls Tryz.prog 11 #[] Y (Ret Y (.bool true))) := Lib.hid fun Y hY => awake_any Y (HE.out.below (HW0.out.trans (hY.mono HW0.out.size)))
  clear hE
  have HPR : Hid (∀ Y, Below W0.heap.size W0 Y → Calls Tryz.prog 12 #[.agg #[.int .i64 next, .slice A n c]] Y fun e w' => e = .returned (.tuple #[.string ⟨#[]⟩, .int .i64 3]) ∧ Below Y.heap.size Y w') := Lib.hid fun Y hY => by
    have h1 := HW0.out.trans (hY.mono HW0.out.size)
    have := print_any Y hi next A n c nds (h.below (h1.mono hh)) (Nat.le_trans hh h1.size) (HE.out.below h1).tab
    unfold PrintP at this
    rw [hpr] at this
    exact this
  have HCK : Hid (∀ Y, Below W0.heap.size W0 Y → Calls Tryz.prog 13 #[.agg #[.int .i64 next, .slice A n c]] Y (Ret Y (.int .i64 0))) := Lib.hid fun Y hY => by
    have h1 := HW0.out.trans (hY.mono HW0.out.size)
    have := check_any Y hi next A n c nds (h.below (h1.mono hh)) (Nat.le_trans hh h1.size)
    rw [checkV_yes hB] at this
    exact this
  have HPT : Hid (∀ Y, Below W0.heap.size W0 Y → Calls Tryz.prog 8 #[.string s] Y (ParseP Y ((0, []), 0, 3))) := Lib.hid fun Y hY => by
    have := sheetParse_any Y s (HE.out.below (HW0.out.trans (hY.mono HW0.out.size)))
    rwa [hpt] at this
  have hsl : (1048576 : Int) < (s.size : Int) := by rw [toList_eq] at hlt; omega
  clear hlt
  clear hpr hpt hB
  go_enter Tryz.func4, Tryz.ntmps4
  go_upto_region 1 with fail
  (try rw [hW0])
  go_upto_region 12 with (first | (go_at_call 11; refine (HAW.out _ HB0.out).mono ?_; rintro e w1 ⟨rfl, hb⟩; have HB1 : Hid (Below W0.heap.size W0 w1) := Lib.hid (HB0.out.trans (hb.mono HB0.out.size)); obtain ⟨x0w1, x1w1⟩ := HKEEP.out _ HB1.out; clear hb) | (go_at_call 12; refine (HPR.out _ HB1.out).mono ?_; rintro e w2 ⟨rfl, hb⟩; have HB2 : Hid (Below W0.heap.size W0 w2) := Lib.hid (HB1.out.trans (hb.mono HB1.out.size)); obtain ⟨x0w2, x1w2⟩ := HKEEP.out _ HB2.out; clear hb) | (go_at_call 13; refine (HCK.out _ HB2.out).mono ?_; rintro e w3 ⟨rfl, hb⟩; have HB3 : Hid (Below W0.heap.size W0 w3) := Lib.hid (HB2.out.trans (hb.mono HB2.out.size)); obtain ⟨x0w3, x1w3⟩ := HKEEP.out _ HB3.out; clear hb))
  go_upto_region 13 with (go_at_call 8; refine (HPT.out _ HB3.out).mono ?_; rintro e w7 ⟨A7, n7, c7, rfl, hn7, hb7⟩; have HN7 := Lib.hid hn7; have HB7 : Hid (Below W0.heap.size W0 w7) := Lib.hid (HB3.out.trans (hb7.mono HB3.out.size)); clear hn7 hb7)
  have hz : n7 = 0 := HN7.out.1.symm
  subst hz
  have HX7 : Hid (Blk (w7.alloc (.cells #[.int .i64 0, .slice A7 0 c7] 25)) w7.heap.size 25 #[.int .i64 0, .slice A7 0 c7]) := Lib.hid (Blk.new _ _ _)
  have HB8 : Hid (Below W0.heap.size W0 (w7.alloc (.cells #[.int .i64 0, .slice A7 0 c7] 25))) := Lib.hid (below_more HB7.out _)
  generalize (w7.alloc (.cells #[.int .i64 0, .slice A7 0 c7] 25)) = W8 at HX7 HB8 ⊢
  have z0 : W8.cell? ⟨w7.heap.size, 0, none⟩ = some (.int .i64 0) := (HX7.out.cell 0).trans rfl
  have z1 : W8.cell? ⟨w7.heap.size, 1, none⟩ = some (.slice A7 0 c7) := (HX7.out.cell 1).trans rfl
  go_wp2_with fail
  go_ret
  exact ⟨rfl, HW0.out.trans (HB8.out.mono HW0.out.size)⟩
set_option maxRecDepth 20000 in
set_option maxHeartbeats 6400000 in
theorem sheetBack_long_form (w : World) (hi : Nat) (next : Int) (A : Option Addr) (n c : Nat) (nds : List Nd) (h : NodesIn w 0 hi A n c nds) (hh : hi ≤ w.heap.size) (s : ByteArray) (hE : Env w) (hB : rightB next nds = true) (hpr : printV next nds = ([], 3)) (k : Int) (hpt : parseV s.data.toList = ((0, []), k, 30)) (hk : 0 < k) : Calls Tryz.prog 4 #[.agg #[.int .i64 next, .slice A n c], .string s] w (Ret w (.bool true)) := by
  have HE := Lib.hid hE
  have HW0 : Hid (Below w.heap.size w (w.alloc (.cells #[.int .i64 next, .slice A n c] 25))) := Lib.hid ((Below.refl _ _).alloc (Nat.le_refl _) _)
  have HX0 : Hid (Blk (w.alloc (.cells #[.int .i64 next, .slice A n c] 25)) w.heap.size 25 #[.int .i64 next, .slice A n c]) := Lib.hid (Blk.new _ _ _)
  obtain ⟨W0, hW0⟩ : ∃ W0, (w.alloc (.cells #[.int .i64 next, .slice A n c] 25)) = W0 := ⟨_, rfl⟩
  rw [hW0] at HW0 HX0
  have HKEEP : Hid (∀ Y, Below W0.heap.size W0 Y → Y.cell? ⟨w.heap.size, 0, none⟩ = some (.int .i64 next) ∧ Y.cell? ⟨w.heap.size, 1, none⟩ = some (.slice A n c)) := Lib.hid fun Y hY => ⟨((HX0.out.after hY).cell 0).trans rfl, ((HX0.out.after hY).cell 1).trans rfl⟩
  have HB0 : Hid (Below W0.heap.size W0 W0) := Lib.hid (Below.refl _ _)
  have HAW : Hid (∀ Y, Below W0.heap.size W0 Y → Calls Tryz.prog 11 #[] Y (Ret Y (.bool true))) := Lib.hid fun Y hY => awake_any Y (HE.out.below (HW0.out.trans (hY.mono HW0.out.size)))
  clear hE
  have HPR : Hid (∀ Y, Below W0.heap.size W0 Y → Calls Tryz.prog 12 #[.agg #[.int .i64 next, .slice A n c]] Y fun e w' => e = .returned (.tuple #[.string ⟨#[]⟩, .int .i64 3]) ∧ Below Y.heap.size Y w') := Lib.hid fun Y hY => by
    have h1 := HW0.out.trans (hY.mono HW0.out.size)
    have := print_any Y hi next A n c nds (h.below (h1.mono hh)) (Nat.le_trans hh h1.size) (HE.out.below h1).tab
    unfold PrintP at this
    rw [hpr] at this
    exact this
  have HCK : Hid (∀ Y, Below W0.heap.size W0 Y → Calls Tryz.prog 13 #[.agg #[.int .i64 next, .slice A n c]] Y (Ret Y (.int .i64 0))) := Lib.hid fun Y hY => by
    have h1 := HW0.out.trans (hY.mono HW0.out.size)
    have := check_any Y hi next A n c nds (h.below (h1.mono hh)) (Nat.le_trans hh h1.size)
    rw [checkV_yes hB] at this
    exact this
  have HPT : Hid (∀ Y, Below W0.heap.size W0 Y → Calls Tryz.prog 8 #[.string s] Y (ParseP Y ((0, []), k, 30))) := Lib.hid fun Y hY => by
    have := sheetParse_any Y s (HE.out.below (HW0.out.trans (hY.mono HW0.out.size)))
    rwa [hpt] at this
  clear hpr hpt hB
  go_enter Tryz.func4, Tryz.ntmps4
  go_upto_region 1 with fail
  (try rw [hW0])
  go_upto_region 12 with (first | (go_at_call 11; refine (HAW.out _ HB0.out).mono ?_; rintro e w1 ⟨rfl, hb⟩; have HB1 : Hid (Below W0.heap.size W0 w1) := Lib.hid (HB0.out.trans (hb.mono HB0.out.size)); obtain ⟨x0w1, x1w1⟩ := HKEEP.out _ HB1.out; clear hb) | (go_at_call 12; refine (HPR.out _ HB1.out).mono ?_; rintro e w2 ⟨rfl, hb⟩; have HB2 : Hid (Below W0.heap.size W0 w2) := Lib.hid (HB1.out.trans (hb.mono HB1.out.size)); obtain ⟨x0w2, x1w2⟩ := HKEEP.out _ HB2.out; clear hb) | (go_at_call 13; refine (HCK.out _ HB2.out).mono ?_; rintro e w3 ⟨rfl, hb⟩; have HB3 : Hid (Below W0.heap.size W0 w3) := Lib.hid (HB2.out.trans (hb.mono HB2.out.size)); obtain ⟨x0w3, x1w3⟩ := HKEEP.out _ HB3.out; clear hb))
  go_upto_region 13 with (go_at_call 8; refine (HPT.out _ HB3.out).mono ?_; rintro e w7 ⟨A7, n7, c7, rfl, hn7, hb7⟩; have HN7 := Lib.hid hn7; have HB7 : Hid (Below W0.heap.size W0 w7) := Lib.hid (HB3.out.trans (hb7.mono HB3.out.size)); clear hn7 hb7)
  have hz : n7 = 0 := HN7.out.1.symm
  subst hz
  have HX7 : Hid (Blk (w7.alloc (.cells #[.int .i64 0, .slice A7 0 c7] 25)) w7.heap.size 25 #[.int .i64 0, .slice A7 0 c7]) := Lib.hid (Blk.new _ _ _)
  have HB8 : Hid (Below W0.heap.size W0 (w7.alloc (.cells #[.int .i64 0, .slice A7 0 c7] 25))) := Lib.hid (below_more HB7.out _)
  generalize (w7.alloc (.cells #[.int .i64 0, .slice A7 0 c7] 25)) = W8 at HX7 HB8 ⊢
  have z0 : W8.cell? ⟨w7.heap.size, 0, none⟩ = some (.int .i64 0) := (HX7.out.cell 0).trans rfl
  have z1 : W8.cell? ⟨w7.heap.size, 1, none⟩ = some (.slice A7 0 c7) := (HX7.out.cell 1).trans rfl
  go_wp2_with fail
  go_ret
  exact ⟨rfl, HW0.out.trans (HB8.out.mono HW0.out.size)⟩
set_option maxRecDepth 20000 in
set_option maxHeartbeats 6400000 in
theorem sheetBack_long_ok (w : World) (hi : Nat) (next : Int) (A : Option Addr) (n c : Nat) (nds : List Nd) (h : NodesIn w 0 hi A n c nds) (hh : hi ≤ w.heap.size) (s : ByteArray) (hE : Env w) (hB : rightB next nds = true) (hpr : printV next nds = ([], 3)) (st : RS) (hpt : parseV s.data.toList = ((st.next, sortV st.nds), 0, 0)) (hrt : rightB st.next (sortV st.nds) = true) (hpx : printV st.next (sortV st.nds) = (s.data.toList, 0)) : Calls Tryz.prog 4 #[.agg #[.int .i64 next, .slice A n c], .string s] w (Ret w (.bool true)) := by
  have HE := Lib.hid hE
  have HW0 : Hid (Below w.heap.size w (w.alloc (.cells #[.int .i64 next, .slice A n c] 25))) := Lib.hid ((Below.refl _ _).alloc (Nat.le_refl _) _)
  have HX0 : Hid (Blk (w.alloc (.cells #[.int .i64 next, .slice A n c] 25)) w.heap.size 25 #[.int .i64 next, .slice A n c]) := Lib.hid (Blk.new _ _ _)
  obtain ⟨W0, hW0⟩ : ∃ W0, (w.alloc (.cells #[.int .i64 next, .slice A n c] 25)) = W0 := ⟨_, rfl⟩
  rw [hW0] at HW0 HX0
  have HKEEP : Hid (∀ Y, Below W0.heap.size W0 Y → Y.cell? ⟨w.heap.size, 0, none⟩ = some (.int .i64 next) ∧ Y.cell? ⟨w.heap.size, 1, none⟩ = some (.slice A n c)) := Lib.hid fun Y hY => ⟨((HX0.out.after hY).cell 0).trans rfl, ((HX0.out.after hY).cell 1).trans rfl⟩
  have HB0 : Hid (Below W0.heap.size W0 W0) := Lib.hid (Below.refl _ _)
  have HAW : Hid (∀ Y, Below W0.heap.size W0 Y → Calls Tryz.prog 11 #[] Y (Ret Y (.bool true))) := Lib.hid fun Y hY => awake_any Y (HE.out.below (HW0.out.trans (hY.mono HW0.out.size)))
  clear hE
  have HPR : Hid (∀ Y, Below W0.heap.size W0 Y → Calls Tryz.prog 12 #[.agg #[.int .i64 next, .slice A n c]] Y fun e w' => e = .returned (.tuple #[.string ⟨#[]⟩, .int .i64 3]) ∧ Below Y.heap.size Y w') := Lib.hid fun Y hY => by
    have h1 := HW0.out.trans (hY.mono HW0.out.size)
    have := print_any Y hi next A n c nds (h.below (h1.mono hh)) (Nat.le_trans hh h1.size) (HE.out.below h1).tab
    unfold PrintP at this
    rw [hpr] at this
    exact this
  have HCK : Hid (∀ Y, Below W0.heap.size W0 Y → Calls Tryz.prog 13 #[.agg #[.int .i64 next, .slice A n c]] Y (Ret Y (.int .i64 0))) := Lib.hid fun Y hY => by
    have h1 := HW0.out.trans (hY.mono HW0.out.size)
    have := check_any Y hi next A n c nds (h.below (h1.mono hh)) (Nat.le_trans hh h1.size)
    rw [checkV_yes hB] at this
    exact this
  have HPT : Hid (∀ Y, Below W0.heap.size W0 Y → Calls Tryz.prog 8 #[.string s] Y (ParseP Y ((st.next, sortV st.nds), 0, 0))) := Lib.hid fun Y hY => by
    have := sheetParse_any Y s (HE.out.below (HW0.out.trans (hY.mono HW0.out.size)))
    rwa [hpt] at this
  have HRT := Lib.hid hrt
  have HPX := Lib.hid hpx
  clear hrt hpx
  clear hpr hpt hB
  go_enter Tryz.func4, Tryz.ntmps4
  go_upto_region 1 with fail
  (try rw [hW0])
  go_upto_region 12 with (first | (go_at_call 11; refine (HAW.out _ HB0.out).mono ?_; rintro e w1 ⟨rfl, hb⟩; have HB1 : Hid (Below W0.heap.size W0 w1) := Lib.hid (HB0.out.trans (hb.mono HB0.out.size)); obtain ⟨x0w1, x1w1⟩ := HKEEP.out _ HB1.out; clear hb) | (go_at_call 12; refine (HPR.out _ HB1.out).mono ?_; rintro e w2 ⟨rfl, hb⟩; have HB2 : Hid (Below W0.heap.size W0 w2) := Lib.hid (HB1.out.trans (hb.mono HB1.out.size)); obtain ⟨x0w2, x1w2⟩ := HKEEP.out _ HB2.out; clear hb) | (go_at_call 13; refine (HCK.out _ HB2.out).mono ?_; rintro e w3 ⟨rfl, hb⟩; have HB3 : Hid (Below W0.heap.size W0 w3) := Lib.hid (HB2.out.trans (hb.mono HB2.out.size)); obtain ⟨x0w3, x1w3⟩ := HKEEP.out _ HB3.out; clear hb))
  go_upto_region 13 with (go_at_call 8; refine (HPT.out _ HB3.out).mono ?_; rintro e w7 ⟨A7, n7, c7, rfl, hn7, hb7⟩; have HN7 := Lib.hid hn7; have HB7 : Hid (Below W0.heap.size W0 w7) := Lib.hid (HB3.out.trans (hb7.mono HB3.out.size)); clear hn7 hb7)
  have HX7 : Hid (Blk (w7.alloc (.cells #[.int .i64 st.next, .slice A7 n7 c7] 25)) w7.heap.size 25 #[.int .i64 st.next, .slice A7 n7 c7]) := Lib.hid (Blk.new _ _ _)
  have HB8 : Hid (Below W0.heap.size W0 (w7.alloc (.cells #[.int .i64 st.next, .slice A7 n7 c7] 25))) := Lib.hid (below_more HB7.out _)
  have HN8 : Hid (NodesIn (w7.alloc (.cells #[.int .i64 st.next, .slice A7 n7 c7] 25)) 0 w7.heap.size A7 n7 c7 (sortV st.nds)) := Lib.hid (HN7.out.below ((Below.refl _ _).alloc (Nat.le_refl _) _))
  generalize (w7.alloc (.cells #[.int .i64 st.next, .slice A7 n7 c7] 25)) = W8 at HX7 HB8 HN8 ⊢
  have z0 : W8.cell? ⟨w7.heap.size, 0, none⟩ = some (.int .i64 st.next) := (HX7.out.cell 0).trans rfl
  have z1 : W8.cell? ⟨w7.heap.size, 1, none⟩ = some (.slice A7 n7 c7) := (HX7.out.cell 1).trans rfl
  have HC8 : Hid (Calls Tryz.prog 13 #[.agg #[.int .i64 st.next, .slice A7 n7 c7]] W8 (Ret W8 (.int .i64 0))) := Lib.hid (by have := check_any W8 w7.heap.size st.next A7 n7 c7 (sortV st.nds) HN8.out (Nat.le_of_lt HX7.out.lt); rwa [checkV_yes HRT.out] at this)
  have HP8 : Hid (∀ Y, Below W8.heap.size W8 Y → Calls Tryz.prog 12 #[.agg #[.int .i64 st.next, .slice A7 n7 c7]] Y fun e w' => e = .returned (.tuple #[.string s, .int .i64 0]) ∧ Below Y.heap.size Y w') := Lib.hid fun Y hY => by
    have h1 := HW0.out.trans ((HB8.out.trans (hY.mono HB8.out.size)).mono HW0.out.size)
    have := print_any Y w7.heap.size st.next A7 n7 c7 (sortV st.nds) (HN8.out.below (hY.mono (Nat.le_of_lt HX7.out.lt))) (Nat.le_trans (Nat.le_of_lt HX7.out.lt) hY.size) (HE.out.below h1).tab
    unfold PrintP at this
    rw [HPX.out] at this
    have e : (⟨s.data.toList.toArray⟩ : ByteArray) = s := bytesOf_isP s
    simp only [e] at this
    exact this
  go_wp2_with (first | (go_at_call 13; refine HC8.out.mono ?_; rintro e w9 ⟨rfl, hb⟩; have HB9 := Lib.hid hb; have u0 : w9.cell? ⟨w7.heap.size, 0, none⟩ = some (.int .i64 st.next) := ((HX7.out.after hb).cell 0).trans rfl; have u1 : w9.cell? ⟨w7.heap.size, 1, none⟩ = some (.slice A7 n7 c7) := ((HX7.out.after hb).cell 1).trans rfl; clear hb) | (go_at_call 12; refine (HP8.out _ HB9.out).mono ?_; rintro e w10 ⟨rfl, hb⟩; have HB10 := Lib.hid (HB9.out.trans (hb.mono HB9.out.size)); clear hb))
  go_ret
  exact ⟨rfl, HW0.out.trans ((HB8.out.trans (HB10.out.mono HB8.out.size)).mono HW0.out.size)⟩
set_option maxRecDepth 20000 in
set_option maxHeartbeats 6400000 in
theorem sheetBack_ok_long (w : World) (hi : Nat) (next : Int) (A : Option Addr) (n c : Nat) (nds : List Nd) (h : NodesIn w 0 hi A n c nds) (hh : hi ≤ w.heap.size) (s : ByteArray) (hE : Env w) (T : List UInt8) (hB : rightB next nds = true) (hpr0 : printV next nds = (T, 0)) (hTl0 : T.length ≤ 1048576) (hpp0 : parseV T = ((next, nds), 0, 0)) (hpt : parseV s.data.toList = ((0, []), 0, 3)) (hlt : 1048576 < s.data.toList.length) : Calls Tryz.prog 4 #[.agg #[.int .i64 next, .slice A n c], .string s] w (Ret w (.bool true)) := by
  have HE := Lib.hid hE
  have HW0 : Hid (Below w.heap.size w (w.alloc (.cells #[.int .i64 next, .slice A n c] 25))) := Lib.hid ((Below.refl _ _).alloc (Nat.le_refl _) _)
  have HX0 : Hid (Blk (w.alloc (.cells #[.int .i64 next, .slice A n c] 25)) w.heap.size 25 #[.int .i64 next, .slice A n c]) := Lib.hid (Blk.new _ _ _)
  obtain ⟨W0, hW0⟩ : ∃ W0, (w.alloc (.cells #[.int .i64 next, .slice A n c] 25)) = W0 := ⟨_, rfl⟩
  rw [hW0] at HW0 HX0
  have HKEEP : Hid (∀ Y, Below W0.heap.size W0 Y → Y.cell? ⟨w.heap.size, 0, none⟩ = some (.int .i64 next) ∧ Y.cell? ⟨w.heap.size, 1, none⟩ = some (.slice A n c)) := Lib.hid fun Y hY => ⟨((HX0.out.after hY).cell 0).trans rfl, ((HX0.out.after hY).cell 1).trans rfl⟩
  have HB0 : Hid (Below W0.heap.size W0 W0) := Lib.hid (Below.refl _ _)
  have HAW : Hid (∀ Y, Below W0.heap.size W0 Y → Calls Tryz.prog 11 #[] Y (Ret Y (.bool true))) := Lib.hid fun Y hY => awake_any Y (HE.out.below (HW0.out.trans (hY.mono HW0.out.size)))
  obtain ⟨S, hS⟩ : ∃ S : ByteArray, (⟨T.toArray⟩ : ByteArray) = S := ⟨_, rfl⟩
  have hST : S.data.toList = T := by rw [← hS]
  have hpr : printV next nds = (S.data.toList, 0) := by rw [hST]; exact hpr0
  have hTl : T.length ≤ 1048576 := hTl0
  have hpp := hpp0
  have hSS : (⟨S.data.toList.toArray⟩ : ByteArray) = S := bytesOf_isP S
  clear hpr0 hTl0 hpp0 hS
  clear hE
  have HPR : Hid (∀ Y, Below W0.heap.size W0 Y → Calls Tryz.prog 12 #[.agg #[.int .i64 next, .slice A n c]] Y fun e w' => e = .returned (.tuple #[.string S, .int .i64 0]) ∧ Below Y.heap.size Y w') := Lib.hid fun Y hY => by
    have h1 := HW0.out.trans (hY.mono HW0.out.size)
    have := print_any Y hi next A n c nds (h.below (h1.mono hh)) (Nat.le_trans hh h1.size) (HE.out.below h1).tab
    unfold PrintP at this
    rw [hpr] at this
    simp only [hSS] at this
    exact this
  have HCK : Hid (∀ Y, Below W0.heap.size W0 Y → Calls Tryz.prog 13 #[.agg #[.int .i64 next, .slice A n c]] Y (Ret Y (.int .i64 0))) := Lib.hid fun Y hY => by
    have h1 := HW0.out.trans (hY.mono HW0.out.size)
    have := check_any Y hi next A n c nds (h.below (h1.mono hh)) (Nat.le_trans hh h1.size)
    rw [checkV_yes hB] at this
    exact this
  have HPT : Hid (∀ Y, Below W0.heap.size W0 Y → Calls Tryz.prog 8 #[.string s] Y (ParseP Y ((0, []), 0, 3))) := Lib.hid fun Y hY => by
    have := sheetParse_any Y s (HE.out.below (HW0.out.trans (hY.mono HW0.out.size)))
    rwa [hpt] at this
  have HPA : Hid (∀ Y, Below W0.heap.size W0 Y → Calls Tryz.prog 8 #[.string S] Y (ParseP Y ((next, nds), 0, 0))) := Lib.hid fun Y hY => by
    have := sheetParse_any Y S (HE.out.below (HW0.out.trans (hY.mono HW0.out.size)))
    rwa [hST, hpp] at this
  have hsz : S.size ≤ 1048576 := by rw [← toList_eq, hST]; exact hTl
  have HH := Lib.hid h
  clear hpp hTl hST
  have hsl : (1048576 : Int) < (s.size : Int) := by rw [toList_eq] at hlt; omega
  clear hlt
  clear hpr hpt hB hSS
  go_enter Tryz.func4, Tryz.ntmps4
  go_upto_region 1 with fail
  (try rw [hW0])
  go_upto_region 9 with (first | (go_at_call 11; refine (HAW.out _ HB0.out).mono ?_; rintro e w1 ⟨rfl, hb⟩; have HB1 : Hid (Below W0.heap.size W0 w1) := Lib.hid (HB0.out.trans (hb.mono HB0.out.size)); obtain ⟨x0w1, x1w1⟩ := HKEEP.out _ HB1.out; clear hb) | (go_at_call 12; refine (HPR.out _ HB1.out).mono ?_; rintro e w2 ⟨rfl, hb⟩; have HB2 : Hid (Below W0.heap.size W0 w2) := Lib.hid (HB1.out.trans (hb.mono HB1.out.size)); obtain ⟨x0w2, x1w2⟩ := HKEEP.out _ HB2.out; clear hb) | (go_at_call 13; refine (HCK.out _ HB2.out).mono ?_; rintro e w3 ⟨rfl, hb⟩; have HB3 : Hid (Below W0.heap.size W0 w3) := Lib.hid (HB2.out.trans (hb.mono HB2.out.size)); obtain ⟨x0w3, x1w3⟩ := HKEEP.out _ HB3.out; clear hb) | (go_at_call 8; refine (HPA.out _ HB3.out).mono ?_; rintro e w4 ⟨A4, n4, c4, rfl, hn4, hb4⟩; have HN4 := Lib.hid hn4; have HB4 : Hid (Below W0.heap.size W0 w4) := Lib.hid (HB3.out.trans (hb4.mono HB3.out.size)); clear hn4 hb4))
  have HX4 : Hid (Blk (w4.alloc (.cells #[.int .i64 next, .slice A4 n4 c4] 25)) w4.heap.size 25 #[.int .i64 next, .slice A4 n4 c4]) := Lib.hid (Blk.new _ _ _)
  have HB5 : Hid (Below W0.heap.size W0 (w4.alloc (.cells #[.int .i64 next, .slice A4 n4 c4] 25))) := Lib.hid (below_more HB4.out _)
  have HN5 : Hid (NodesIn (w4.alloc (.cells #[.int .i64 next, .slice A4 n4 c4] 25)) 0 w4.heap.size A4 n4 c4 nds) := Lib.hid (HN4.out.below ((Below.refl _ _).alloc (Nat.le_refl _) _))
  generalize (w4.alloc (.cells #[.int .i64 next, .slice A4 n4 c4] 25)) = W5 at HX4 HB5 HN5 ⊢
  have HM5 : Hid (NodesIn W5 0 w4.heap.size A n c nds) := Lib.hid (by
    have h1 := HW0.out.trans (HB5.out.mono HW0.out.size)
    exact (HH.out.below (h1.mono hh)).mono (Nat.le_refl _) (Nat.le_trans hh (Nat.le_trans HW0.out.size HB4.out.size)))
  obtain ⟨v0, v1⟩ := HKEEP.out _ HB5.out
  have v2 : W5.cell? ⟨w4.heap.size, 0, none⟩ = some (.int .i64 next) := (HX4.out.cell 0).trans rfl
  have v3 : W5.cell? ⟨w4.heap.size, 1, none⟩ = some (.slice A4 n4 c4) := (HX4.out.cell 1).trans rfl
  have HSM : Hid (Calls Tryz.prog 14 #[.agg #[.int .i64 next, .slice A n c], .agg #[.int .i64 next, .slice A4 n4 c4]] W5 (Ret W5 (.bool true))) := Lib.hid (by have := same_any W5 w4.heap.size next next A A4 n c n4 c4 nds nds HM5.out HN5.out (Nat.le_of_lt HX4.out.lt); rwa [mdE_refl] at this)
  go_upto_region 12 with (go_at_call 14; refine HSM.out.mono ?_; rintro e w6 ⟨rfl, hb⟩; have HB6 : Hid (Below W0.heap.size W0 w6) := Lib.hid (HB5.out.trans (hb.mono HB5.out.size)); clear hb)
  go_upto_region 13 with (go_at_call 8; refine (HPT.out _ HB6.out).mono ?_; rintro e w7 ⟨A7, n7, c7, rfl, hn7, hb7⟩; have HN7 := Lib.hid hn7; have HB7 : Hid (Below W0.heap.size W0 w7) := Lib.hid (HB6.out.trans (hb7.mono HB6.out.size)); clear hn7 hb7)
  have hz : n7 = 0 := HN7.out.1.symm
  subst hz
  have HX7 : Hid (Blk (w7.alloc (.cells #[.int .i64 0, .slice A7 0 c7] 25)) w7.heap.size 25 #[.int .i64 0, .slice A7 0 c7]) := Lib.hid (Blk.new _ _ _)
  have HB8 : Hid (Below W0.heap.size W0 (w7.alloc (.cells #[.int .i64 0, .slice A7 0 c7] 25))) := Lib.hid (below_more HB7.out _)
  generalize (w7.alloc (.cells #[.int .i64 0, .slice A7 0 c7] 25)) = W8 at HX7 HB8 ⊢
  have z0 : W8.cell? ⟨w7.heap.size, 0, none⟩ = some (.int .i64 0) := (HX7.out.cell 0).trans rfl
  have z1 : W8.cell? ⟨w7.heap.size, 1, none⟩ = some (.slice A7 0 c7) := (HX7.out.cell 1).trans rfl
  go_wp2_with fail
  go_ret
  exact ⟨rfl, HW0.out.trans (HB8.out.mono HW0.out.size)⟩
set_option maxRecDepth 20000 in
set_option maxHeartbeats 6400000 in
theorem sheetBack_ok_form (w : World) (hi : Nat) (next : Int) (A : Option Addr) (n c : Nat) (nds : List Nd) (h : NodesIn w 0 hi A n c nds) (hh : hi ≤ w.heap.size) (s : ByteArray) (hE : Env w) (T : List UInt8) (hB : rightB next nds = true) (hpr0 : printV next nds = (T, 0)) (hTl0 : T.length ≤ 1048576) (hpp0 : parseV T = ((next, nds), 0, 0)) (k : Int) (hpt : parseV s.data.toList = ((0, []), k, 30)) (hk : 0 < k) : Calls Tryz.prog 4 #[.agg #[.int .i64 next, .slice A n c], .string s] w (Ret w (.bool true)) := by
  have HE := Lib.hid hE
  have HW0 : Hid (Below w.heap.size w (w.alloc (.cells #[.int .i64 next, .slice A n c] 25))) := Lib.hid ((Below.refl _ _).alloc (Nat.le_refl _) _)
  have HX0 : Hid (Blk (w.alloc (.cells #[.int .i64 next, .slice A n c] 25)) w.heap.size 25 #[.int .i64 next, .slice A n c]) := Lib.hid (Blk.new _ _ _)
  obtain ⟨W0, hW0⟩ : ∃ W0, (w.alloc (.cells #[.int .i64 next, .slice A n c] 25)) = W0 := ⟨_, rfl⟩
  rw [hW0] at HW0 HX0
  have HKEEP : Hid (∀ Y, Below W0.heap.size W0 Y → Y.cell? ⟨w.heap.size, 0, none⟩ = some (.int .i64 next) ∧ Y.cell? ⟨w.heap.size, 1, none⟩ = some (.slice A n c)) := Lib.hid fun Y hY => ⟨((HX0.out.after hY).cell 0).trans rfl, ((HX0.out.after hY).cell 1).trans rfl⟩
  have HB0 : Hid (Below W0.heap.size W0 W0) := Lib.hid (Below.refl _ _)
  have HAW : Hid (∀ Y, Below W0.heap.size W0 Y → Calls Tryz.prog 11 #[] Y (Ret Y (.bool true))) := Lib.hid fun Y hY => awake_any Y (HE.out.below (HW0.out.trans (hY.mono HW0.out.size)))
  obtain ⟨S, hS⟩ : ∃ S : ByteArray, (⟨T.toArray⟩ : ByteArray) = S := ⟨_, rfl⟩
  have hST : S.data.toList = T := by rw [← hS]
  have hpr : printV next nds = (S.data.toList, 0) := by rw [hST]; exact hpr0
  have hTl : T.length ≤ 1048576 := hTl0
  have hpp := hpp0
  have hSS : (⟨S.data.toList.toArray⟩ : ByteArray) = S := bytesOf_isP S
  clear hpr0 hTl0 hpp0 hS
  clear hE
  have HPR : Hid (∀ Y, Below W0.heap.size W0 Y → Calls Tryz.prog 12 #[.agg #[.int .i64 next, .slice A n c]] Y fun e w' => e = .returned (.tuple #[.string S, .int .i64 0]) ∧ Below Y.heap.size Y w') := Lib.hid fun Y hY => by
    have h1 := HW0.out.trans (hY.mono HW0.out.size)
    have := print_any Y hi next A n c nds (h.below (h1.mono hh)) (Nat.le_trans hh h1.size) (HE.out.below h1).tab
    unfold PrintP at this
    rw [hpr] at this
    simp only [hSS] at this
    exact this
  have HCK : Hid (∀ Y, Below W0.heap.size W0 Y → Calls Tryz.prog 13 #[.agg #[.int .i64 next, .slice A n c]] Y (Ret Y (.int .i64 0))) := Lib.hid fun Y hY => by
    have h1 := HW0.out.trans (hY.mono HW0.out.size)
    have := check_any Y hi next A n c nds (h.below (h1.mono hh)) (Nat.le_trans hh h1.size)
    rw [checkV_yes hB] at this
    exact this
  have HPT : Hid (∀ Y, Below W0.heap.size W0 Y → Calls Tryz.prog 8 #[.string s] Y (ParseP Y ((0, []), k, 30))) := Lib.hid fun Y hY => by
    have := sheetParse_any Y s (HE.out.below (HW0.out.trans (hY.mono HW0.out.size)))
    rwa [hpt] at this
  have HPA : Hid (∀ Y, Below W0.heap.size W0 Y → Calls Tryz.prog 8 #[.string S] Y (ParseP Y ((next, nds), 0, 0))) := Lib.hid fun Y hY => by
    have := sheetParse_any Y S (HE.out.below (HW0.out.trans (hY.mono HW0.out.size)))
    rwa [hST, hpp] at this
  have hsz : S.size ≤ 1048576 := by rw [← toList_eq, hST]; exact hTl
  have HH := Lib.hid h
  clear hpp hTl hST
  clear hpr hpt hB hSS
  go_enter Tryz.func4, Tryz.ntmps4
  go_upto_region 1 with fail
  (try rw [hW0])
  go_upto_region 9 with (first | (go_at_call 11; refine (HAW.out _ HB0.out).mono ?_; rintro e w1 ⟨rfl, hb⟩; have HB1 : Hid (Below W0.heap.size W0 w1) := Lib.hid (HB0.out.trans (hb.mono HB0.out.size)); obtain ⟨x0w1, x1w1⟩ := HKEEP.out _ HB1.out; clear hb) | (go_at_call 12; refine (HPR.out _ HB1.out).mono ?_; rintro e w2 ⟨rfl, hb⟩; have HB2 : Hid (Below W0.heap.size W0 w2) := Lib.hid (HB1.out.trans (hb.mono HB1.out.size)); obtain ⟨x0w2, x1w2⟩ := HKEEP.out _ HB2.out; clear hb) | (go_at_call 13; refine (HCK.out _ HB2.out).mono ?_; rintro e w3 ⟨rfl, hb⟩; have HB3 : Hid (Below W0.heap.size W0 w3) := Lib.hid (HB2.out.trans (hb.mono HB2.out.size)); obtain ⟨x0w3, x1w3⟩ := HKEEP.out _ HB3.out; clear hb) | (go_at_call 8; refine (HPA.out _ HB3.out).mono ?_; rintro e w4 ⟨A4, n4, c4, rfl, hn4, hb4⟩; have HN4 := Lib.hid hn4; have HB4 : Hid (Below W0.heap.size W0 w4) := Lib.hid (HB3.out.trans (hb4.mono HB3.out.size)); clear hn4 hb4))
  have HX4 : Hid (Blk (w4.alloc (.cells #[.int .i64 next, .slice A4 n4 c4] 25)) w4.heap.size 25 #[.int .i64 next, .slice A4 n4 c4]) := Lib.hid (Blk.new _ _ _)
  have HB5 : Hid (Below W0.heap.size W0 (w4.alloc (.cells #[.int .i64 next, .slice A4 n4 c4] 25))) := Lib.hid (below_more HB4.out _)
  have HN5 : Hid (NodesIn (w4.alloc (.cells #[.int .i64 next, .slice A4 n4 c4] 25)) 0 w4.heap.size A4 n4 c4 nds) := Lib.hid (HN4.out.below ((Below.refl _ _).alloc (Nat.le_refl _) _))
  generalize (w4.alloc (.cells #[.int .i64 next, .slice A4 n4 c4] 25)) = W5 at HX4 HB5 HN5 ⊢
  have HM5 : Hid (NodesIn W5 0 w4.heap.size A n c nds) := Lib.hid (by
    have h1 := HW0.out.trans (HB5.out.mono HW0.out.size)
    exact (HH.out.below (h1.mono hh)).mono (Nat.le_refl _) (Nat.le_trans hh (Nat.le_trans HW0.out.size HB4.out.size)))
  obtain ⟨v0, v1⟩ := HKEEP.out _ HB5.out
  have v2 : W5.cell? ⟨w4.heap.size, 0, none⟩ = some (.int .i64 next) := (HX4.out.cell 0).trans rfl
  have v3 : W5.cell? ⟨w4.heap.size, 1, none⟩ = some (.slice A4 n4 c4) := (HX4.out.cell 1).trans rfl
  have HSM : Hid (Calls Tryz.prog 14 #[.agg #[.int .i64 next, .slice A n c], .agg #[.int .i64 next, .slice A4 n4 c4]] W5 (Ret W5 (.bool true))) := Lib.hid (by have := same_any W5 w4.heap.size next next A A4 n c n4 c4 nds nds HM5.out HN5.out (Nat.le_of_lt HX4.out.lt); rwa [mdE_refl] at this)
  go_upto_region 12 with (go_at_call 14; refine HSM.out.mono ?_; rintro e w6 ⟨rfl, hb⟩; have HB6 : Hid (Below W0.heap.size W0 w6) := Lib.hid (HB5.out.trans (hb.mono HB5.out.size)); clear hb)
  go_upto_region 13 with (go_at_call 8; refine (HPT.out _ HB6.out).mono ?_; rintro e w7 ⟨A7, n7, c7, rfl, hn7, hb7⟩; have HN7 := Lib.hid hn7; have HB7 : Hid (Below W0.heap.size W0 w7) := Lib.hid (HB6.out.trans (hb7.mono HB6.out.size)); clear hn7 hb7)
  have hz : n7 = 0 := HN7.out.1.symm
  subst hz
  have HX7 : Hid (Blk (w7.alloc (.cells #[.int .i64 0, .slice A7 0 c7] 25)) w7.heap.size 25 #[.int .i64 0, .slice A7 0 c7]) := Lib.hid (Blk.new _ _ _)
  have HB8 : Hid (Below W0.heap.size W0 (w7.alloc (.cells #[.int .i64 0, .slice A7 0 c7] 25))) := Lib.hid (below_more HB7.out _)
  generalize (w7.alloc (.cells #[.int .i64 0, .slice A7 0 c7] 25)) = W8 at HX7 HB8 ⊢
  have z0 : W8.cell? ⟨w7.heap.size, 0, none⟩ = some (.int .i64 0) := (HX7.out.cell 0).trans rfl
  have z1 : W8.cell? ⟨w7.heap.size, 1, none⟩ = some (.slice A7 0 c7) := (HX7.out.cell 1).trans rfl
  go_wp2_with fail
  go_ret
  exact ⟨rfl, HW0.out.trans (HB8.out.mono HW0.out.size)⟩
set_option maxRecDepth 20000 in
set_option maxHeartbeats 6400000 in
theorem sheetBack_ok_ok (w : World) (hi : Nat) (next : Int) (A : Option Addr) (n c : Nat) (nds : List Nd) (h : NodesIn w 0 hi A n c nds) (hh : hi ≤ w.heap.size) (s : ByteArray) (hE : Env w) (T : List UInt8) (hB : rightB next nds = true) (hpr0 : printV next nds = (T, 0)) (hTl0 : T.length ≤ 1048576) (hpp0 : parseV T = ((next, nds), 0, 0)) (st : RS) (hpt : parseV s.data.toList = ((st.next, sortV st.nds), 0, 0)) (hrt : rightB st.next (sortV st.nds) = true) (hpx : printV st.next (sortV st.nds) = (s.data.toList, 0)) : Calls Tryz.prog 4 #[.agg #[.int .i64 next, .slice A n c], .string s] w (Ret w (.bool true)) := by
  have HE := Lib.hid hE
  have HW0 : Hid (Below w.heap.size w (w.alloc (.cells #[.int .i64 next, .slice A n c] 25))) := Lib.hid ((Below.refl _ _).alloc (Nat.le_refl _) _)
  have HX0 : Hid (Blk (w.alloc (.cells #[.int .i64 next, .slice A n c] 25)) w.heap.size 25 #[.int .i64 next, .slice A n c]) := Lib.hid (Blk.new _ _ _)
  obtain ⟨W0, hW0⟩ : ∃ W0, (w.alloc (.cells #[.int .i64 next, .slice A n c] 25)) = W0 := ⟨_, rfl⟩
  rw [hW0] at HW0 HX0
  have HKEEP : Hid (∀ Y, Below W0.heap.size W0 Y → Y.cell? ⟨w.heap.size, 0, none⟩ = some (.int .i64 next) ∧ Y.cell? ⟨w.heap.size, 1, none⟩ = some (.slice A n c)) := Lib.hid fun Y hY => ⟨((HX0.out.after hY).cell 0).trans rfl, ((HX0.out.after hY).cell 1).trans rfl⟩
  have HB0 : Hid (Below W0.heap.size W0 W0) := Lib.hid (Below.refl _ _)
  have HAW : Hid (∀ Y, Below W0.heap.size W0 Y → Calls Tryz.prog 11 #[] Y (Ret Y (.bool true))) := Lib.hid fun Y hY => awake_any Y (HE.out.below (HW0.out.trans (hY.mono HW0.out.size)))
  obtain ⟨S, hS⟩ : ∃ S : ByteArray, (⟨T.toArray⟩ : ByteArray) = S := ⟨_, rfl⟩
  have hST : S.data.toList = T := by rw [← hS]
  have hpr : printV next nds = (S.data.toList, 0) := by rw [hST]; exact hpr0
  have hTl : T.length ≤ 1048576 := hTl0
  have hpp := hpp0
  have hSS : (⟨S.data.toList.toArray⟩ : ByteArray) = S := bytesOf_isP S
  clear hpr0 hTl0 hpp0 hS
  clear hE
  have HPR : Hid (∀ Y, Below W0.heap.size W0 Y → Calls Tryz.prog 12 #[.agg #[.int .i64 next, .slice A n c]] Y fun e w' => e = .returned (.tuple #[.string S, .int .i64 0]) ∧ Below Y.heap.size Y w') := Lib.hid fun Y hY => by
    have h1 := HW0.out.trans (hY.mono HW0.out.size)
    have := print_any Y hi next A n c nds (h.below (h1.mono hh)) (Nat.le_trans hh h1.size) (HE.out.below h1).tab
    unfold PrintP at this
    rw [hpr] at this
    simp only [hSS] at this
    exact this
  have HCK : Hid (∀ Y, Below W0.heap.size W0 Y → Calls Tryz.prog 13 #[.agg #[.int .i64 next, .slice A n c]] Y (Ret Y (.int .i64 0))) := Lib.hid fun Y hY => by
    have h1 := HW0.out.trans (hY.mono HW0.out.size)
    have := check_any Y hi next A n c nds (h.below (h1.mono hh)) (Nat.le_trans hh h1.size)
    rw [checkV_yes hB] at this
    exact this
  have HPT : Hid (∀ Y, Below W0.heap.size W0 Y → Calls Tryz.prog 8 #[.string s] Y (ParseP Y ((st.next, sortV st.nds), 0, 0))) := Lib.hid fun Y hY => by
    have := sheetParse_any Y s (HE.out.below (HW0.out.trans (hY.mono HW0.out.size)))
    rwa [hpt] at this
  have HPA : Hid (∀ Y, Below W0.heap.size W0 Y → Calls Tryz.prog 8 #[.string S] Y (ParseP Y ((next, nds), 0, 0))) := Lib.hid fun Y hY => by
    have := sheetParse_any Y S (HE.out.below (HW0.out.trans (hY.mono HW0.out.size)))
    rwa [hST, hpp] at this
  have hsz : S.size ≤ 1048576 := by rw [← toList_eq, hST]; exact hTl
  have HH := Lib.hid h
  clear hpp hTl hST
  have HRT := Lib.hid hrt
  have HPX := Lib.hid hpx
  clear hrt hpx
  clear hpr hpt hB hSS
  go_enter Tryz.func4, Tryz.ntmps4
  go_upto_region 1 with fail
  (try rw [hW0])
  go_upto_region 9 with (first | (go_at_call 11; refine (HAW.out _ HB0.out).mono ?_; rintro e w1 ⟨rfl, hb⟩; have HB1 : Hid (Below W0.heap.size W0 w1) := Lib.hid (HB0.out.trans (hb.mono HB0.out.size)); obtain ⟨x0w1, x1w1⟩ := HKEEP.out _ HB1.out; clear hb) | (go_at_call 12; refine (HPR.out _ HB1.out).mono ?_; rintro e w2 ⟨rfl, hb⟩; have HB2 : Hid (Below W0.heap.size W0 w2) := Lib.hid (HB1.out.trans (hb.mono HB1.out.size)); obtain ⟨x0w2, x1w2⟩ := HKEEP.out _ HB2.out; clear hb) | (go_at_call 13; refine (HCK.out _ HB2.out).mono ?_; rintro e w3 ⟨rfl, hb⟩; have HB3 : Hid (Below W0.heap.size W0 w3) := Lib.hid (HB2.out.trans (hb.mono HB2.out.size)); obtain ⟨x0w3, x1w3⟩ := HKEEP.out _ HB3.out; clear hb) | (go_at_call 8; refine (HPA.out _ HB3.out).mono ?_; rintro e w4 ⟨A4, n4, c4, rfl, hn4, hb4⟩; have HN4 := Lib.hid hn4; have HB4 : Hid (Below W0.heap.size W0 w4) := Lib.hid (HB3.out.trans (hb4.mono HB3.out.size)); clear hn4 hb4))
  have HX4 : Hid (Blk (w4.alloc (.cells #[.int .i64 next, .slice A4 n4 c4] 25)) w4.heap.size 25 #[.int .i64 next, .slice A4 n4 c4]) := Lib.hid (Blk.new _ _ _)
  have HB5 : Hid (Below W0.heap.size W0 (w4.alloc (.cells #[.int .i64 next, .slice A4 n4 c4] 25))) := Lib.hid (below_more HB4.out _)
  have HN5 : Hid (NodesIn (w4.alloc (.cells #[.int .i64 next, .slice A4 n4 c4] 25)) 0 w4.heap.size A4 n4 c4 nds) := Lib.hid (HN4.out.below ((Below.refl _ _).alloc (Nat.le_refl _) _))
  generalize (w4.alloc (.cells #[.int .i64 next, .slice A4 n4 c4] 25)) = W5 at HX4 HB5 HN5 ⊢
  have HM5 : Hid (NodesIn W5 0 w4.heap.size A n c nds) := Lib.hid (by
    have h1 := HW0.out.trans (HB5.out.mono HW0.out.size)
    exact (HH.out.below (h1.mono hh)).mono (Nat.le_refl _) (Nat.le_trans hh (Nat.le_trans HW0.out.size HB4.out.size)))
  obtain ⟨v0, v1⟩ := HKEEP.out _ HB5.out
  have v2 : W5.cell? ⟨w4.heap.size, 0, none⟩ = some (.int .i64 next) := (HX4.out.cell 0).trans rfl
  have v3 : W5.cell? ⟨w4.heap.size, 1, none⟩ = some (.slice A4 n4 c4) := (HX4.out.cell 1).trans rfl
  have HSM : Hid (Calls Tryz.prog 14 #[.agg #[.int .i64 next, .slice A n c], .agg #[.int .i64 next, .slice A4 n4 c4]] W5 (Ret W5 (.bool true))) := Lib.hid (by have := same_any W5 w4.heap.size next next A A4 n c n4 c4 nds nds HM5.out HN5.out (Nat.le_of_lt HX4.out.lt); rwa [mdE_refl] at this)
  go_upto_region 12 with (go_at_call 14; refine HSM.out.mono ?_; rintro e w6 ⟨rfl, hb⟩; have HB6 : Hid (Below W0.heap.size W0 w6) := Lib.hid (HB5.out.trans (hb.mono HB5.out.size)); clear hb)
  go_upto_region 13 with (go_at_call 8; refine (HPT.out _ HB6.out).mono ?_; rintro e w7 ⟨A7, n7, c7, rfl, hn7, hb7⟩; have HN7 := Lib.hid hn7; have HB7 : Hid (Below W0.heap.size W0 w7) := Lib.hid (HB6.out.trans (hb7.mono HB6.out.size)); clear hn7 hb7)
  have HX7 : Hid (Blk (w7.alloc (.cells #[.int .i64 st.next, .slice A7 n7 c7] 25)) w7.heap.size 25 #[.int .i64 st.next, .slice A7 n7 c7]) := Lib.hid (Blk.new _ _ _)
  have HB8 : Hid (Below W0.heap.size W0 (w7.alloc (.cells #[.int .i64 st.next, .slice A7 n7 c7] 25))) := Lib.hid (below_more HB7.out _)
  have HN8 : Hid (NodesIn (w7.alloc (.cells #[.int .i64 st.next, .slice A7 n7 c7] 25)) 0 w7.heap.size A7 n7 c7 (sortV st.nds)) := Lib.hid (HN7.out.below ((Below.refl _ _).alloc (Nat.le_refl _) _))
  generalize (w7.alloc (.cells #[.int .i64 st.next, .slice A7 n7 c7] 25)) = W8 at HX7 HB8 HN8 ⊢
  have z0 : W8.cell? ⟨w7.heap.size, 0, none⟩ = some (.int .i64 st.next) := (HX7.out.cell 0).trans rfl
  have z1 : W8.cell? ⟨w7.heap.size, 1, none⟩ = some (.slice A7 n7 c7) := (HX7.out.cell 1).trans rfl
  have HC8 : Hid (Calls Tryz.prog 13 #[.agg #[.int .i64 st.next, .slice A7 n7 c7]] W8 (Ret W8 (.int .i64 0))) := Lib.hid (by have := check_any W8 w7.heap.size st.next A7 n7 c7 (sortV st.nds) HN8.out (Nat.le_of_lt HX7.out.lt); rwa [checkV_yes HRT.out] at this)
  have HP8 : Hid (∀ Y, Below W8.heap.size W8 Y → Calls Tryz.prog 12 #[.agg #[.int .i64 st.next, .slice A7 n7 c7]] Y fun e w' => e = .returned (.tuple #[.string s, .int .i64 0]) ∧ Below Y.heap.size Y w') := Lib.hid fun Y hY => by
    have h1 := HW0.out.trans ((HB8.out.trans (hY.mono HB8.out.size)).mono HW0.out.size)
    have := print_any Y w7.heap.size st.next A7 n7 c7 (sortV st.nds) (HN8.out.below (hY.mono (Nat.le_of_lt HX7.out.lt))) (Nat.le_trans (Nat.le_of_lt HX7.out.lt) hY.size) (HE.out.below h1).tab
    unfold PrintP at this
    rw [HPX.out] at this
    have e : (⟨s.data.toList.toArray⟩ : ByteArray) = s := bytesOf_isP s
    simp only [e] at this
    exact this
  go_wp2_with (first | (go_at_call 13; refine HC8.out.mono ?_; rintro e w9 ⟨rfl, hb⟩; have HB9 := Lib.hid hb; have u0 : w9.cell? ⟨w7.heap.size, 0, none⟩ = some (.int .i64 st.next) := ((HX7.out.after hb).cell 0).trans rfl; have u1 : w9.cell? ⟨w7.heap.size, 1, none⟩ = some (.slice A7 n7 c7) := ((HX7.out.after hb).cell 1).trans rfl; clear hb) | (go_at_call 12; refine (HP8.out _ HB9.out).mono ?_; rintro e w10 ⟨rfl, hb⟩; have HB10 := Lib.hid (HB9.out.trans (hb.mono HB9.out.size)); clear hb))
  go_ret
  exact ⟨rfl, HW0.out.trans ((HB8.out.trans (HB10.out.mono HB8.out.size)).mono HW0.out.size)⟩
theorem sheetBack_law (w : World) (hi : Nat) (next : Int) (A : Option Addr) (n c : Nat) (nds : List Nd) (h : NodesIn w 0 hi A n c nds) (hh : hi ≤ w.heap.size) (s : ByteArray) (hE : Env w) : Calls Tryz.prog 4 #[.agg #[.int .i64 next, .slice A n c], .string s] w (Ret w (.bool true)) := by
  rcases print_three next nds with ⟨hB, hp⟩ | ⟨hB, hp⟩ | ⟨T, hB, hp, hl, hpp⟩ <;> rcases parse_three s.data.toList with ⟨ht, hlt⟩ | ⟨k, ht, hk⟩ | ⟨st, ht, hrt, hpx⟩
  · exact sheetBack_bad_long w hi next A n c nds h hh s hE hB hp ht hlt
  · exact sheetBack_bad_form w hi next A n c nds h hh s hE hB hp k ht hk
  · exact sheetBack_bad_ok w hi next A n c nds h hh s hE hB hp st ht hrt hpx
  · exact sheetBack_long_long w hi next A n c nds h hh s hE hB hp ht hlt
  · exact sheetBack_long_form w hi next A n c nds h hh s hE hB hp k ht hk
  · exact sheetBack_long_ok w hi next A n c nds h hh s hE hB hp st ht hrt hpx
  · exact sheetBack_ok_long w hi next A n c nds h hh s hE T hB hp hl hpp ht hlt
  · exact sheetBack_ok_form w hi next A n c nds h hh s hE T hB hp hl hpp k ht hk
  · exact sheetBack_ok_ok w hi next A n c nds h hh s hE T hB hp hl hpp st ht hrt hpx
end Go.Proofs.YtjjlofaejpnnnaaGreatDoor

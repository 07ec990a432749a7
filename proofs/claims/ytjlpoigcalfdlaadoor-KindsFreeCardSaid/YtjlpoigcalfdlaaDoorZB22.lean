/-
  WALKS over the document's answers for layer 9: Free, Texts.
  WALKS over the document's answers for layer 8: Same, of two that are the same.
-/
import Derived.Test.YtjlpoigcalfdlaaDoorZB21
namespace Go.Proofs.YtjlpoigcalfdlaaDoor
open Go Go.RowKit Go.Sort
set_option linter.unusedVariables false
theorem less_yes {a b : Bys} (h : Op.bytesLess a b = true) : a < b := of_decide_eq_true (by rw [← Go.Proofs.bytesLess_eq]; exact h)
theorem less_no {a b : Bys} (h : Op.bytesLess a b = false) : ¬ a < b := of_decide_eq_false (by rw [← Go.Proofs.bytesLess_eq]; exact h)
theorem less_other {a b : Bys} (h : Op.bytesLess a b = false) (he : (a == b) = false) : b < a := by
  rcases bys_tri a b with h1 | h1 | h1
  · exact absurd h1 (less_no h)
  · rw [beq_eq_false_iff_ne] at he; exact absurd h1 he
  · exact h1
def leastS (acc : Option Bys) : ByteArray := match acc with
  | none => ⟨#[]⟩
  | some x => ⟨x.toArray⟩
theorem leastS_none : leastS none = ⟨#[]⟩ := rfl
theorem leastS_some (x : Bys) : leastS (some x) = ⟨x.toArray⟩ := rfl
def sliceLen (v : Value) : Nat := match v with
  | .slice _ n _ => n
  | _ => 0
set_option maxRecDepth 20000 in
set_option maxHeartbeats 12800000 in
theorem refFree_any (w : World) (hi : Nat) (A : Option Addr) (n c : Nat) (l : List (EN × Sl)) (hl : ExIn w hi ⟨A, n, c⟩ l) (hh : hi ≤ w.heap.size) :
    Calls Tryd.prog 13 #[.agg #[.slice A n c]] w (FreeIs w (freeV (nodesOf l))) := by
  have hm := hl.max
  unfold maxLen at hm
  have HL := Lib.hid hl
  have HN : Hid (n = l.length) := Lib.hid hl.g.n
  clear hl
  have HX0 : Hid (Blk (w.alloc (.cells #[.slice A n c] 24)) w.heap.size 24 #[.slice A n c]) := Lib.hid (Blk.new _ _ _)
  have HB0 : Hid (Below w.heap.size w (w.alloc (.cells #[.slice A n c] 24))) := Lib.hid (below_of_alloc _)
  generalize hrr : freeV (nodesOf l) = rr
  have HRR := Lib.hid hrr
  clear hrr
  go_enter Tryd.func13, Tryd.ntmps13
  go_upto_region 1 with (fail)
  generalize w.alloc (.cells #[.slice A n c] 24) = W0 at HX0 HB0 ⊢
  have cx := (HX0.out.cell 0).trans (show _ = some (.slice A n c) from rfl)
  have HRT := Lib.hid (refRight_x W0 hi A n c l (HL.out.below (HB0.out.mono hh)) (Nat.le_trans hh HB0.out.size))
  by_cases h0 : rightV (nodesOf l) = 0
  · obtain ⟨f, hf⟩ := tree_of h0
    rw [h0] at HRT
    have HF := Lib.hid hf
    have hn256 : n ≤ 256 := by have := hf.len; rw [nodesOf_len] at this; have := HN.out; omega
    obtain ⟨U, hU⟩ : ∃ U, namesV (freeOf (nodesOf l) (f.post 0 (fun _ => []))) = U := ⟨_, rfl⟩
    obtain ⟨fs, hfs⟩ : ∃ fs, f.fl (fun _ => []) = fs := ⟨_, rfl⟩
    have HE : Hid (rr = (U, 0)) := Lib.hid (by rw [← HRR.out, freeV_tree h0 hf, hU])
    have hUl : U.length ≤ 256 := by
      have h1 := namesV_len (freeOf (nodesOf l) (f.post 0 (fun _ => [])))
      have h2 := freeOf_len (nodesOf l) (f.post 0 (fun _ => []))
      rw [post_len, hf.size, nodesOf_len] at h2
      rw [hU] at h1
      have := HN.out
      omega
    have HUP : Hid (Up U) := Lib.hid (by rw [← hU]; exact namesV_up _)
    have HMM : Hid (∀ z, z ∈ U ↔ z ∈ freeTo (nodesOf l) fs n) := Lib.hid fun z => by
      rw [← hU, namesV_mem, free_mem, hfs, hf.size, nodesOf_len, ← HN.out]
    have HFS : Hid (∀ j, j < n → ∃ (m : EN) (e : Bnd), (nodesOf l)[j]? = some m ∧ EnvAt (nodesOf l) j e ∧ fs[j]? = some (m.kind == 7 && !e.contains m.text.data.toList)) := Lib.hid fun j hj => by
      have := fl_at (nodesOf l) f 0 _ hf.at_ hf.envF j (Nat.zero_le _) (by rw [Nat.zero_add, hf.size, nodesOf_len, ← HN.out]; exact hj)
      rw [hfs, Nat.sub_zero] at this
      exact this
    clear h0 hf hU hfs
    go_upto_region 4 with (go_at_call 18; refine HRT.out.mono ?_; rintro e w2 ⟨rfl, hb2⟩; have HX2 := Lib.hid (HX0.out.after hb2); have HB2 := Lib.hid (HB0.out.trans (hb2.mono HB0.out.size)); clear hb2)
    clear cx HRT
    go_wp2_with fail
    go_loopw [5, 6, 7, 8, 9] (fun ov _ _ _ _ wr => ∃ (k : Nat) (A3 : Option Addr) (c3 : Nat), k ≤ U.length ∧ ov = .slice A3 k c3 ∧ Hid (Blk wr w.heap.size 24 #[.slice A n c]) ∧ Hid (Below w.heap.size w wr) ∧ Hid (OwnS wr (w.heap.size + 1) (.slice A3 k c3) (U.take k))) (fun ov _ _ _ _ _ => U.length - sliceLen ov)
    case atStart => exact ⟨0, none, 0, Nat.zero_le _, rfl, HX2, HB2, Lib.hid (ownS_nil _ _)⟩
    case round =>
      rename World => wa
      obtain ⟨k, A3, c3, hk, rfl, HX3, HB3, HO3⟩ := hrel
      have cx3 := (HX3.out.cell 0).trans (show _ = some (.slice A n c) from rfl)
      have HL0 : Hid (LeastN (lastOf U k) (freeTo (nodesOf l) fs 0) none) := Lib.hid (least_nil _)
      go_wp2_with fail
      clear cx3
      go_loopw [6, 7, 8, 9] (fun ls is i _ wr => ∃ (j : Nat) (acc : Option Bys), j ≤ n ∧ ls = .string (leastS acc) ∧ is = .bool acc.isSome ∧ i = .int .i64 j ∧ Hid (Blk wr w.heap.size 24 #[.slice A n c]) ∧ Hid (Below w.heap.size w wr) ∧ Hid (OwnS wr (w.heap.size + 1) (.slice A3 k c3) (U.take k)) ∧ Hid (LeastN (lastOf U k) (freeTo (nodesOf l) fs j) acc)) (fun _ _ i _ _ => n - (intOf i).toNat)
      case atStart => exact ⟨0, none, Nat.zero_le _, rfl, rfl, rfl, HX3, HB3, HO3, HL0⟩
      case round =>
        rename World => wo
        obtain ⟨j, acc, hj, rfl, rfl, rfl, HX4, HB4, HO4, HLS⟩ := hrel
        have cx4 := (HX4.out.cell 0).trans (show _ = some (.slice A n c) from rfl)
        by_cases hlt : j < n
        · obtain ⟨b, o, x, hA, hb, hx, hc, hin, hok⟩ := HL.out.at_ (i := j) hlt
          simp only at hA
          subst hA
          obtain ⟨m, e, hm2, hE, hfj⟩ := HFS.out j hlt
          have hmx : m = x.1 := by have := nodesOf_at hx; rw [hm2] at this; exact Option.some.inj this
          subst hmx
          have HBD0 := Lib.hid (fun bd hbd => bound_any wo hi (some ⟨b, o, none⟩) n c l (HL.out.below (HB4.out.mono hh)) (Nat.le_trans hh HB4.out.size) HF.out.oneUp j x.1.text e hE hlt bd hbd)
          have hNA : nameAt (nodesOf l) j = x.1.text.data.toList := by unfold nameAt; rw [hm2]; rfl
          have HC := hc.below HB4.out (show b < w.heap.size by omega)
          have q0 := HC.c0
          have q1 := HC.c1
          obtain ⟨⟨kd, T, nn, ks⟩, ⟨A', n', c'⟩⟩ := x
          simp only at q0 q1 hfj hNA HBD0
          obtain ⟨S, rfl⟩ : ∃ S : Bys, T = ⟨S.toArray⟩ := ⟨T.data.toList, by simp⟩
          have HNJ : Hid (nameAt (nodesOf l) j = S) := Lib.hid (by rw [hNA])
          obtain ⟨bd, hbd⟩ : ∃ bd, e.contains S = bd := ⟨_, rfl⟩
          have hSS : (⟨S.toArray⟩ : ByteArray).data.toList = S := by simp
          have HBD := Lib.hid (HBD0.out bd (Lib.hid (by rw [hSS]; exact hbd.symm)))
          have HFJ : Hid (fs[j]? = some (kd == 7 && !bd)) := Lib.hid (by rw [hfj, hSS, hbd])
          clear hc HC hin hok hx hb hm2 hE hfj hNA HBD0 hbd hSS
          have hg0 : (0 : Int) ≤ (j : Int) := by omega
          by_cases h7 : kd = 7
          · subst h7
            cases hb2 : bd with
            | true =>
              have HNX : Hid (LeastN (lastOf U k) (freeTo (nodesOf l) fs (j + 1)) acc) := Lib.hid (by rw [freeTo_no (by rw [HFJ.out, hb2]; simp)]; exact HLS.out)
              subst hb2
              clear HFJ
              cases acc with
              | none =>
                try simp only [leastS_none, leastS_some]
                go_wp2_with (go_at_call 24; refine HBD.out.mono ?_; rintro e w5 ⟨rfl, hb5⟩; have HX5 := Lib.hid (HX4.out.after hb5); have HB5 := Lib.hid (HB4.out.trans (hb5.mono HB4.out.size)); have HO5 := Lib.hid (HO4.out.after hb5); clear hb5)
                go_roundw
                case rel => exact ⟨j + 1, none, by omega, rfl, rfl, by go_num, HX5, HB5, HO5, Lib.hid HNX.out⟩
                case measure => (simp [intOf]; try omega)
              | some x =>
                try simp only [leastS_none, leastS_some]
                go_wp2_with (go_at_call 24; refine HBD.out.mono ?_; rintro e w5 ⟨rfl, hb5⟩; have HX5 := Lib.hid (HX4.out.after hb5); have HB5 := Lib.hid (HB4.out.trans (hb5.mono HB4.out.size)); have HO5 := Lib.hid (HO4.out.after hb5); clear hb5)
                go_roundw
                case rel => exact ⟨j + 1, some x, by omega, rfl, rfl, by go_num, HX5, HB5, HO5, Lib.hid HNX.out⟩
                case measure => (simp [intOf]; try omega)
            | false =>
              have HFT : Hid (freeTo (nodesOf l) fs (j + 1) = freeTo (nodesOf l) fs j ++ [S]) := Lib.hid (by rw [freeTo_yes (by rw [HFJ.out, hb2]; simp)]; rw [HNJ.out])
              subst hb2
              clear HFJ
              rcases Nat.eq_zero_or_pos k with hk0 | hk0
              · subst hk0
                have HAB : Hid (above (lastOf U 0) S) := Lib.hid (fun t ht => by cases ht)
                cases acc with
                | none =>
                  try simp only [leastS_none]
                  have HNX : Hid (LeastN (lastOf U 0) (freeTo (nodesOf l) fs (j + 1)) (some S)) := Lib.hid (by have := least_more HLS.out S; rw [pick_yes HAB.out (fun t ht => by cases ht)] at this; rw [HFT.out]; exact this)
                  go_wp2_with (go_at_call 24; refine HBD.out.mono ?_; rintro e w5 ⟨rfl, hb5⟩; have HX5 := Lib.hid (HX4.out.after hb5); have HB5 := Lib.hid (HB4.out.trans (hb5.mono HB4.out.size)); have HO5 := Lib.hid (HO4.out.after hb5); clear hb5)
                  go_roundw
                  case rel => exact ⟨j + 1, some S, by omega, rfl, rfl, by go_num, HX5, HB5, HO5, Lib.hid HNX.out⟩
                  case measure => (simp [intOf]; try omega)
                | some x =>
                  try simp only [leastS_some]
                  cases hlx : Op.bytesLess S x with
                  | true =>
                    have HNX : Hid (LeastN (lastOf U 0) (freeTo (nodesOf l) fs (j + 1)) (some S)) := Lib.hid (by have := least_more HLS.out S; rw [pick_yes HAB.out (fun t ht => by injection ht with ht; subst ht; exact less_yes hlx)] at this; rw [HFT.out]; exact this)
                    go_wp2_with (go_at_call 24; refine HBD.out.mono ?_; rintro e w5 ⟨rfl, hb5⟩; have HX5 := Lib.hid (HX4.out.after hb5); have HB5 := Lib.hid (HB4.out.trans (hb5.mono HB4.out.size)); have HO5 := Lib.hid (HO4.out.after hb5); clear hb5)
                    go_roundw
                    case rel => exact ⟨j + 1, some S, by omega, rfl, rfl, by go_num, HX5, HB5, HO5, Lib.hid HNX.out⟩
                    case measure => (simp [intOf]; try omega)
                  | false =>
                    have HNX : Hid (LeastN (lastOf U 0) (freeTo (nodesOf l) fs (j + 1)) (some x)) := Lib.hid (by have := least_more HLS.out S; rw [pick_no (fun h => less_no hlx (h.2 x rfl))] at this; rw [HFT.out]; exact this)
                    go_wp2_with (go_at_call 24; refine HBD.out.mono ?_; rintro e w5 ⟨rfl, hb5⟩; have HX5 := Lib.hid (HX4.out.after hb5); have HB5 := Lib.hid (HB4.out.trans (hb5.mono HB4.out.size)); have HO5 := Lib.hid (HO4.out.after hb5); clear hb5)
                    go_roundw
                    case rel => exact ⟨j + 1, some x, by omega, rfl, rfl, by go_num, HX5, HB5, HO5, Lib.hid HNX.out⟩
                    case measure => (simp [intOf]; try omega)
              · obtain ⟨k, rfl⟩ : ∃ m, k = m + 1 := ⟨k - 1, by omega⟩
                obtain ⟨y, hy⟩ : ∃ y, U[k]? = some y := ⟨U[k]'(by omega), List.getElem?_eq_getElem _⟩
                have HY : Hid ((U.take (k + 1))[k]? = some y) := Lib.hid (by rw [List.getElem?_take, if_pos (by omega)]; exact hy)
                have HKL : Hid ((U.take (k + 1)).length = k + 1) := Lib.hid (by rw [List.length_take]; omega)
                obtain ⟨g, rfl⟩ := own_someS HO4.out (by omega)
                have hlast : lastOf U (k + 1) = some y := by unfold lastOf; rw [if_neg (by omega), Nat.add_sub_cancel]; exact hy
                have e1 : ((k + 1 : Nat) : Int) - 1 = (k : Int) := by omega
                clear hy
                cases hly : Op.bytesLess S y with
                | true =>
                  have HNX : Hid (LeastN (lastOf U (k + 1)) (freeTo (nodesOf l) fs (j + 1)) acc) := Lib.hid (by have := least_more HLS.out S; rw [pick_no (fun h => bys_irrefl _ (bys_trans (h.1 y hlast) (less_yes hly)))] at this; rw [HFT.out]; exact this)
                  clear hlast
                  cases acc with
                  | none =>
                    try simp only [leastS_none, leastS_some]
                    go_wp2_with (go_at_call 24; refine HBD.out.mono ?_; rintro e w5 ⟨rfl, hb5⟩; have HX5 := Lib.hid (HX4.out.after hb5); have HB5 := Lib.hid (HB4.out.trans (hb5.mono HB4.out.size)); have HO5 := Lib.hid (HO4.out.after hb5); have cl := own_atS HO5.out HKL.out HY.out; clear hb5)
                    go_roundw
                    case rel => exact ⟨j + 1, none, by omega, rfl, rfl, by go_num, HX5, HB5, HO5, Lib.hid HNX.out⟩
                    case measure => (simp [intOf]; try omega)
                  | some x =>
                    try simp only [leastS_none, leastS_some]
                    go_wp2_with (go_at_call 24; refine HBD.out.mono ?_; rintro e w5 ⟨rfl, hb5⟩; have HX5 := Lib.hid (HX4.out.after hb5); have HB5 := Lib.hid (HB4.out.trans (hb5.mono HB4.out.size)); have HO5 := Lib.hid (HO4.out.after hb5); have cl := own_atS HO5.out HKL.out HY.out; clear hb5)
                    go_roundw
                    case rel => exact ⟨j + 1, some x, by omega, rfl, rfl, by go_num, HX5, HB5, HO5, Lib.hid HNX.out⟩
                    case measure => (simp [intOf]; try omega)
                | false =>
                  cases hey : (S == y) with
                  | true =>
                    have HNX : Hid (LeastN (lastOf U (k + 1)) (freeTo (nodesOf l) fs (j + 1)) acc) := Lib.hid (by have := least_more HLS.out S; rw [pick_no (fun h => bys_irrefl y (by have h1 := h.1 y hlast; rw [eq_of_beq hey] at h1; exact h1))] at this; rw [HFT.out]; exact this)
                    clear hlast
                    cases acc with
                    | none =>
                      try simp only [leastS_none, leastS_some]
                      go_wp2_with (go_at_call 24; refine HBD.out.mono ?_; rintro e w5 ⟨rfl, hb5⟩; have HX5 := Lib.hid (HX4.out.after hb5); have HB5 := Lib.hid (HB4.out.trans (hb5.mono HB4.out.size)); have HO5 := Lib.hid (HO4.out.after hb5); have cl := own_atS HO5.out HKL.out HY.out; clear hb5)
                      go_roundw
                      case rel => exact ⟨j + 1, none, by omega, rfl, rfl, by go_num, HX5, HB5, HO5, Lib.hid HNX.out⟩
                      case measure => (simp [intOf]; try omega)
                    | some x =>
                      try simp only [leastS_none, leastS_some]
                      go_wp2_with (go_at_call 24; refine HBD.out.mono ?_; rintro e w5 ⟨rfl, hb5⟩; have HX5 := Lib.hid (HX4.out.after hb5); have HB5 := Lib.hid (HB4.out.trans (hb5.mono HB4.out.size)); have HO5 := Lib.hid (HO4.out.after hb5); have cl := own_atS HO5.out HKL.out HY.out; clear hb5)
                      go_roundw
                      case rel => exact ⟨j + 1, some x, by omega, rfl, rfl, by go_num, HX5, HB5, HO5, Lib.hid HNX.out⟩
                      case measure => (simp [intOf]; try omega)
                  | false =>
                    have HAB : Hid (above (lastOf U (k + 1)) S) := Lib.hid (fun t ht => by rw [hlast] at ht; injection ht with ht; subst ht; exact less_other hly hey)
                    clear hlast
                    cases acc with
                    | none =>
                      try simp only [leastS_none]
                      have HNX : Hid (LeastN (lastOf U (k + 1)) (freeTo (nodesOf l) fs (j + 1)) (some S)) := Lib.hid (by have := least_more HLS.out S; rw [pick_yes HAB.out (fun t ht => by cases ht)] at this; rw [HFT.out]; exact this)
                      go_wp2_with (go_at_call 24; refine HBD.out.mono ?_; rintro e w5 ⟨rfl, hb5⟩; have HX5 := Lib.hid (HX4.out.after hb5); have HB5 := Lib.hid (HB4.out.trans (hb5.mono HB4.out.size)); have HO5 := Lib.hid (HO4.out.after hb5); have cl := own_atS HO5.out HKL.out HY.out; clear hb5)
                      go_roundw
                      case rel => exact ⟨j + 1, some S, by omega, rfl, rfl, by go_num, HX5, HB5, HO5, Lib.hid HNX.out⟩
                      case measure => (simp [intOf]; try omega)
                    | some x =>
                      try simp only [leastS_some]
                      cases hlx : Op.bytesLess S x with
                      | true =>
                        have HNX : Hid (LeastN (lastOf U (k + 1)) (freeTo (nodesOf l) fs (j + 1)) (some S)) := Lib.hid (by have := least_more HLS.out S; rw [pick_yes HAB.out (fun t ht => by injection ht with ht; subst ht; exact less_yes hlx)] at this; rw [HFT.out]; exact this)
                        go_wp2_with (go_at_call 24; refine HBD.out.mono ?_; rintro e w5 ⟨rfl, hb5⟩; have HX5 := Lib.hid (HX4.out.after hb5); have HB5 := Lib.hid (HB4.out.trans (hb5.mono HB4.out.size)); have HO5 := Lib.hid (HO4.out.after hb5); have cl := own_atS HO5.out HKL.out HY.out; clear hb5)
                        go_roundw
                        case rel => exact ⟨j + 1, some S, by omega, rfl, rfl, by go_num, HX5, HB5, HO5, Lib.hid HNX.out⟩
                        case measure => (simp [intOf]; try omega)
                      | false =>
                        have HNX : Hid (LeastN (lastOf U (k + 1)) (freeTo (nodesOf l) fs (j + 1)) (some x)) := Lib.hid (by have := least_more HLS.out S; rw [pick_no (fun h => less_no hlx (h.2 x rfl))] at this; rw [HFT.out]; exact this)
                        go_wp2_with (go_at_call 24; refine HBD.out.mono ?_; rintro e w5 ⟨rfl, hb5⟩; have HX5 := Lib.hid (HX4.out.after hb5); have HB5 := Lib.hid (HB4.out.trans (hb5.mono HB4.out.size)); have HO5 := Lib.hid (HO4.out.after hb5); have cl := own_atS HO5.out HKL.out HY.out; clear hb5)
                        go_roundw
                        case rel => exact ⟨j + 1, some x, by omega, rfl, rfl, by go_num, HX5, HB5, HO5, Lib.hid HNX.out⟩
                        case measure => (simp [intOf]; try omega)
          · have b7 : (kd == 7) = false := by rw [beq_eq_false_iff_ne]; exact h7
            have HNX : Hid (LeastN (lastOf U k) (freeTo (nodesOf l) fs (j + 1)) acc) := Lib.hid (by rw [freeTo_no (by rw [HFJ.out, b7]; simp)]; exact HLS.out)
            clear h7 HFJ
            cases acc with
            | none =>
              try simp only [leastS_none, leastS_some]
              go_wp2_with fail
              go_roundw
              case rel => exact ⟨j + 1, none, by omega, rfl, rfl, by go_num, HX4, HB4, HO4, Lib.hid HNX.out⟩
              case measure => (simp [intOf]; try omega)
            | some x =>
              try simp only [leastS_none, leastS_some]
              go_wp2_with fail
              go_roundw
              case rel => exact ⟨j + 1, some x, by omega, rfl, rfl, by go_num, HX4, HB4, HO4, Lib.hid HNX.out⟩
              case measure => (simp [intOf]; try omega)
        · obtain rfl : j = n := by omega
          have HAC : Hid (acc = U[k]?) := Lib.hid (least_is HUP.out HMM.out hk HLS.out)
          cases acc with
          | none =>
            have HTK : Hid (U.take k = U) := Lib.hid (by have := HAC.out.symm; rw [List.getElem?_eq_none_iff] at this; exact List.take_of_length_le this)
            go_wp2_with fail
            go_ret2
            exact freeIs HE.out (own_mono (by have := HO4.out; rw [HTK.out] at this; exact this) (Nat.le_succ _)) HB4.out
          | some x =>
            try simp only [leastS_some]
            have hkx := HAC.out.symm
            have hkl := (List.getElem?_eq_some_iff.1 hkx).1
            have HKL : Hid ((U.take k).length = k) := Lib.hid (by rw [List.length_take]; omega)
            have HTS : Hid (U.take (k + 1) = U.take k ++ [x]) := Lib.hid (by rw [List.take_add_one, hkx]; rfl)
            have HO5 := Lib.hid (HO4.out.after (below_of_alloc (.cells #[.string ⟨x.toArray⟩] 9)))
            have HX5 := Lib.hid (HX4.out.alloc (.cells #[.string ⟨x.toArray⟩] 9))
            have HB5 := Lib.hid (below_more HB4.out (.cells #[.string ⟨x.toArray⟩] 9))
            have HR5 : Hid (Row (wo.alloc (.cells #[.string ⟨x.toArray⟩] 9)) wo.heap.size (wo.heap.size + 1) 1 (some ⟨wo.heap.size, 0, none⟩) 1 1 (encsY [x])) := Lib.hid (row_one_str (Blk.new _ _ _))
            have hgw : w.heap.size + 1 ≤ (wo.alloc (.cells #[.string ⟨x.toArray⟩] 9)).heap.size := by have := HX4.out.lt; simp; omega
            clear hkx
            go_wp2_with (at_builtin; with_reducible show wpList _ _ _ (⟨some 73, _, _, _, _, _⟩ :: _) _ _; go_must (refine app_strs (o := ⟨some 73, _, _, _, _, _⟩) rfl (.tmp 70) (.tmp 72) rfl (w.heap.size + 1) (.slice A3 k c3) k (encsY (U.take k)) rfl (OwnS.num HO5.out HKL.out) wo.heap.size (wo.heap.size + 1) (some ⟨wo.heap.size, 0, none⟩) 1 1 [x] rfl HR5.out (k + 1) rfl (by omega) hgw ?_; intro A6 c6 w6 hown hgr hbz; have HO6 : Hid (OwnS w6 (w.heap.size + 1) (.slice A6 (k + 1) c6) (U.take (k + 1))) := Lib.hid (by rw [HTS.out]; unfold OwnS; rw [List.length_append, HKL.out, List.length_singleton]; unfold encsY at hown ⊢; rw [List.map_append]; exact hown); have HX6 := Lib.hid (HX5.out.below hbz (Nat.lt_succ_self _)); have HB6 := Lib.hid (HB5.out.trans (hbz.mono (Nat.le_succ _))); clear hown hgr hbz))
            go_roundw
            case rel => exact ⟨k + 1, A6, c6, by omega, rfl, HX6, HB6, HO6⟩
            case measure => (simp [sliceLen]; try omega)
  · have HE2 : Hid (rr = ([], rightV (nodesOf l))) := Lib.hid ((freeV_bad h0).symm.trans HRR.out).symm
    have b0 : (rightV (nodesOf l) != 0) = true := by rw [bne_iff_ne]; exact h0
    generalize rightV (nodesOf l) = rv at HE2 b0 HRT
    clear h0
    go_wp2_with (go_at_call 18; refine HRT.out.mono ?_; rintro e w2 ⟨rfl, hb2⟩; have HB2 := Lib.hid (HB0.out.trans (hb2.mono HB0.out.size)); clear hb2)
    go_ret2
    exact freeIs HE2.out (ownS_nil _ _) HB2.out
end Go.Proofs.YtjlpoigcalfdlaaDoor
namespace Go.Proofs.YtjlpoigcalfdlaaDoor
open Go Go.RowKit Go.Sort
set_option linter.unusedVariables false
/-- the boxes of Same -/
structure SB2 (w : World) (A A' : Option Addr) (n c c' : Nat) (X : World) : Prop where
  bel : Below w.heap.size w X
  e : Blk X w.heap.size 24 #[.slice A n c]
  f : Blk X (w.heap.size + 1) 24 #[.slice A' n c']
theorem SB2.after {w : World} {A A' : Option Addr} {n c c' : Nat} {X X' : World} (h : SB2 w A A' n c c' X) (hb : Below X.heap.size X X') : SB2 w A A' n c c' X' := ⟨h.bel.trans (hb.mono h.bel.size), h.e.after hb, h.f.after hb⟩
theorem SB2.far {w : World} {A A' : Option Addr} {n c c' : Nat} {X : World} (h : SB2 w A A' n c c' X) {g : Nat} (hg : w.heap.size + 1 < g) (i : Nat) (u : Value) : SB2 w A A' n c c' (X.setCell ⟨g, i, none⟩ u) :=
  ⟨h.bel.setCell (p := ⟨g, i, none⟩) (by show w.heap.size ≤ g; omega) _, h.e.far (p := ⟨g, i, none⟩) (by show w.heap.size ≠ g; omega) _, h.f.far (p := ⟨g, i, none⟩) (by show w.heap.size + 1 ≠ g; omega) _⟩
end Go.Proofs.YtjlpoigcalfdlaaDoor

/-
  WALKS over package names: Unquote.
  WALKS over package sheet: number, word; strings.Cut at one byte.
  WALKS over package sheet: first, fresh, last.
-/
import Derived.Test.YtjjlofaejpnnnaaGreatDoorZL10
import Derived.WalkMore
import Derived.Lib.IndexLaws
namespace Go.Proofs.YtjjlofaejpnnnaaGreatDoor
open Go Go.RowKit
set_option linter.unusedVariables false
def Unq (w : World) (r : List UInt8 × Int × Int) (e : Ending) (w' : World) : Prop := e = .returned (.tuple #[.string ⟨r.1.toArray⟩, .int .i64 r.2.1, .int .i64 r.2.2]) ∧ Below w.heap.size w w'
theorem unq_some {s : ByteArray} {t n : Nat} {L : List UInt8} (ht : t < s.size) (hq : s[t].toNat = 34) (h : scan s (t + 1) = (some L, n)) : unq s t = (L, (n : Int), 0) := by
  unfold unq
  rw [if_neg (by omega)]
  simp only [Int.toNat_natCast]
  rw [dif_pos ht, if_pos hq, h]
theorem unq_none {s : ByteArray} {t n : Nat} (ht : t < s.size) (hq : s[t].toNat = 34) (h : scan s (t + 1) = (none, n)) : unq s t = ([], (n : Int), 10) := by
  unfold unq
  rw [if_neg (by omega)]
  simp only [Int.toNat_natCast]
  rw [dif_pos ht, if_pos hq, h]
theorem unq_fin {w w' : World} {s : ByteArray} {t n : Int} {L : List UInt8} {c : Int} (h : unq s t = (L, n, c)) (hb : Below w.heap.size w w') :
    Unq w (unq s t) (.returned (.tuple #[.string ⟨L.toArray⟩, .int .i64 n, .int .i64 c])) w' := by
  rw [h]; exact ⟨rfl, hb⟩
def UnqRel (s : ByteArray) (t : Nat) (w : World) (v i : Value) (wr : World) : Prop :=
  ∃ (k : Nat) (l : List UInt8), k ≤ s.size ∧ i = .int .i64 k ∧ ownB wr w.heap.size v l ∧ l.length ≤ k ∧ Below w.heap.size w wr ∧ scan s (t + 1) = ((scan s k).1.map (l ++ ·), (scan s k).2)
theorem enc_ofNat {b : Nat} (h : b < 256) : (UInt8.ofNat b).toNat = b := by simp; omega
set_option maxHeartbeats 400000 in
theorem unquote_in (s : ByteArray) (t : Nat) (w : World) (hs : s.size + 8 ≤ 140737488355328) (ht : t < s.size) (hq : s[t].toNat = 34) :
    Calls Tryz.prog 84 #[.string s, .int .i64 t] w (Unq w (unq s t)) := by
  have h0 : ((s[t].toNat : Int) != 34) = false := by simp [hq]
  have h1 : ((t : Int) == (s.size : Int)) = false := by rw [beq_eq_false_iff_ne]; omega
  have h2 : decide ((t : Int) < 0) = false := by simp
  have h3 : decide (s.size < t) = false := by simp; omega
  have HQ := Lib.hid hq
  clear hq
  go_enter Tryz.func84, Tryz.ntmps84
  go_wp2_with fail
  go_step3
  go_wp2_with fail
  go_step3
  go_wp2_with fail
  go_loopw [7, 8] (fun v i wr => UnqRel s t w v i wr) (fun _ i _ => s.size - (intOf i).toNat)
  case atStart => exact ⟨t + 1, [], by omega, by go_num, ownB.nil _ _, by simp, Below.refl _ _, by simp⟩
  case round =>
    obtain ⟨k, l, hk, rfl, hown, hlen, hb, hs0⟩ := hrel
    have HS := Lib.hid hs0
    clear hs0
    have hszr : w.heap.size ≤ wr.heap.size := hb.size
    by_cases hlt : k < s.size
    · by_cases c1 : s[k].toNat = 34
      · have d1 : ((s[k].toNat : Int) == 34) = true := by rw [beq_iff_eq]; omega
        have HE := Lib.hid (scan_quote hlt c1)
        clear c1
        have hcv := conv_own hown
        go_wp2_with fail
        rw [Exit.noGoto_ret]
        go_ret3
        exact unq_fin (unq_some ht HQ.out (by rw [HS.out, HE.out]; simp)) hb
      · have d1 : ((s[k].toNat : Int) == 34) = false := by rw [beq_eq_false_iff_ne]; omega
        by_cases c2 : s[k].toNat = 92
        · have d2 : ((s[k].toNat : Int) == 92) = true := by rw [beq_iff_eq]; omega
          rcases hq : stepEsc s (k + 1) with ⟨n, r⟩
          have hst : stepAt s k hlt = (1 + n, r) := by unfold stepAt; rw [if_pos c2, hq]
          have hle := stepEsc_le (by omega) hq
          have H : Hid (stepEsc s ((k : Int) + 1).toNat = (n, r)) := Lib.hid (by rw [show ((k : Int) + 1).toNat = k + 1 from by omega]; exact hq)
          have hn := hle.1
          cases r with
          | none =>
            have HE := Lib.hid (scan_stop hlt c1 hst)
            clear c1 c2 hq hst hle
            go_wp2_with (go_at_call 110; refine (escaped_any s _ n none _ (by omega) (by omega) (by unfold maxLen; omega) H.out).mono ?_; rintro e w' ⟨rfl, rfl⟩)
            rw [Exit.noGoto_ret]
            go_ret3
            exact unq_fin (unq_none ht HQ.out (by rw [HS.out, HE.out]; simp; omega)) hb
          | some b =>
            have hb256 : b < 256 := hle.2 b rfl
            have HE := Lib.hid (scan_step hlt c1 hst)
            clear c1 c2 hq hst hle
            go_wp2_with (first | (go_at_call 110; refine (escaped_any s _ n (some b) _ (by omega) (by omega) (by unfold maxLen; omega) H.out).mono ?_; rintro e w' ⟨rfl, rfl⟩) | (at_builtin; refine app_bytes rfl _ _ rfl w.heap.size _ _ rfl (hown.alloc _) ⟨wr.heap.size, 0, none⟩ 1 1 [UInt8.ofNat b] rfl rfl (cells_new wr _ _ _ (by simp [enc, enc_ofNat hb256])) (by omega) (by simp; omega) ?_; intro v2 w2 hown2 hb2))
            go_roundw
            case rel => exact ⟨k + (1 + n), l ++ [UInt8.ofNat b], by omega, by go_num, hown2, by simp; omega, (hb.alloc hszr _).trans hb2, by rw [HS.out, HE.out]; simp [Option.map_map, Function.comp_def]⟩
            case measure => simp [intOf]; omega
        · have d2 : ((s[k].toNat : Int) == 92) = false := by rw [beq_eq_false_iff_ne]; omega
          cases hn : numBQ (s[k].toNat : Int) with
          | true =>
            have hst : stepAt s k hlt = (0, none) := by unfold stepAt; rw [if_neg c2, if_pos (Or.inl hn)]
            have HE := Lib.hid (scan_stop hlt c1 hst)
            have HN := Lib.hid hn
            clear c1 c2 hst hn
            go_wp2_with (go_at_call 111; refine (numbered_yes _ _ HN.out).mono ?_; rintro e w' ⟨rfl, rfl⟩)
            rw [Exit.noGoto_ret]
            go_ret3
            exact unq_fin (unq_none ht HQ.out (by rw [HS.out, HE.out]; simp)) hb
          | false =>
            have HN := Lib.hid hn
            by_cases c3 : s[k].toNat = 10
            · have d3 : ((s[k].toNat : Int) == 10) = true := by rw [beq_iff_eq]; omega
              have hst : stepAt s k hlt = (0, none) := by unfold stepAt; rw [if_neg c2, if_pos (Or.inr c3)]
              have HE := Lib.hid (scan_stop hlt c1 hst)
              clear c1 c2 c3 hst hn
              go_wp2_with (go_at_call 111; refine (numbered_no _ _ HN.out).mono ?_; rintro e w' ⟨rfl, rfl⟩)
              rw [Exit.noGoto_ret]
              go_ret3
              exact unq_fin (unq_none ht HQ.out (by rw [HS.out, HE.out]; simp)) hb
            · have d3 : ((s[k].toNat : Int) == 10) = false := by rw [beq_eq_false_iff_ne]; omega
              have hst : stepAt s k hlt = (1, some s[k].toNat) := by unfold stepAt; rw [if_neg c2, if_neg (by rw [hn]; simp [c3])]
              have HE := Lib.hid (scan_step hlt c1 hst)
              clear c1 c2 c3 hst hn
              go_wp2_with (first | (go_at_call 111; refine (numbered_no _ _ HN.out).mono ?_; rintro e w' ⟨rfl, rfl⟩) | (at_builtin; refine app_bytes rfl _ _ rfl w.heap.size _ _ rfl (hown.alloc _) ⟨wr.heap.size, 0, none⟩ 1 1 [s[k]] rfl rfl (cells_new wr _ _ _ rfl) (by omega) (by simp; omega) ?_; intro v2 w2 hown2 hb2))
              go_roundw
              case rel => exact ⟨k + 1, l ++ [s[k]], by omega, by go_num, hown2, by simp; omega, (hb.alloc hszr _).trans hb2, by rw [HS.out, HE.out]; simp [Option.map_map, Function.comp_def]⟩
              case measure => simp [intOf]; omega
    · have HE := Lib.hid (scan_end hlt)
      go_wp2_with fail
      rw [Exit.noGoto_ret]
      go_ret3
      exact unq_fin (unq_none ht HQ.out (by rw [HS.out, HE.out]; rfl)) hb
set_option maxHeartbeats 400000 in
theorem unquote_any (s : ByteArray) (t : Int) (w : World) (hs : s.size + 8 ≤ 140737488355328) :
    Calls Tryz.prog 84 #[.string s, .int .i64 t] w (Unq w (unq s t)) := by
  by_cases h0 : t < 0 ∨ (s.size : Int) < t
  · have hu : unq s t = ([], 0, 2) := by unfold unq; rw [if_pos h0]
    have HU := Lib.hid hu
    clear hu
    rcases h0 with h0 | h0
    · go_enter Tryz.func84, Tryz.ntmps84
      go_wp2_with fail
      go_step3
      go_wp2_with fail
      rw [Exit.noGoto_ret]
      go_ret3
      exact unq_fin HU.out (Below.refl _ _)
    · have h1 : ¬ t < 0 := by omega
      go_enter Tryz.func84, Tryz.ntmps84
      go_wp2_with fail
      go_step3
      go_wp2_with fail
      rw [Exit.noGoto_ret]
      go_ret3
      exact unq_fin HU.out (Below.refl _ _)
  · obtain ⟨t, rfl⟩ := Int.eq_ofNat_of_zero_le (show 0 ≤ t by omega)
    by_cases ht : t < s.size
    · by_cases hq : s[t].toNat = 34
      · exact unquote_in s t w hs ht hq
      · have hu : unq s t = ([], (t : Int), 10) := by
          unfold unq; rw [if_neg h0]; simp only [Int.toNat_natCast]; rw [dif_pos ht, if_neg hq]
        have HU := Lib.hid hu
        have h4 : ((s[t].toNat : Int) != 34) = true := by rw [bne_iff_ne]; omega
        have h1 : ((t : Int) == (s.size : Int)) = false := by rw [beq_eq_false_iff_ne]; omega
        have h2 : decide ((t : Int) < 0) = false := by simp
        have h3 : decide (s.size < t) = false := by simp; omega
        clear hu hq h0
        go_enter Tryz.func84, Tryz.ntmps84
        go_wp2_with fail
        go_step3
        go_wp2_with fail
        rw [Exit.noGoto_ret]
        go_ret3
        exact unq_fin HU.out (Below.refl _ _)
    · have hu : unq s t = ([], (t : Int), 10) := by
        unfold unq; rw [if_neg h0]; simp only [Int.toNat_natCast]; rw [dif_neg ht]
      have HU := Lib.hid hu
      have h1 : ((t : Int) == (s.size : Int)) = true := by rw [beq_iff_eq]; omega
      have h2 : decide ((t : Int) < 0) = false := by simp
      have h3 : decide (s.size < t) = false := by simp; omega
      clear hu h0
      go_enter Tryz.func84, Tryz.ntmps84
      go_wp2_with fail
      go_step3
      go_wp2_with fail
      rw [Exit.noGoto_ret]
      go_ret3
      exact unq_fin HU.out (Below.refl _ _)
end Go.Proofs.YtjjlofaejpnnnaaGreatDoor
namespace Go.Proofs.YtjjlofaejpnnnaaGreatDoor
open Go Go.RowKit
set_option linter.unusedVariables false
theorem index_cut (c : UInt8) : ∀ l : List UInt8, Lib.indexByte l c = if l.contains c = true then ((cutA c l).length : Int) else -1
  | [] => rfl
  | b :: l => by
    have ih := index_cut c l
    unfold Lib.indexByte
    by_cases hb : b = c
    · subst hb
      have e : cutA b (b :: l) = [] := by unfold cutA; rw [List.takeWhile_cons]; simp
      rw [e]
      simp
    · have hbc : (b == c) = false := by simpa using hb
      have hcb : (c == b) = false := by simpa using fun e : c = b => hb e.symm
      have e : cutA c (b :: l) = b :: cutA c l := by unfold cutA; rw [List.takeWhile_cons, if_pos (by simpa using hb)]
      rw [hbc, e, ih, List.contains_cons, hcb, Bool.false_or]
      by_cases hc : l.contains c = true
      · rw [if_pos hc, if_pos hc, List.length_cons]
        have : (((cutA c l).length : Int) == -1) = false := by rw [beq_eq_false_iff_ne]; omega
        rw [this]
        simp
      · rw [if_neg hc, if_neg hc]
        simp
theorem cutA_take (c : UInt8) (l : List UInt8) : cutA c l = l.take (cutA c l).length := List.prefix_iff_eq_take.1 (List.takeWhile_prefix _)
theorem cutA_lt {c : UInt8} {l : List UInt8} (h : l.contains c = true) : (cutA c l).length < l.length := by
  have hm : c ∈ l := by simpa using h
  rcases Nat.lt_or_ge (cutA c l).length l.length with hl | hl
  · exact hl
  · exfalso
    have e := cutA_take c l
    rw [List.take_of_length_le hl] at e
    rw [← e] at hm
    have := takeWhile_mem hm
    simp at this
theorem cut_no {c : UInt8} {l : List UInt8} (h : ¬ l.contains c = true) : cutA c l = l ∧ cutB c l = [] := cut_all fun x hx e => h (by subst e; simpa using hx)
/-- is the byte there? -/
def hasS (l : List UInt8) (c : UInt8) : Bool := l.contains c
/-- cut at one byte -/
def CutP (c : UInt8) (s : ByteArray) (w : World) (e : Ending) (w' : World) : Prop :=
  ∃ a b : ByteArray, e = .returned (.tuple #[.string a, .string b, .bool (hasS s.data.toList c)]) ∧ a.data.toList = cutA c s.data.toList ∧ b.data.toList = cutB c s.data.toList ∧ a.size ≤ s.size ∧ b.size ≤ s.size ∧ Below w.heap.size w w'
theorem sz_of {a : ByteArray} {l : List UInt8} (h : a.data.toList = l) : a.size = l.length := by rw [← h, toList_eq]
theorem cutA_le (c : UInt8) (l : List UInt8) : (cutA c l).length ≤ l.length := by rw [cutA_take]; exact List.length_take_le' _ _
theorem cutB_le (c : UInt8) (l : List UInt8) : (cutB c l).length ≤ l.length := by unfold cutB; rw [List.length_drop, List.length_drop]; omega
theorem cutP {c : UInt8} {s a b : ByteArray} {w w' : World} {x : Bool} (hx : x = hasS s.data.toList c) (ha : a.data.toList = cutA c s.data.toList) (hb : b.data.toList = cutB c s.data.toList) (h : Below w.heap.size w w') : CutP c s w (.returned (.tuple #[.string a, .string b, .bool x])) w' :=
  ⟨a, b, by rw [hx], ha, hb, by rw [sz_of ha, ← toList_eq]; exact cutA_le _ _, by rw [sz_of hb, ← toList_eq]; exact cutB_le _ _, h⟩
set_option maxHeartbeats 1600000 in
theorem lcut_any (s : ByteArray) (c : UInt8) (w : World) (hs : s.size ≤ 281474976710656) : Calls Tryz.prog 40 #[.string s, .string ⟨#[c]⟩] w (CutP c s w) := by
  have HI := Lib.hid (Tryz.stringslite_Index_one s c w)
  rw [index_cut] at HI
  by_cases hc : s.data.toList.contains c = true
  · rw [if_pos hc] at HI
    have hlt := cutA_lt hc
    rw [toList_eq] at hlt
    have HA := Lib.hid (cutA_take c s.data.toList)
    have HC := Lib.hid hc
    obtain ⟨k, hk⟩ : ∃ k, (cutA c s.data.toList).length = k := ⟨_, rfl⟩
    have HK := Lib.hid hk
    rw [hk] at HI hlt
    clear hc hk
    have h0 : (0 : Int) ≤ (k : Int) := by omega
    have hw1 : IntKind.i64.wrap ((k : Int) + 1) = (k : Int) + 1 := IntWalk.i64_in _ (by omega)
    have hb1 : (0 : Int) ≤ (k : Int) ∧ (k : Int) ≤ (s.size : Int) := by omega
    have hb2 : (0 : Int) ≤ (k : Int) + 1 ∧ (k : Int) + 1 ≤ (s.size : Int) := by omega
    go_enter Tryz.func40, Tryz.ntmps40
    go_wp2_with (go_at_call 75; refine HI.out.mono ?_; rintro e w' ⟨rfl, rfl⟩)
    go_quiet (fail)
    go_wp2_with fail
    go_ret3
    refine cutP HC.out.symm ?_ ?_ ?_
    · rw [HA.out, HK.out, Lib.extract_data]; simp
    · unfold cutB
      rw [HK.out, List.drop_drop, Lib.extract_data]
      rw [List.take_of_length_le (by rw [List.length_drop, toList_eq]; omega)]
    · exact below_drewN (Below.refl _ _) _
  · rw [if_neg hc] at HI
    have HC := Lib.hid (cut_no hc)
    have HF : Hid (s.data.toList.contains c = false) := Lib.hid (by simpa using hc)
    clear hc
    go_enter Tryz.func40, Tryz.ntmps40
    go_wp2_with (go_at_call 75; refine HI.out.mono ?_; rintro e w' ⟨rfl, rfl⟩)
    go_ret3
    exact cutP HF.out.symm HC.out.1.symm HC.out.2.symm (Below.refl _ _)
theorem cut_any (s : ByteArray) (c : UInt8) (w : World) (hs : s.size ≤ 281474976710656) : Calls Tryz.prog 18 #[.string s, .string ⟨#[c]⟩] w (CutP c s w) := by
  have HI := Lib.hid (lcut_any s c w hs)
  go_enter Tryz.func18, Tryz.ntmps18
  go_wp2_with (go_at_call 40; refine HI.out.mono ?_; rintro e w' ⟨a, b, rfl, ha, hb, h1, h2, h3⟩)
  go_ret3
  exact ⟨a, b, rfl, ha, hb, h1, h2, h3⟩
/-- a number, or none -/
def NumP (w : World) (r : Option Int) (e : Ending) (w' : World) : Prop := e = .returned (.tuple #[.int .i64 (r.getD 0), .bool r.isSome]) ∧ Below w.heap.size w w'
theorem numP {w w' : World} {r : Option Int} {n : Int} {b : Bool} (hn : n = r.getD 0) (hb : b = r.isSome) (h : Below w.heap.size w w') : NumP w r (.returned (.tuple #[.int .i64 n, .bool b])) w' := by subst hn hb; exact ⟨rfl, h⟩
theorem int_none {s : ByteArray} {w : World} (hs : s.size ≤ 281474976710656) (hE : Env w) (h : intT s.data.toList = none) : Calls Tryz.prog 39 #[.string s] w fun e w' => e = .returned (.tuple #[.int .i64 0, .int .i64 2]) ∧ Below w.heap.size w w' := by
  have := int_any s w hs hE
  rw [h] at this
  exact this
theorem int_some {s : ByteArray} {w : World} {n : Int} (hs : s.size ≤ 281474976710656) (hE : Env w) (h : intT s.data.toList = some n) : Calls Tryz.prog 39 #[.string s] w fun e w' => e = .returned (.tuple #[.int .i64 n, .int .i64 0]) ∧ Below w.heap.size w w' := by
  have := int_any s w hs hE
  rw [h] at this
  exact this
set_option maxHeartbeats 800000 in
theorem number_any (s : ByteArray) (most : Int) (w : World) (hs : s.size ≤ 281474976710656) (hE : Env w) : Calls Tryz.prog 76 #[.string s, .int .i64 most] w (NumP w (numberV s.data.toList (most + 1))) := by
  cases hi : intT s.data.toList with
  | none =>
    have HI := Lib.hid (int_none hs hE hi)
    have HR : Hid (numberV s.data.toList (most + 1) = none) := Lib.hid (by unfold numberV; rw [hi])
    clear hi hE
    rw [HR.out]
    go_enter Tryz.func76, Tryz.ntmps76
    go_wp2_with (go_at_call 39; refine HI.out.mono ?_; rintro e w' ⟨rfl, hb⟩)
    go_ret2
    exact numP rfl rfl hb
  | some n =>
    have HI := Lib.hid (int_some hs hE hi)
    by_cases h1 : n < 1
    · have HR : Hid (numberV s.data.toList (most + 1) = none) := Lib.hid (by unfold numberV; rw [hi]; simp only; rw [if_neg (by omega)])
      clear hi hE
      rw [HR.out]
      go_enter Tryz.func76, Tryz.ntmps76
      go_wp2_with (go_at_call 39; refine HI.out.mono ?_; rintro e w' ⟨rfl, hb⟩)
      go_ret2
      exact numP rfl rfl hb
    · by_cases h2 : most < n
      · have HR : Hid (numberV s.data.toList (most + 1) = none) := Lib.hid (by unfold numberV; rw [hi]; simp only; rw [if_neg (by omega)])
        clear hi hE
        rw [HR.out]
        go_enter Tryz.func76, Tryz.ntmps76
        go_wp2_with (go_at_call 39; refine HI.out.mono ?_; rintro e w' ⟨rfl, hb⟩)
        go_ret2
        exact numP rfl rfl hb
      · have HR : Hid (numberV s.data.toList (most + 1) = some n) := Lib.hid (by unfold numberV; rw [hi]; simp only; rw [if_pos (by omega)])
        clear hi hE
        rw [HR.out]
        go_enter Tryz.func76, Tryz.ntmps76
        go_wp2_with (go_at_call 39; refine HI.out.mono ?_; rintro e w' ⟨rfl, hb⟩)
        go_ret2
        exact numP rfl rfl hb
/-- a word in memory of its own, or none -/
def WordP (w : World) (s : ByteArray) (e : Ending) (w' : World) : Prop := e = .returned (.tuple #[.string (if wordL s.data.toList = true then s else ⟨#[]⟩), .bool (wordL s.data.toList)]) ∧ Below w.heap.size w w'
theorem wpList_convS {w w' : World} {ops : Array Oper} {rest : List Oper} {o : Oper} {a : Act} {Q : Exit → Act → World → Prop} (hgd : o.guard = none) {src dst : TypeId} (x : Operand) (ho : o.op = .convert src dst x)
    {v v' : Value} (hx : a.eval x = v) (hr : (convert src dst v).run Tryz.prog w = .ok v' w') (h : wpList Tryz.prog ops Q rest (a.put o.dst v') w') : wpList Tryz.prog ops Q (o :: rest) a w :=
  wpList_plain hgd fun K hK => by
    unfold Oper.wp execOp
    simp only [ho, hx, Sem.run_bind, Sem.run_pure, Result.andThen_ok, hr]
    exact hK _ _ h
theorem ba_listS (s : ByteArray) : (⟨s.data.toList.toArray⟩ : ByteArray) = s := by apply ByteArray.ext; simp
set_option maxHeartbeats 800000 in
theorem wordS_any (s : ByteArray) (w : World) (hs : s.size ≤ 140737488355328) : Calls Tryz.prog 83 #[.string s] w (WordP w s) := by
  have HW := Lib.hid (word_any s w (by unfold maxLen; omega))
  unfold wordB at HW
  unfold WordP
  cases hb : wordL s.data.toList with
  | false =>
    rw [hb] at HW
    clear hb
    go_enter Tryz.func83, Tryz.ntmps83
    go_wp2_with (go_at_call 64; refine HW.out.mono ?_; rintro e w' ⟨rfl, rfl⟩)
    go_ret2
    exact ⟨rfl, Below.refl _ _⟩
  | true =>
    rw [hb] at HW
    clear hb
    rw [if_pos rfl]
    obtain ⟨v, w1, hr1, ho1, hb1⟩ := conv_bytes w s hs
    have hr2 := conv_F ho1
    rw [ba_listS] at hr2
    have HR1 := Lib.hid hr1
    have HR2 := Lib.hid hr2
    have HB1 := Lib.hid hb1
    clear hr1 hr2 ho1 hb1 hs
    go_enter Tryz.func83, Tryz.ntmps83
    go_wp2_with (first | (go_at_call 64; refine HW.out.mono ?_; rintro e w' ⟨rfl, rfl⟩) | ((with_reducible show wpList _ _ _ (Oper.mk _ (Op.convert 9 63 _) _ _ _ _ :: _) _ _); go_must (refine wpList_convS rfl _ rfl rfl HR1.out ?_)) | ((with_reducible show wpList _ _ _ (Oper.mk _ (Op.convert 63 9 _) _ _ _ _ :: _) _ _); go_must (refine wpList_convS rfl _ rfl rfl HR2.out ?_)))
    go_ret2
    exact ⟨rfl, HB1.out⟩
end Go.Proofs.YtjjlofaejpnnnaaGreatDoor
namespace Go.Proofs.YtjjlofaejpnnnaaGreatDoor
open Go Go.RowKit
set_option linter.unusedVariables false
/-- a line is read: what there is then, or nothing -/
def LineQ (B0 B gr gm k : Nat) (r : Option RS) (w : World) (e : Ending) (w' : World) : Prop :=
  e = .returned (.bool r.isSome) ∧ Below B0 w w' ∧ ∀ st', r = some st' → ∃ v vw l, RIn B gr gm (k + 1) v vw l st' w'
theorem lineQ_no {B0 B gr gm k : Nat} {r : Option RS} {w w' : World} (hr : r = none) (h : Below B0 w w') : LineQ B0 B gr gm k r w (.returned (.bool false)) w' := by
  subst hr
  exact ⟨rfl, h, fun st' e => by cases e⟩
theorem lineQ_yes {B0 B gr gm k : Nat} {r : Option RS} {st : RS} {v vw : Value} {l : List (Nd × Leaf)} {w w' : World} (hr : r = some st) (h : Below B0 w w') (hR : RIn B gr gm (k + 1) v vw l st w') : LineQ B0 B gr gm k r w (.returned (.bool true)) w' := by
  subst hr
  exact ⟨rfl, h, fun st' e => by cases e; exact ⟨_, _, _, hR⟩⟩
theorem prefix_no {s p : List UInt8} (h : s.take p.length ≠ p) : Lib.hasPrefix s p = false := by
  unfold Lib.hasPrefix
  cases hb : p.isPrefixOf s with
  | false => rfl
  | true =>
    exfalso
    rw [List.isPrefixOf_iff_prefix] at hb
    exact h (List.prefix_iff_eq_take.1 hb).symm
theorem prefix_yes {s p : List UInt8} (h : s.take p.length = p) : Lib.hasPrefix s p = true ∧ Lib.trimPrefix s p = s.drop p.length := by
  have hb : p.isPrefixOf s = true := by
    rw [List.isPrefixOf_iff_prefix]
    exact List.prefix_iff_eq_take.2 h.symm
  refine ⟨hb, ?_⟩
  unfold Lib.trimPrefix Lib.hasPrefix
  rw [if_pos hb]
/-- what is cut off ahead -/
def PreP (s p : ByteArray) (w : World) (e : Ending) (w' : World) : Prop :=
  ∃ r : ByteArray, e = .returned (.tuple #[.string r, .bool (decide (s.data.toList.take p.size = p.data.toList))]) ∧ (s.data.toList.take p.size = p.data.toList → r.data.toList = s.data.toList.drop p.size) ∧ r.size ≤ s.size ∧ w = w'
theorem pre_any (s p : ByteArray) (w : World) : Calls Tryz.prog 43 #[.string s, .string p] w (PreP s p w) := by
  refine (Tryz.strings_CutPrefix s p w).mono ?_
  rintro e w' ⟨rfl, rfl⟩
  have hp : p.data.toList.length = p.size := toList_eq p
  by_cases h : s.data.toList.take p.size = p.data.toList
  · obtain ⟨h1, h2⟩ := prefix_yes (s := s.data.toList) (p := p.data.toList) (by rw [hp]; exact h)
    refine ⟨_, by rw [h1, decide_eq_true h], fun _ => by rw [h2, hp], ?_, rfl⟩
    rw [h2]
    show (List.drop _ _).toArray.size ≤ _
    rw [List.size_toArray, List.length_drop, toList_eq]
    omega
  · have h1 := prefix_no (s := s.data.toList) (p := p.data.toList) (by rw [hp]; exact h)
    refine ⟨_, by rw [h1, decide_eq_false h], fun hh => absurd hh h, ?_, rfl⟩
    unfold Lib.trimPrefix
    rw [h1]
    show (s.data.toList).toArray.size ≤ _
    rw [List.size_toArray, toList_eq]
    exact Nat.le_refl _
/-- the reader's five cells -/
theorem rd_cells {w : World} {gr gm : Nat} {next root : Int} {v vw : Value} (h : Blk w gr 45 #[.int .i64 next, v, .map (some gm), .int .i64 root, vw]) :
    w.cell? ⟨gr, 0, none⟩ = some (.int .i64 next) ∧ w.cell? ⟨gr, 1, none⟩ = some v ∧ w.cell? ⟨gr, 2, none⟩ = some (.map (some gm)) ∧ w.cell? ⟨gr, 3, none⟩ = some (.int .i64 root) ∧ w.cell? ⟨gr, 4, none⟩ = some vw :=
  ⟨(h.cell 0).trans rfl, (h.cell 1).trans rfl, (h.cell 2).trans rfl, (h.cell 3).trans rfl, (h.cell 4).trans rfl⟩
set_option maxRecDepth 20000 in
set_option maxHeartbeats 1600000 in
theorem first_any (w : World) (B0 B gr gm k : Nat) (v vw : Value) (l : List (Nd × Leaf)) (st : RS) (h : RIn B gr gm k v vw l st w) (h0 : st.next = 0) (hB0 : B0 ≤ gr) (s : ByteArray) (hs : s.size ≤ 1048576) (hk : k + 1 ≤ 4194304) (hE : Env w) :
    Calls Tryz.prog 41 #[.pointer (some ⟨gr, 0, none⟩), .string s] w (LineQ B0 B gr gm k (firstP s.data.toList) w) := by
  have H := Lib.hid h
  have HP := Lib.hid (pre_any s ⟨#[110, 101, 120, 116, 32]⟩ w)
  have HB : Hid (B0 ≤ w.heap.size) := Lib.hid (Nat.le_trans hB0 (Nat.le_of_lt h.box.lt))
  have HN : Hid (∀ r : ByteArray, r.size ≤ s.size → Calls Tryz.prog 76 #[.string r, .int .i64 1048577] w (NumP w (numberV r.data.toList 1048578))) := Lib.hid fun r hr => number_any r 1048577 w (by omega) hE
  have hgl := h.box.lt
  clear h hE
  go_enter Tryz.func41, Tryz.ntmps41
  go_wp2_with fail
  refine HP.out.mono ?_
  rintro e w1 ⟨r, rfl, hr1, hr2, rfl⟩
  have HR := Lib.hid (HN.out r hr2)
  by_cases hp : s.data.toList.take 5 = [110, 101, 120, 116, 32]
  · have hd : decide (s.data.toList.take (⟨#[110, 101, 120, 116, 32]⟩ : ByteArray).size = (⟨#[110, 101, 120, 116, 32]⟩ : ByteArray).data.toList) = true := decide_eq_true hp
    rw [hd]
    have HRL : Hid (r.data.toList = s.data.toList.drop 5) := Lib.hid (hr1 hp)
    rw [HRL.out] at HR
    have HF : Hid (firstP s.data.toList = (numberV (s.data.toList.drop 5) 1048578).map fun n => ⟨n, [], []⟩) := Lib.hid (by unfold firstP; rw [if_pos hp])
    clear hd hr1 hr2 hp
    cases hn : numberV (s.data.toList.drop 5) 1048578 with
    | none =>
      rw [hn] at HR HF
      clear hn
      go_wp2_with (go_at_call 76; refine HR.out.mono ?_; rintro e w2 ⟨rfl, hb2⟩; have HB2 := Lib.hid (hb2.mono HB.out); clear hb2; (try simp only [Option.getD_none, Option.isSome_none]))
      go_ret
      exact lineQ_no HF.out HB2.out
    | some n =>
      rw [hn] at HR HF
      have HNN := Lib.hid (numberV_some hn).2
      clear hn
      go_upto_region 5 with (go_at_call 76; refine HR.out.mono ?_; rintro e w2 ⟨rfl, hb2⟩; have HB2 := Lib.hid (hb2.mono HB.out); have H2 := Lib.hid (H.out.after hb2); clear hb2; (try simp only [Option.getD_some, Option.isSome_some]))
      have cx := (rd_cells H2.out.box).1
      have fx := H2.out.box.frozen 0
      go_wp2_with fail
      go_ret
      have hz := H2.out.zr h0
      have hbox := H2.out.box.set_ 0 (.int .i64 n)
      have hroot : rootV st = rootV ⟨n, [], []⟩ := by unfold rootV; rw [hz.1, hz.2]
      rw [hroot] at hbox
      have hnp := H2.out.np.other H2.out.box (by decide) (by decide) (by decide) (by decide) 0 (.int .i64 n)
      rw [hz.2] at hnp
      have hst := (H2.out.set.set (p := ⟨gr, 0, none⟩) (H2.out.set.blk_ne H2.out.box) (.int .i64 n)).mono (Nat.le_succ k)
      rw [hz.1] at hst
      refine lineQ_yes HF.out (HB2.out.setCell (p := ⟨gr, 0, none⟩) hB0 _) (v := v) (vw := vw) (l := l) ⟨by simpa using hbox, hnp, hst, by rw [H2.out.nds, hz.1], fun _ => ⟨HNN.out.1, by have := HNN.out.2; simp only; omega, rfl, deepOk_nil, Nat.zero_le _, by simp, by simp⟩, fun _ => ⟨rfl, rfl⟩, by simp, H2.out.lr, H2.out.lm, hk⟩
  · have hd : decide (s.data.toList.take (⟨#[110, 101, 120, 116, 32]⟩ : ByteArray).size = (⟨#[110, 101, 120, 116, 32]⟩ : ByteArray).data.toList) = false := decide_eq_false hp
    rw [hd]
    have HF : Hid (firstP s.data.toList = none) := Lib.hid (by unfold firstP; rw [if_neg hp])
    clear hd hr1 hr2 hp
    go_wp2_with (go_at_call 76; refine HR.out.mono ?_; rintro e w2 ⟨rfl, hb2⟩; have HB2 := Lib.hid (hb2.mono HB.out); clear hb2)
    go_ret
    exact lineQ_no HF.out HB2.out
/-- may a node with this number stand here? -/
def freshV (st : RS) (d : Nat) (s : List UInt8) : Option Int := (numberV s st.next).bind fun id => if (d = 0 ∧ id ≤ rootV st) ∨ id ∈ idsOf st then none else some id
set_option maxRecDepth 20000 in
set_option maxHeartbeats 1600000 in
theorem fresh_any (w : World) (B gr gm k : Nat) (v vw : Value) (l : List (Nd × Leaf)) (st : RS) (h : RIn B gr gm k v vw l st w) (h0 : st.next ≠ 0) (d : Nat) (s : ByteArray) (hs : s.size ≤ 1048576) (hE : Env w) :
    Calls Tryz.prog 85 #[.pointer (some ⟨gr, 0, none⟩), .int .i64 d, .string s] w (NumP w (freshV st d s.data.toList)) := by
  have H := Lib.hid h
  have hok := h.ok h0
  have hn1 := hok.n1
  have hn2 := hok.n2
  have HN : Hid (Calls Tryz.prog 76 #[.string s, .int .i64 (st.next - 1)] w (NumP w (numberV s.data.toList st.next))) := Lib.hid (by
    have := number_any s (st.next - 1) w (by omega) hE
    rwa [show st.next - 1 + 1 = st.next from by omega] at this)
  have hgl := h.box.lt
  obtain ⟨c0, _, c2, c3, _⟩ := rd_cells h.box
  have hw1 : IntKind.i64.wrap (st.next - 1) = st.next - 1 := IntWalk.i64_in _ (by omega)
  clear h hE hok
  cases hn : numberV s.data.toList st.next with
  | none =>
    rw [hn] at HN
    have HF : Hid (freshV st d s.data.toList = none) := Lib.hid (by unfold freshV; rw [hn]; rfl)
    clear hn
    go_enter Tryz.func85, Tryz.ntmps85
    go_wp2_with (go_at_call 76; refine HN.out.mono ?_; rintro e w2 ⟨rfl, hb2⟩; (try simp only [Option.getD_none, Option.isSome_none]))
    go_ret2
    rw [HF.out]
    exact numP rfl rfl hb2
  | some id =>
    rw [hn] at HN
    have hid := (numberV_some hn).2
    have HFF : Hid (freshV st d s.data.toList = if (d = 0 ∧ id ≤ rootV st) ∨ id ∈ idsOf st then none else some id) := Lib.hid (by unfold freshV; rw [hn]; rfl)
    clear hn
    have hk1 : -9223372036854775808 ≤ id ∧ id ≤ 9223372036854775807 := by omega
    have HK1 := Lib.hid hk1
    clear hk1
    by_cases hd : d = 0
    · by_cases hr : id ≤ rootV st
      · have HF : Hid (freshV st d s.data.toList = none) := Lib.hid (by rw [HFF.out, if_pos (.inl ⟨hd, hr⟩)])
        have hd0 : ((d : Int) == 0) = true := by rw [beq_iff_eq]; omega
        clear hd HFF
        go_enter Tryz.func85, Tryz.ntmps85
        go_wp2_with (go_at_call 76; refine HN.out.mono ?_; rintro e w2 ⟨rfl, hb2⟩; (try simp only [Option.getD_some, Option.isSome_some]); have c3' := (hb2.cell (p := ⟨gr, 3, none⟩) hgl).trans c3)
        go_ret2
        rw [HF.out]
        exact numP rfl rfl hb2
      · have hd0 : ((d : Int) == 0) = true := by rw [beq_iff_eq]; omega
        cases hm : (idsOf st).contains id with
        | true =>
          have HF : Hid (freshV st d s.data.toList = none) := Lib.hid (by rw [HFF.out, if_pos (.inr (by simpa using hm))])
          have HM := Lib.hid hm
          clear hd HFF hm
          go_enter Tryz.func85, Tryz.ntmps85
          go_wp2_with (go_at_call 76; refine HN.out.mono ?_; rintro e w2 ⟨rfl, hb2⟩; (try simp only [Option.getD_some, Option.isSome_some]); have c3' := (hb2.cell (p := ⟨gr, 3, none⟩) hgl).trans c3; have c2' := (hb2.cell (p := ⟨gr, 2, none⟩) hgl).trans c2; have hlk := (H.out.set.after hb2).look HK1.out; rw [show st.nds.map (·.id) = idsOf st from rfl, HM.out] at hlk)
          go_ret2
          rw [HF.out]
          exact numP rfl rfl ((hb2.alloc hb2.size _))
        | false =>
          have HF : Hid (freshV st d s.data.toList = some id) := Lib.hid (by rw [HFF.out, if_neg (by exact fun h => h.elim (fun h => hr h.2) (fun h => absurd h (by simpa using hm)))])
          have HM := Lib.hid hm
          clear hd HFF hm
          go_enter Tryz.func85, Tryz.ntmps85
          go_wp2_with (go_at_call 76; refine HN.out.mono ?_; rintro e w2 ⟨rfl, hb2⟩; (try simp only [Option.getD_some, Option.isSome_some]); have c3' := (hb2.cell (p := ⟨gr, 3, none⟩) hgl).trans c3; have c2' := (hb2.cell (p := ⟨gr, 2, none⟩) hgl).trans c2; have hlk := (H.out.set.after hb2).look HK1.out; rw [show st.nds.map (·.id) = idsOf st from rfl, HM.out] at hlk)
          go_ret2
          rw [HF.out]
          exact numP rfl rfl ((hb2.alloc hb2.size _))
    · have hd0 : ((d : Int) == 0) = false := by rw [beq_eq_false_iff_ne]; omega
      cases hm : (idsOf st).contains id with
      | true =>
        have HF : Hid (freshV st d s.data.toList = none) := Lib.hid (by rw [HFF.out, if_pos (.inr (by simpa using hm))])
        have HM := Lib.hid hm
        clear hd HFF hm
        go_enter Tryz.func85, Tryz.ntmps85
        go_wp2_with (go_at_call 76; refine HN.out.mono ?_; rintro e w2 ⟨rfl, hb2⟩; (try simp only [Option.getD_some, Option.isSome_some]); have c2' := (hb2.cell (p := ⟨gr, 2, none⟩) hgl).trans c2; have hlk := (H.out.set.after hb2).look HK1.out; rw [show st.nds.map (·.id) = idsOf st from rfl, HM.out] at hlk)
        go_ret2
        rw [HF.out]
        exact numP rfl rfl ((hb2.alloc hb2.size _))
      | false =>
        have HF : Hid (freshV st d s.data.toList = some id) := Lib.hid (by rw [HFF.out, if_neg (by exact fun h => h.elim (fun h => hd h.1) (fun h => absurd h (by simpa using hm)))])
        have HM := Lib.hid hm
        clear hd HFF hm
        go_enter Tryz.func85, Tryz.ntmps85
        go_wp2_with (go_at_call 76; refine HN.out.mono ?_; rintro e w2 ⟨rfl, hb2⟩; (try simp only [Option.getD_some, Option.isSome_some]); have c2' := (hb2.cell (p := ⟨gr, 2, none⟩) hgl).trans c2; have hlk := (H.out.set.after hb2).look HK1.out; rw [show st.nds.map (·.id) = idsOf st from rfl, HM.out] at hlk)
        go_ret2
        rw [HF.out]
        exact numP rfl rfl ((hb2.alloc hb2.size _))
/-- the last node, in its place -/
theorem last_no (w : World) (B gr gm k : Nat) (v vw : Value) (l : List (Nd × Leaf)) (st : RS) (h : RIn B gr gm k v vw l st w) (d : Nat) (hd : lastNd st d = none) :
    Calls Tryz.prog 82 #[.pointer (some ⟨gr, 0, none⟩), .int .i64 d] w fun e w' => e = .returned (.tuple #[.pointer none, .bool false]) ∧ w = w' := by
  obtain ⟨A, c, rfl, hc1, hc2⟩ := h.v_form
  obtain ⟨Aw, cw, rfl, hw1, hw2⟩ := h.w_form
  obtain ⟨_, c1, _, _, c4⟩ := rd_cells h.box
  by_cases h0 : st.nds.length = 0
  · have d0 : ((st.nds.length : Int) == 0) = true := by rw [h0]; rfl
    clear hd h h0
    go_enter Tryz.func82, Tryz.ntmps82
    go_wp2_with fail
    go_ret2
    exact ⟨rfl, rfl⟩
  · have d0 : ((st.nds.length : Int) == 0) = false := by rw [beq_eq_false_iff_ne]; omega
    have hne : d ≠ st.deep.getLastD 0 := by
      intro e
      unfold lastNd at hd
      rw [if_pos e, List.getLast?_eq_getElem?, List.getElem?_eq_none_iff] at hd
      omega
    have d1 : ((d : Int) == (st.deep.getLastD 0 : Int)) = false := by rw [beq_eq_false_iff_ne]; omega
    have d2 : ((d : Int) != (st.deep.getLastD 0 : Int)) = true := by rw [bne_iff_ne]; omega
    clear hd h h0 hne
    generalize st.deep.getLastD 0 = q at c4 d1 d2 hw1
    go_enter Tryz.func82, Tryz.ntmps82
    go_wp2_with fail
    go_ret2
    exact ⟨rfl, rfl⟩
theorem last_yes (w : World) (B gr gm k g n c : Nat) (vw : Value) (l : List (Nd × Leaf)) (st : RS) (h : RIn B gr gm k (.slice (some ⟨g, 0, none⟩) n c) vw l st w) (hn : st.nds.length = n) (h0 : 0 < n) (d : Nat) (hd : d = st.deep.getLastD 0) :
    Calls Tryz.prog 82 #[.pointer (some ⟨gr, 0, none⟩), .int .i64 d] w fun e w' => e = .returned (.tuple #[.pointer (some ⟨g, (n - 1) * 7, none⟩), .bool true]) ∧ Below w.heap.size w w' := by
  obtain ⟨A, c', hv, hc1, hc2⟩ := h.v_form
  injection hv with hA hn' hc'
  subst hc'
  obtain ⟨Aw, cw, rfl, hw1, hw2⟩ := h.w_form
  obtain ⟨_, c1, _, _, c4⟩ := rd_cells h.box
  have hcm : c ≤ 9223372036854775807 := by unfold maxLen at hc2; omega
  have d0 : ((n : Int) == 0) = false := by rw [beq_eq_false_iff_ne]; omega
  have d1 : ((d : Int) == (st.deep.getLastD 0 : Int)) = true := by rw [beq_iff_eq]; omega
  have d2 : ((d : Int) != (st.deep.getLastD 0 : Int)) = false := by rw [hd]; simp
  have hwr : IntKind.i64.wrap ((n : Int) - 1) = ((n - 1 : Nat) : Int) := by rw [IntWalk.i64_in _ (by omega)]; omega
  have hix : n - 1 < n := by omega
  clear h hn hA hd hn'
  generalize st.deep.getLastD 0 = q at c4 d1 d2 hw1
  go_enter Tryz.func82, Tryz.ntmps82
  go_wp2_with fail
  go_quiet (fail)
  go_wp2_with fail
  go_ret2
  exact ⟨by first | rfl | (simp; done), below_drewN (Below.refl _ _) _⟩
end Go.Proofs.YtjjlofaejpnnnaaGreatDoor

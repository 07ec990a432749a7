/-
  WALKS over package names: Unquote.
-/
import Derived.Test.YtckfcpiedainfaaGreatDoorZE9
import Derived.WalkMore
namespace Go.Proofs.YtckfcpiedainfaaGreatDoor
open Go Go.RowKit
set_option linter.unusedVariables false
def Unq (w : World) (r : List UInt8 × Int × Int) (e : Ending) (w' : World) : Prop := e = .returned (.tuple #[.string ⟨r.1.toArray⟩, .int .i64 r.2.1, .int .i64 r.2.2]) ∧ Below w.heap.size w w'
theorem unq_some {s : ByteArray} {t n : Nat} {L : List UInt8} (ht : t < s.size) (hq : s[t].toNat = 34) (h : scan s (t + 1) = (some L, n)) : unq s t = (L, (n : Int), 0) := by
  unfold unq
  rw [if_neg (by omega)]
  simp only [Int.toNat_natCast]
  rw [dif_pos ht, if_pos hq, h]
theorem unq_none {s : ByteArray} {t n : Nat} (ht : t < s.size) (hq : s[t].toNat = 34) (h : scan s (t + 1) = (none, n)) : unq s t = ([], (n : Int), 10) := by
  unfold unq
  rw [if_neg (by omega)]
  simp only [Int.toNat_natCast]
  rw [dif_pos ht, if_pos hq, h]
theorem unq_fin {w w' : World} {s : ByteArray} {t n : Int} {L : List UInt8} {c : Int} (h : unq s t = (L, n, c)) (hb : Below w.heap.size w w') :
    Unq w (unq s t) (.returned (.tuple #[.string ⟨L.toArray⟩, .int .i64 n, .int .i64 c])) w' := by
  rw [h]; exact ⟨rfl, hb⟩
def UnqRel (s : ByteArray) (t : Nat) (w : World) (v i : Value) (wr : World) : Prop :=
  ∃ (k : Nat) (l : List UInt8), k ≤ s.size ∧ i = .int .i64 k ∧ ownB wr w.heap.size v l ∧ l.length ≤ k ∧ Below w.heap.size w wr ∧ scan s (t + 1) = ((scan s k).1.map (l ++ ·), (scan s k).2)
theorem enc_ofNat {b : Nat} (h : b < 256) : (UInt8.ofNat b).toNat = b := by simp; omega
set_option maxHeartbeats 400000 in
theorem unquote_in (s : ByteArray) (t : Nat) (w : World) (hs : s.size + 8 ≤ 140737488355328) (ht : t < s.size) (hq : s[t].toNat = 34) :
    Calls Tryz.prog 54 #[.string s, .int .i64 t] w (Unq w (unq s t)) := by
  have h0 : ((s[t].toNat : Int) != 34) = false := by simp [hq]
  have h1 : ((t : Int) == (s.size : Int)) = false := by rw [beq_eq_false_iff_ne]; omega
  have h2 : decide ((t : Int) < 0) = false := by simp
  have h3 : decide (s.size < t) = false := by simp; omega
  have HQ := Lib.hid hq
  clear hq
  go_enter Tryz.func54, Tryz.ntmps54
  go_wp2_with fail
  go_step3
  go_wp2_with fail
  go_step3
  go_wp2_with fail
  go_loopw [7, 8] (fun v i wr => UnqRel s t w v i wr) (fun _ i _ => s.size - (intOf i).toNat)
  case atStart => exact ⟨t + 1, [], by omega, by go_num, ownB.nil _ _, by simp, Below.refl _ _, by simp⟩
  case round =>
    obtain ⟨k, l, hk, rfl, hown, hlen, hb, hs0⟩ := hrel
    have HS := Lib.hid hs0
    clear hs0
    have hszr : w.heap.size ≤ wr.heap.size := hb.size
    by_cases hlt : k < s.size
    · by_cases c1 : s[k].toNat = 34
      · have d1 : ((s[k].toNat : Int) == 34) = true := by rw [beq_iff_eq]; omega
        have HE := Lib.hid (scan_quote hlt c1)
        clear c1
        have hcv := conv_own hown
        go_wp2_with fail
        rw [Exit.noGoto_ret]
        go_ret3
        exact unq_fin (unq_some ht HQ.out (by rw [HS.out, HE.out]; simp)) hb
      · have d1 : ((s[k].toNat : Int) == 34) = false := by rw [beq_eq_false_iff_ne]; omega
        by_cases c2 : s[k].toNat = 92
        · have d2 : ((s[k].toNat : Int) == 92) = true := by rw [beq_iff_eq]; omega
          rcases hq : stepEsc s (k + 1) with ⟨n, r⟩
          have hst : stepAt s k hlt = (1 + n, r) := by unfold stepAt; rw [if_pos c2, hq]
          have hle := stepEsc_le (by omega) hq
          have H : Hid (stepEsc s ((k : Int) + 1).toNat = (n, r)) := Lib.hid (by rw [show ((k : Int) + 1).toNat = k + 1 from by omega]; exact hq)
          have hn := hle.1
          cases r with
          | none =>
            have HE := Lib.hid (scan_stop hlt c1 hst)
            clear c1 c2 hq hst hle
            go_wp2_with (go_at_call 76; refine (escaped_any s _ n none _ (by omega) (by omega) (by unfold maxLen; omega) H.out).mono ?_; rintro e w' ⟨rfl, rfl⟩)
            rw [Exit.noGoto_ret]
            go_ret3
            exact unq_fin (unq_none ht HQ.out (by rw [HS.out, HE.out]; simp; omega)) hb
          | some b =>
            have hb256 : b < 256 := hle.2 b rfl
            have HE := Lib.hid (scan_step hlt c1 hst)
            clear c1 c2 hq hst hle
            go_wp2_with (first | (go_at_call 76; refine (escaped_any s _ n (some b) _ (by omega) (by omega) (by unfold maxLen; omega) H.out).mono ?_; rintro e w' ⟨rfl, rfl⟩) | (at_builtin; refine app_bytes rfl _ _ rfl w.heap.size _ _ rfl (hown.alloc _) ⟨wr.heap.size, 0, none⟩ 1 1 [UInt8.ofNat b] rfl rfl (cells_new wr _ _ _ (by simp [enc, enc_ofNat hb256])) (by omega) (by simp; omega) ?_; intro v2 w2 hown2 hb2))
            go_roundw
            case rel => exact ⟨k + (1 + n), l ++ [UInt8.ofNat b], by omega, by go_num, hown2, by simp; omega, (hb.alloc hszr _).trans hb2, by rw [HS.out, HE.out]; simp [Option.map_map, Function.comp_def]⟩
            case measure => simp [intOf]; omega
        · have d2 : ((s[k].toNat : Int) == 92) = false := by rw [beq_eq_false_iff_ne]; omega
          cases hn : numB (s[k].toNat : Int) with
          | true =>
            have hst : stepAt s k hlt = (0, none) := by unfold stepAt; rw [if_neg c2, if_pos (Or.inl hn)]
            have HE := Lib.hid (scan_stop hlt c1 hst)
            have HN := Lib.hid hn
            clear c1 c2 hst hn
            go_wp2_with (go_at_call 77; refine (numbered_yes _ _ HN.out).mono ?_; rintro e w' ⟨rfl, rfl⟩)
            rw [Exit.noGoto_ret]
            go_ret3
            exact unq_fin (unq_none ht HQ.out (by rw [HS.out, HE.out]; simp)) hb
          | false =>
            have HN := Lib.hid hn
            by_cases c3 : s[k].toNat = 10
            · have d3 : ((s[k].toNat : Int) == 10) = true := by rw [beq_iff_eq]; omega
              have hst : stepAt s k hlt = (0, none) := by unfold stepAt; rw [if_neg c2, if_pos (Or.inr c3)]
              have HE := Lib.hid (scan_stop hlt c1 hst)
              clear c1 c2 c3 hst hn
              go_wp2_with (go_at_call 77; refine (numbered_no _ _ HN.out).mono ?_; rintro e w' ⟨rfl, rfl⟩)
              rw [Exit.noGoto_ret]
              go_ret3
              exact unq_fin (unq_none ht HQ.out (by rw [HS.out, HE.out]; simp)) hb
            · have d3 : ((s[k].toNat : Int) == 10) = false := by rw [beq_eq_false_iff_ne]; omega
              have hst : stepAt s k hlt = (1, some s[k].toNat) := by unfold stepAt; rw [if_neg c2, if_neg (by rw [hn]; simp [c3])]
              have HE := Lib.hid (scan_step hlt c1 hst)
              clear c1 c2 c3 hst hn
              go_wp2_with (first | (go_at_call 77; refine (numbered_no _ _ HN.out).mono ?_; rintro e w' ⟨rfl, rfl⟩) | (at_builtin; refine app_bytes rfl _ _ rfl w.heap.size _ _ rfl (hown.alloc _) ⟨wr.heap.size, 0, none⟩ 1 1 [s[k]] rfl rfl (cells_new wr _ _ _ rfl) (by omega) (by simp; omega) ?_; intro v2 w2 hown2 hb2))
              go_roundw
              case rel => exact ⟨k + 1, l ++ [s[k]], by omega, by go_num, hown2, by simp; omega, (hb.alloc hszr _).trans hb2, by rw [HS.out, HE.out]; simp [Option.map_map, Function.comp_def]⟩
              case measure => simp [intOf]; omega
    · have HE := Lib.hid (scan_end hlt)
      go_wp2_with fail
      rw [Exit.noGoto_ret]
      go_ret3
      exact unq_fin (unq_none ht HQ.out (by rw [HS.out, HE.out]; rfl)) hb
set_option maxHeartbeats 400000 in
theorem unquote_any (s : ByteArray) (t : Int) (w : World) (hs : s.size + 8 ≤ 140737488355328) :
    Calls Tryz.prog 54 #[.string s, .int .i64 t] w (Unq w (unq s t)) := by
  by_cases h0 : t < 0 ∨ (s.size : Int) < t
  · have hu : unq s t = ([], 0, 2) := by unfold unq; rw [if_pos h0]
    have HU := Lib.hid hu
    clear hu
    rcases h0 with h0 | h0
    · go_enter Tryz.func54, Tryz.ntmps54
      go_wp2_with fail
      go_step3
      go_wp2_with fail
      rw [Exit.noGoto_ret]
      go_ret3
      exact unq_fin HU.out (Below.refl _ _)
    · have h1 : ¬ t < 0 := by omega
      go_enter Tryz.func54, Tryz.ntmps54
      go_wp2_with fail
      go_step3
      go_wp2_with fail
      rw [Exit.noGoto_ret]
      go_ret3
      exact unq_fin HU.out (Below.refl _ _)
  · obtain ⟨t, rfl⟩ := Int.eq_ofNat_of_zero_le (show 0 ≤ t by omega)
    by_cases ht : t < s.size
    · by_cases hq : s[t].toNat = 34
      · exact unquote_in s t w hs ht hq
      · have hu : unq s t = ([], (t : Int), 10) := by
          unfold unq; rw [if_neg h0]; simp only [Int.toNat_natCast]; rw [dif_pos ht, if_neg hq]
        have HU := Lib.hid hu
        have h4 : ((s[t].toNat : Int) != 34) = true := by rw [bne_iff_ne]; omega
        have h1 : ((t : Int) == (s.size : Int)) = false := by rw [beq_eq_false_iff_ne]; omega
        have h2 : decide ((t : Int) < 0) = false := by simp
        have h3 : decide (s.size < t) = false := by simp; omega
        clear hu hq h0
        go_enter Tryz.func54, Tryz.ntmps54
        go_wp2_with fail
        go_step3
        go_wp2_with fail
        rw [Exit.noGoto_ret]
        go_ret3
        exact unq_fin HU.out (Below.refl _ _)
    · have hu : unq s t = ([], (t : Int), 10) := by
        unfold unq; rw [if_neg h0]; simp only [Int.toNat_natCast]; rw [dif_neg ht]
      have HU := Lib.hid hu
      have h1 : ((t : Int) == (s.size : Int)) = true := by rw [beq_iff_eq]; omega
      have h2 : decide ((t : Int) < 0) = false := by simp
      have h3 : decide (s.size < t) = false := by simp; omega
      clear hu h0
      go_enter Tryz.func54, Tryz.ntmps54
      go_wp2_with fail
      go_step3
      go_wp2_with fail
      rw [Exit.noGoto_ret]
      go_ret3
      exact unq_fin HU.out (Below.refl _ _)
end Go.Proofs.YtckfcpiedainfaaGreatDoor

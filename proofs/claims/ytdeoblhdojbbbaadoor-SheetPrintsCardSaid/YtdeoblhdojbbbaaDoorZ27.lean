/-
  WALKS: the document's Show and Int.
  PLAIN LISTS: the search over all 256 forms finds what the two digits' reading finds. No program stands in it.
  WALKS over the document's own answers: Form, common.
  WALKS over the document's own answers: Quote.
-/
import Derived.Test.YtdeoblhdojbbbaaDoorZ26
namespace Go.Proofs.YtdeoblhdojbbbaaDoor
open Go Go.RowKit
set_option linter.unusedVariables false
/-- the digits of a number, none of nought -/
def decN (m : Nat) : List UInt8 := if m = 0 then [] else Lib.decDigits m
theorem decN_step (m : Nat) (h : m ≠ 0) : decN m = decN (m / 10) ++ [UInt8.ofNat (48 + m % 10)] := by
  unfold decN
  rw [if_neg h]
  by_cases h10 : m < 10
  · rw [if_pos (by omega), Lib.decDigits, dif_pos h10, Nat.mod_eq_of_lt h10]; rfl
  · rw [if_neg (by omega), Lib.decDigits, dif_neg h10]
theorem figure_at (k : Nat) (h : k < 10) : ((⟨#[48, 49, 50, 51, 52, 53, 54, 55, 56, 57]⟩ : ByteArray).extract k (k + 1)).data.toList = [UInt8.ofNat (48 + k)] := by
  rw [Lib.extract_data]
  have : ∀ k : Fin 10, ((([48, 49, 50, 51, 52, 53, 54, 55, 56, 57] : List UInt8).drop k.val).take (k.val + 1 - k.val)) = [UInt8.ofNat (48 + k.val)] := by decide
  exact this ⟨k, h⟩
def ShowRel (w : World) (U : List UInt8) (m s : Value) (wr : World) : Prop :=
  ∃ (M : Nat) (S : ByteArray), m = .int .u64 M ∧ (M : Int) < 18446744073709551616 ∧ s = .string S ∧ decN M ++ S.data.toList = U ∧ wr = w
theorem cat_list (a b : ByteArray) : (a ++ b).data.toList = a.data.toList ++ b.data.toList := by rw [ByteArray.data_append, Array.toList_append]
theorem piece (M : Nat) (S : ByteArray) : (((⟨#[48, 49, 50, 51, 52, 53, 54, 55, 56, 57]⟩ : ByteArray).extract (M % 10) (M % 10 + 1)) ++ S).data.toList = UInt8.ofNat (48 + M % 10) :: S.data.toList := by
  rw [cat_list, figure_at _ (by omega)]; rfl
structure InU64 (M : Nat) : Prop where
  out : (M : Int) < 18446744073709551616
structure UpTo63 (U : Nat) : Prop where
  out : U ≤ 9223372036854775808
theorem wrap_tenth {M : Nat} (h : InU64 M) : IntKind.u64.wrap ((M : Int) / 10) = ((M / 10 : Nat) : Int) := by
  have h := h.out
  rw [IntWalk.u64_in _ (by omega)]; omega
theorem size_of_digits {U M : Nat} {S : ByteArray} (hU : UpTo63 U) (h : decN M ++ S.data.toList = Lib.decDigits U) : S.size ≤ 19 := by
  have hU := hU.out
  have a := dec_len 18 U (by omega)
  rw [← h, List.length_append, toList_eqQ] at a
  omega
theorem ret_str {x : ByteArray} {l : List UInt8} (h : x.data.toList = l) : Ending.returned (.string x) = .returned (.string ⟨l.toArray⟩) := by
  have : x = ⟨l.toArray⟩ := by apply ByteArray.ext; rw [← h]
  rw [this]
set_option maxHeartbeats 800000 in
theorem refShow_any (n : Int) (w : World) (h0 : -9223372036854775808 ≤ n) (h1 : n ≤ 9223372036854775807) : Calls Tryd.prog 37 #[.int .i64 n] w (Tells w (Lib.itoa n)) := by
  by_cases hn : n = 0
  · subst hn
    have e : Lib.itoa 0 = [48] := by unfold Lib.itoa; rw [if_neg (by omega)]; rw [Lib.decDigits, dif_pos (by decide)]; rfl
    rw [e]
    go_enter Tryd.func37, Tryd.ntmps37
    go_wp2_with fail
    go_ret
    exact ⟨rfl, Below.refl _ _⟩
  · have d0 : (n == 0) = false := by rw [beq_eq_false_iff_ne]; exact hn
    by_cases hneg : n < 0
    · obtain ⟨U, hU⟩ : ∃ U : Nat, -(n + 1) + 1 = (U : Int) := ⟨n.natAbs, by omega⟩
      have hU1 : 1 ≤ U := by omega
      have HU : UpTo63 U := ⟨by omega⟩
      have UX : Hid (Lib.itoa n = 45 :: Lib.decDigits U) := Lib.hid (by
        have e : n = -(U : Int) := by omega
        rw [e, Lib.itoa_neg U hU1])
      go_enter Tryd.func37, Tryd.ntmps37
      go_wp2_with fail
      go_loopw [3, 5] (fun m s wr => ShowRel w (Lib.decDigits U) m s wr) (fun m _ _ => (intOf m).toNat)
      case atStart => exact ⟨U, ⟨#[]⟩, by first | rfl | (congr 1; omega), by omega, rfl, by unfold decN; rw [if_neg (by omega)]; simp, rfl⟩
      case round =>
        obtain ⟨M, S, rfl, hM, rfl, hd, rfl⟩ := hrel
        have HM : InU64 M := ⟨hM⟩
        clear hM h0 h1
        have HS20 := Lib.hid (size_of_digits HU hd)
        have HD := Lib.hid hd
        clear hd
        by_cases hm : M = 0
        · have hS := HD.out
          rw [hm] at hS
          have HS : Hid (S.data.toList = Lib.decDigits U) := Lib.hid (by simpa [decN] using hS)
          clear hS
          have d1 : ¬ (0 : Int) < (M : Int) := by omega
          go_wp2_with fail
          · exfalso; have := HS20.out; omega
          go_ret
          exact ⟨ret_str (by rw [cat_list, HS.out, UX.out]; rfl), Below.refl _ _⟩
        · have d1 : (0 : Int) < (M : Int) := by omega
          have HX : Hid (decN (M / 10) ++ (((⟨#[48, 49, 50, 51, 52, 53, 54, 55, 56, 57]⟩ : ByteArray).extract (M % 10) (M % 10 + 1)) ++ S).data.toList = Lib.decDigits U) := Lib.hid (by rw [piece, ← HD.out, decN_step M hm]; simp)
          have hr : M % 10 < 10 := by omega
          go_wp2_with fail
          · exfalso; have := HS20.out; omega
          exact ⟨⟨M / 10, _, by rw [wrap_tenth HM], by have := HM.out; omega, rfl, HX.out, rfl⟩, by rw [wrap_tenth HM]; simp [intOf]; omega⟩
    · obtain ⟨U, rfl⟩ : ∃ U : Nat, n = (U : Int) := ⟨n.toNat, by omega⟩
      have hU1 : 1 ≤ U := by omega
      have HU : UpTo63 U := ⟨by omega⟩
      have UX : Hid (Lib.itoa (U : Int) = Lib.decDigits U) := Lib.hid (itoa_of_nat U)
      go_enter Tryd.func37, Tryd.ntmps37
      go_wp2_with fail
      go_loopw [3, 5] (fun m s wr => ShowRel w (Lib.decDigits U) m s wr) (fun m _ _ => (intOf m).toNat)
      case atStart => exact ⟨U, ⟨#[]⟩, by first | rfl | (congr 1; omega), by omega, rfl, by unfold decN; rw [if_neg (by omega)]; simp, rfl⟩
      case round =>
        obtain ⟨M, S, rfl, hM, rfl, hd, rfl⟩ := hrel
        have HM : InU64 M := ⟨hM⟩
        clear hM h0 h1
        have HS20 := Lib.hid (size_of_digits HU hd)
        have HD := Lib.hid hd
        clear hd
        by_cases hm : M = 0
        · have hS := HD.out
          rw [hm] at hS
          have HS : Hid (S.data.toList = Lib.decDigits U) := Lib.hid (by simpa [decN] using hS)
          clear hS
          have d1 : ¬ (0 : Int) < (M : Int) := by omega
          go_wp2_with fail
          · exfalso; have := HS20.out; omega
          go_ret
          exact ⟨ret_str (by rw [cat_list, HS.out, UX.out]; rfl), Below.refl _ _⟩
        · have d1 : (0 : Int) < (M : Int) := by omega
          have HX : Hid (decN (M / 10) ++ (((⟨#[48, 49, 50, 51, 52, 53, 54, 55, 56, 57]⟩ : ByteArray).extract (M % 10) (M % 10 + 1)) ++ S).data.toList = Lib.decDigits U) := Lib.hid (by rw [piece, ← HD.out, decN_step M hm]; simp)
          have hr : M % 10 < 10 := by omega
          go_wp2_with fail
          · exfalso; have := HS20.out; omega
          exact ⟨⟨M / 10, _, by rw [wrap_tenth HM], by have := HM.out; omega, rfl, HX.out, rfl⟩, by rw [wrap_tenth HM]; simp [intOf]; omega⟩
end Go.Proofs.YtdeoblhdojbbbaaDoor
namespace Go.Proofs.YtdeoblhdojbbbaaDoor
open Go
set_option linter.unusedVariables false
/-- the forms, case by case -/
theorem form_cases (c : UInt8) : ((c.toNat = 34 ∨ c.toNat = 92) ∧ form c = [92, c]) ∨ (c.toNat = 10 ∧ form c = [92, 110]) ∨
    (numBQ (c.toNat : Int) = true ∧ form c = [92, 120, hexOf (c.toNat / 16), hexOf (c.toNat % 16)]) ∨ (c.toNat ≠ 34 ∧ c.toNat ≠ 92 ∧ c.toNat ≠ 10 ∧ numBQ (c.toNat : Int) = false ∧ form c = [c]) := by
  unfold form
  split
  · exact .inl ⟨by assumption, rfl⟩
  · split
    · exact .inr (.inl ⟨by assumption, rfl⟩)
    · split
      · exact .inr (.inr (.inl ⟨by assumption, rfl⟩))
      · rename_i h1 h2 h3
        exact .inr (.inr (.inr ⟨by omega, by omega, h2, by simpa using h3, rfl⟩))
end Go.Proofs.YtdeoblhdojbbbaaDoor
namespace Go.Proofs.YtdeoblhdojbbbaaDoor
open Go Go.RowKit
set_option linter.unusedVariables false
theorem conv_litd (w : World) (cs : Array Value) (news : List UInt8) (hc : cs.toList = news.map enc) (hm : news.length ≤ maxLen) :
    (convert 40 9 (.slice (some ⟨w.heap.size, 0, none⟩) news.length news.length)).run Tryd.prog (w.alloc (.cells cs 5)).drew = .ok (.string ⟨news.toArray⟩) (w.alloc (.cells cs 5)).drew :=
  conv_own (w := (w.alloc (.cells cs 5)).drew) (ownB_lit w cs news hc hm)
def Formed (w : World) (l : List UInt8) (e : Ending) (w' : World) : Prop := e = .returned (.string ⟨l.toArray⟩) ∧ Below w.heap.size w w'
theorem numB_in (n : Int) (h : numBQ n = false) (h10 : n ≠ 10) : 32 ≤ n ∧ n ≤ 126 := by
  unfold numBQ at h; simp at h; omega
theorem numB_out (n : Int) (h : numBQ n = true) : (n < 32 ∨ 126 < n) ∧ n ≠ 10 := by
  unfold numBQ at h; simp at h; omega
theorem cat2 (a b x y : UInt8) : Ending.returned (.string ((⟨#[a, b]⟩ : ByteArray) ++ ⟨#[x, y]⟩)) = .returned (.string ⟨[a, b, x, y].toArray⟩) := by
  have e : (⟨#[a, b]⟩ : ByteArray) ++ ⟨#[x, y]⟩ = ⟨[a, b, x, y].toArray⟩ := by
    apply ByteArray.ext
    rw [ByteArray.data_append]
    rfl
  rw [e]
set_option maxHeartbeats 400000 in
theorem refForm_any (c : UInt8) (w : World) : Calls Tryd.prog 55 #[.int .u8 c.toNat] w (Formed w (form c)) := by
  have hlt := c.toNat_lt
  rcases form_cases c with ⟨h, e⟩ | ⟨h, e⟩ | ⟨h, e⟩ | ⟨h1, h2, h3, h4, e⟩
  · rw [e]
    clear e
    rcases h with h | h
    · obtain rfl : c = 34 := UInt8.toNat_inj.1 h
      go_enter Tryd.func55, Tryd.ntmps55
      go_wp2
      go_ret
      exact ⟨rfl, Below.refl _ _⟩
    · obtain rfl : c = 92 := UInt8.toNat_inj.1 h
      go_enter Tryd.func55, Tryd.ntmps55
      go_wp2
      go_ret
      exact ⟨rfl, Below.refl _ _⟩
  · obtain rfl : c = 10 := UInt8.toNat_inj.1 h
    rw [e]
    clear e
    go_enter Tryd.func55, Tryd.ntmps55
    go_wp2
    go_ret
    exact ⟨rfl, Below.refl _ _⟩
  · rw [e]
    have hn := numB_out _ h
    clear e
    have d1 : ((c.toNat : Int) == 34) = false := by rw [beq_eq_false_iff_ne]; omega
    have d2 : ((c.toNat : Int) == 92) = false := by rw [beq_eq_false_iff_ne]; omega
    have d3 : ((c.toNat : Int) == 10) = false := by rw [beq_eq_false_iff_ne]; omega
    have q0 : 0 ≤ (c.toNat : Int) / 16 := by omega
    have q1 : (c.toNat : Int) / 16 < 16 := by omega
    have r0 : 0 ≤ (c.toNat : Int) % 16 := by omega
    have r1 : (c.toNat : Int) % 16 < 16 := by omega
    have HN := Lib.hid hn
    have e15 := and_15 c
    have hx1 : (⟨#[48, 49, 50, 51, 52, 53, 54, 55, 56, 57, 97, 98, 99, 100, 101, 102]⟩ : ByteArray)[((c.toNat : Int) / 16).toNat]'(by show _ < 16; omega) = hexOf (c.toNat / 16) := by
      have := hex_at (c.toNat / 16) (by omega)
      simpa only [toNat_q] using this
    have hx2 : (⟨#[48, 49, 50, 51, 52, 53, 54, 55, 56, 57, 97, 98, 99, 100, 101, 102]⟩ : ByteArray)[((c.toNat : Int) % 16).toNat]'(by show _ < 16; omega) = hexOf (c.toNat % 16) := by
      have := hex_at (c.toNat % 16) (by omega)
      simpa only [toNat_r] using this
    have hcv : (convert 40 9 (.slice (some ⟨w.heap.size, 0, none⟩) 2 2)).run Tryd.prog (w.alloc (.cells #[.int .u8 (hexOf (c.toNat / 16)).toNat, .int .u8 (hexOf (c.toNat % 16)).toNat] 5)).drew = .ok (.string ⟨#[hexOf (c.toNat / 16), hexOf (c.toNat % 16)]⟩) (w.alloc (.cells #[.int .u8 (hexOf (c.toNat / 16)).toNat, .int .u8 (hexOf (c.toNat % 16)).toNat] 5)).drew := conv_litd w _ [hexOf (c.toNat / 16), hexOf (c.toNat % 16)] rfl (by simp [maxLen])
    clear hn h
    go_enter Tryd.func55, Tryd.ntmps55
    rcases HN.out.1 with h | h
    · have g1 : ¬ (32 : Int) ≤ (c.toNat : Int) := by omega
      go_wp2_with fail
      go_region
      all_goals go_wp2
      all_goals go_ret
      all_goals exact ⟨cat2 _ _ _ _, ((Below.refl _ _).alloc (Nat.le_refl _) _).drew⟩
    · have g1 : (32 : Int) ≤ (c.toNat : Int) := by omega
      have g2 : ¬ (c.toNat : Int) ≤ 126 := by omega
      go_wp2_with fail
      go_region
      all_goals go_wp2
      all_goals go_ret
      all_goals exact ⟨cat2 _ _ _ _, ((Below.refl _ _).alloc (Nat.le_refl _) _).drew⟩
  · rw [e]
    have hn := numB_in _ h4 (by omega)
    clear e h4
    have d1 : ((c.toNat : Int) == 34) = false := by rw [beq_eq_false_iff_ne]; omega
    have d2 : ((c.toNat : Int) == 92) = false := by rw [beq_eq_false_iff_ne]; omega
    have d3 : ((c.toNat : Int) == 10) = false := by rw [beq_eq_false_iff_ne]; omega
    obtain ⟨g1, g2⟩ := hn
    clear h1 h2 h3
    have hcv : (convert 40 9 (.slice (some ⟨w.heap.size, 0, none⟩) 1 1)).run Tryd.prog (w.alloc (.cells #[.int .u8 c.toNat] 5)) = .ok (.string ⟨#[c]⟩) (w.alloc (.cells #[.int .u8 c.toNat] 5)) := conv_lit w #[.int .u8 c.toNat] [c] rfl (by simp [maxLen])
    go_enter Tryd.func55, Tryd.ntmps55
    go_wp2_with fail
    go_ret
    exact ⟨rfl, (Below.refl _ _).alloc (Nat.le_refl _) _⟩
end Go.Proofs.YtdeoblhdojbbbaaDoor
namespace Go.Proofs.YtdeoblhdojbbbaaDoor
open Go Go.RowKit
set_option linter.unusedVariables false
def RQRel (s : ByteArray) (w : World) (v i : Value) (wr : World) : Prop :=
  ∃ k : Nat, k ≤ s.size ∧ i = .int .i64 k ∧ ownB wr w.heap.size v (34 :: (s.data.toList.take k).flatMap form) ∧ Below w.heap.size w wr
set_option maxHeartbeats 400000 in
theorem refQuote_any (s : ByteArray) (w : World) (hs : (quote s.data.toList).length + 4 ≤ 140737488355328) :
    Calls Tryd.prog 42 #[.string s] w (Quoted w (quote s.data.toList)) := by
  have hq : (quote s.data.toList).length = (s.data.toList.flatMap form).length + 2 := by simp [quote]
  have hg := flat_ge s.data.toList
  have hsz : s.data.toList.length = s.size := by rw [Array.length_toList]; rfl
  have hroom : (s.data.toList.flatMap form).length + 6 ≤ 140737488355328 := by omega
  have hmax : s.size ≤ 140737488355328 := by omega
  have ROOM := Lib.hid hroom
  clear hs hq hg hsz hroom
  have h0 := ownB_lit w #[.int .u8 34] [34] rfl (by simp [maxLen])
  go_enter Tryd.func42, Tryd.ntmps42
  go_wp2_with fail
  go_loopw [3, 4] (fun v i wr => RQRel s w v i wr) (fun _ i _ => s.size - (intOf i).toNat)
  case atStart => exact ⟨0, Nat.zero_le _, rfl, h0, (Below.refl _ _).alloc (Nat.le_refl _) _⟩
  case round =>
    obtain ⟨k, hk, rfl, hown, hb⟩ := hrel
    clear h0
    have hfl := flat_take_le s.data.toList k
    have hszr : w.heap.size ≤ wr.heap.size := hb.size
    have hroom1 : (34 :: (s.data.toList.take k).flatMap form).length + 4 ≤ 140737488355328 := by have := ROOM.out; simp only [List.length_cons]; omega
    have R1 := Lib.hid hroom1
    clear hroom1 hfl
    by_cases hlt : k < s.size
    · have hf4 := (form_length s[k]).2
      have F4 : Hid ((⟨(form s[k]).toArray⟩ : ByteArray).size ≤ 4) := Lib.hid (by show (form s[k]).toArray.size ≤ 4; simpa using hf4)
      clear hf4
      go_wp2_with (first | (go_at_call 55; refine (refForm_any s[k] _).mono ?_; rintro e w2 ⟨rfl, hb2⟩) | (at_builtin; refine app_str rfl _ _ rfl w.heap.size _ _ rfl (hown.below hb2) ⟨(form s[k]).toArray⟩ rfl (by have := R1.out; have := F4.out; omega) (by have := hb2.size; omega) ?_; intro v3 w3 hown3 hb3))
      go_roundw
      case rel => exact ⟨k + 1, by omega, by go_num, by rw [← quote_rel hlt]; exact hown3, hb.trans ((hb2.mono hszr).trans hb3)⟩
      case measure => simp [intOf]; omega
    · obtain rfl : k = s.size := by omega
      go_wp2_with (at_builtin; refine app_bytes rfl _ _ rfl w.heap.size _ _ rfl (hown.alloc _) ⟨wr.heap.size, 0, none⟩ 1 1 [34] rfl rfl (cells_new wr _ _ _ rfl) (by have := R1.out; omega) (by simp; omega) ?_; intro v3 w3 hown3 hb3; have hcv := conv_own hown3)
      go_ret
      refine ⟨?_, (hb.alloc hszr _).trans hb3⟩
      have e : s.data.toList.take s.size = s.data.toList := List.take_of_length_le (by rw [Array.length_toList]; exact Nat.le_refl _)
      rw [e]
      rfl
end Go.Proofs.YtdeoblhdojbbbaaDoor

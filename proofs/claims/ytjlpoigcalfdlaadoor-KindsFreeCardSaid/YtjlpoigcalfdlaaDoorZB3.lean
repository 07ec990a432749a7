/-
  WALKS: letter, inName, Right, Own, and the document's among, Right, Own.
  WALKS: the document's among and Right; Own, both.
  WALKS: Show and Int of package names. Condition of these: the library's variables hold what its text lays.
  MEMORY: when a slice, a node, a model in memory reads as a list, a node, a model of plain values. No program stands in it.
-/
import Derived.Test.YtjlpoigcalfdlaaDoorZB2
import Derived.Lib.LaidTab
import Derived.Lib.SmallJoins
import Derived.Shelf.SlSorted.Search
import Derived.WalkKit
import Derived.Lib.Hide
import Derived.Lib.QuietBelow
namespace Go.Proofs.YtjlpoigcalfdlaaDoor
open Go Go.RowKit
set_option linter.unusedVariables false
/-- a yes or no, the world as it was -/
def Says (w : World) (b : Bool) (e : Ending) (w' : World) : Prop := e = .returned (.bool b) ∧ w = w'
set_option maxHeartbeats 400000 in
theorem letter_any (n : Int) (w : World) : Calls Tryd.prog 78 #[.int .u8 n] w (Says w (letB n)) := by
  go_enter Tryd.func78, Tryd.ntmps78
  go_wp2
  all_goals go_ret
  all_goals refine ⟨ret_bool ?_, rfl⟩
  all_goals (unfold letB; first | (simp [*]; done) | (simp; omega) | (rw [Bool.eq_iff_iff]; simp; omega) | (rw [Bool.eq_iff_iff]; simp [*]; omega))
set_option maxHeartbeats 400000 in
theorem inName_any (n : Int) (w : World) : Calls Tryd.prog 79 #[.int .u8 n] w (Says w (innB n)) := by
  cases hl : letB n with
  | true =>
    have H := Lib.hid hl
    clear hl
    go_enter Tryd.func79, Tryd.ntmps79
    go_wp2_with (go_at_call 78; refine (letter_any n _).mono ?_; rintro e w' ⟨rfl, rfl⟩; rw [H.out])
    all_goals go_ret
    all_goals refine ⟨ret_bool ?_, rfl⟩
    all_goals (unfold innB; rw [H.out]; simp)
  | false =>
    have H := Lib.hid hl
    clear hl
    go_enter Tryd.func79, Tryd.ntmps79
    go_wp2_with (go_at_call 78; refine (letter_any n _).mono ?_; rintro e w' ⟨rfl, rfl⟩; rw [H.out])
    all_goals go_ret
    all_goals refine ⟨ret_bool ?_, rfl⟩
    all_goals (unfold innB; rw [H.out]; first | (simp [*]; done) | (simp; omega))
theorem toList_eq (s : ByteArray) : s.data.toList.length = s.size := by rw [Array.length_toList]; rfl
theorem drop_get' (s : ByteArray) (k : Nat) (h : k < s.size) : s.data.toList.drop k = s[k] :: s.data.toList.drop (k + 1) := by
  rw [List.drop_eq_getElem_cons (by simpa using h)]; rfl
theorem drop_nil' (s : ByteArray) (k : Nat) (h : ¬ k < s.size) : s.data.toList.drop k = [] := List.drop_eq_nil_of_le (by rw [toList_eq]; omega)
theorem right_eq (s : ByteArray) (h : 0 < s.size) : right s.data.toList = (decide (s.size ≤ 32) && letB (s[0].toNat : Int) && (s.data.toList.drop 1).all innC) := by
  have e : s.data.toList = s[0] :: s.data.toList.drop 1 := by have := drop_get' s 0 h; simpa using this
  have hl := toList_eq s
  rw [e] at hl
  rw [e, right]
  simp only [List.length_cons, List.drop_succ_cons, List.drop_zero] at hl ⊢
  congr 2
  rw [Bool.eq_iff_iff]; simp; omega
set_option maxHeartbeats 800000 in
theorem right_any (s : ByteArray) (w : World) (hs : s.size ≤ maxLen) : Calls Tryd.prog 73 #[.string s] w (Says w (right s.data.toList)) := by
  unfold maxLen at hs
  by_cases h0 : 0 < s.size
  · have hR := right_eq s h0
    have d0 : ((s.size : Int) == 0) = false := by rw [beq_eq_false_iff_ne]; omega
    by_cases h1 : s.size ≤ 32
    · have d1 : decide ((32 : Int) < (s.size : Int)) = false := by simp; omega
      cases hl : letB (s[0].toNat : Int) with
      | false =>
        have H := Lib.hid hl
        have HR : Hid (right s.data.toList = false) := Lib.hid (by rw [hR, hl]; simp)
        clear hR hl
        go_enter Tryd.func73, Tryd.ntmps73
        go_wp2_with (go_at_call 78; refine (letter_any _ _).mono ?_; rintro e w' ⟨rfl, rfl⟩; rw [H.out])
        go_ret
        exact ⟨ret_bool HR.out.symm, rfl⟩
      | true =>
        have H := Lib.hid hl
        have HR : Hid (right s.data.toList = (s.data.toList.drop 1).all innC) := Lib.hid (by rw [hR, hl]; simp [h1])
        clear hR hl
        go_enter Tryd.func73, Tryd.ntmps73
        go_wp2_with (go_at_call 78; refine (letter_any _ _).mono ?_; rintro e w' ⟨rfl, rfl⟩; rw [H.out])
        go_loop [3] (fun i => ∃ k : Nat, 1 ≤ k ∧ k ≤ s.size ∧ i = .int .i64 k ∧ Hid (right s.data.toList = (s.data.toList.drop k).all innC)) (fun i => s.size - (intOf i).toNat)
        case atStart => exact ⟨1, by omega, by omega, rfl, HR⟩
        case round =>
          obtain ⟨k, hk1, hk, rfl, HK⟩ := hrel
          by_cases hlt : k < s.size
          · cases hn : innB (s[k].toNat : Int) with
            | true =>
              have HN := Lib.hid hn
              have HX : Hid (right s.data.toList = (s.data.toList.drop (k + 1)).all innC) := Lib.hid (by rw [HK.out, drop_get' s k hlt, List.all_cons]; simp [innC, hn])
              clear hn
              go_wp2_with (go_at_call 79; refine (inName_any _ _).mono ?_; rintro e w' ⟨rfl, rfl⟩; rw [HN.out])
              go_round
              case rel => exact ⟨k + 1, by omega, by omega, by go_num, HX⟩
              case measure => simp [intOf]; omega
            | false =>
              have HN := Lib.hid hn
              have HX : Hid (right s.data.toList = false) := Lib.hid (by rw [HK.out, drop_get' s k hlt, List.all_cons]; simp [innC, hn])
              clear hn
              go_wp2_with (go_at_call 79; refine (inName_any _ _).mono ?_; rintro e w' ⟨rfl, rfl⟩; rw [HN.out])
              go_ret
              exact ⟨ret_bool HX.out.symm, rfl⟩
          · have HX : Hid (right s.data.toList = true) := Lib.hid (by rw [HK.out, drop_nil' s k hlt]; rfl)
            go_wp2
            go_ret
            exact ⟨ret_bool HX.out.symm, rfl⟩
    · have d1 : decide ((32 : Int) < (s.size : Int)) = true := by simp; omega
      have HR : Hid (right s.data.toList = false) := Lib.hid (by rw [hR]; simp [h1])
      clear hR
      go_enter Tryd.func73, Tryd.ntmps73
      go_wp2_with fail
      go_ret
      exact ⟨ret_bool HR.out.symm, rfl⟩
  · have hnil : s.data.toList = [] := List.length_eq_zero_iff.1 (by rw [toList_eq]; omega)
    have HR : Hid (right s.data.toList = false) := Lib.hid (by rw [hnil]; rfl)
    have d0 : ((s.size : Int) == 0) = true := by rw [beq_iff_eq]; omega
    clear hnil
    go_enter Tryd.func73, Tryd.ntmps73
    go_wp2_with fail
    go_ret
    exact ⟨ret_bool HR.out.symm, rfl⟩
end Go.Proofs.YtjlpoigcalfdlaaDoor
namespace Go.Proofs.YtjlpoigcalfdlaaDoor
open Go Go.RowKit
set_option linter.unusedVariables false
def hasB (l : List UInt8) (c : UInt8) : Bool := l.contains c
set_option maxHeartbeats 400000 in
theorem among_any (c : UInt8) (s : ByteArray) (w : World) (hs : s.size ≤ maxLen) : Calls Tryd.prog 60 #[.int .u8 c.toNat, .string s] w (Says w (hasB s.data.toList c)) := by
  unfold maxLen at hs
  have hc := c.toNat_lt
  go_enter Tryd.func60, Tryd.ntmps60
  go_wp2_with fail
  go_loop [5] (fun i => ∃ k : Nat, k ≤ s.size ∧ i = .int .i64 k ∧ Hid (hasB s.data.toList c = (s.data.toList.drop k).contains c)) (fun i => s.size - (intOf i).toNat)
  case atStart => exact ⟨0, by omega, rfl, Lib.hid (by simp [hasB])⟩
  case round =>
    obtain ⟨k, hk, rfl, HK⟩ := hrel
    by_cases hlt : k < s.size
    · by_cases he : s[k] = c
      · have d1 : ((s[k].toNat : Int) == (c.toNat : Int)) = true := by rw [beq_iff_eq, he]
        have HX : Hid (hasB s.data.toList c = true) := Lib.hid (by rw [HK.out, drop_get' s k hlt, he]; simp)
        clear he
        go_wp2
        go_ret
        exact ⟨ret_bool HX.out.symm, rfl⟩
      · have hne : s[k].toNat ≠ c.toNat := fun e => he (UInt8.toNat_inj.1 e)
        have d1 : ((s[k].toNat : Int) == (c.toNat : Int)) = false := by rw [beq_eq_false_iff_ne]; omega
        have HX : Hid (hasB s.data.toList c = (s.data.toList.drop (k + 1)).contains c) := Lib.hid (by rw [HK.out, drop_get' s k hlt]; simp; exact fun e => absurd e.symm he)
        clear he hne
        go_wp2
        go_round
        case rel => exact ⟨k + 1, by omega, by go_num, HX⟩
        case measure => simp [intOf]; omega
    · have HX : Hid (hasB s.data.toList c = false) := Lib.hid (by rw [HK.out, drop_nil' s k hlt]; rfl)
      go_wp2
      go_ret
      exact ⟨ret_bool HX.out.symm, rfl⟩
theorem letters_are (c : UInt8) : (⟨#[65, 66, 67, 68, 69, 70, 71, 72, 73, 74, 75, 76, 77, 78, 79, 80, 81, 82, 83, 84, 85, 86, 87, 88, 89, 90, 97, 98, 99, 100, 101, 102, 103, 104, 105, 106, 107, 108, 109, 110, 111, 112, 113, 114, 115, 116, 117, 118, 119, 120, 121, 122]⟩ : ByteArray).data.toList.contains c = letB (c.toNat : Int) := by
  revert c; apply all256; decide +kernel
theorem names_are (c : UInt8) : (⟨#[65, 66, 67, 68, 69, 70, 71, 72, 73, 74, 75, 76, 77, 78, 79, 80, 81, 82, 83, 84, 85, 86, 87, 88, 89, 90, 97, 98, 99, 100, 101, 102, 103, 104, 105, 106, 107, 108, 109, 110, 111, 112, 113, 114, 115, 116, 117, 118, 119, 120, 121, 122, 48, 49, 50, 51, 52, 53, 54, 55, 56, 57, 95]⟩ : ByteArray).data.toList.contains c = innB (c.toNat : Int) := by
  revert c; apply all256; decide +kernel
theorem among_letters (c : UInt8) (w : World) : Calls Tryd.prog 60 #[.int .u8 c.toNat, .string ⟨#[65, 66, 67, 68, 69, 70, 71, 72, 73, 74, 75, 76, 77, 78, 79, 80, 81, 82, 83, 84, 85, 86, 87, 88, 89, 90, 97, 98, 99, 100, 101, 102, 103, 104, 105, 106, 107, 108, 109, 110, 111, 112, 113, 114, 115, 116, 117, 118, 119, 120, 121, 122]⟩] w (Says w (letB (c.toNat : Int))) := by
  have h := among_any c ⟨#[65, 66, 67, 68, 69, 70, 71, 72, 73, 74, 75, 76, 77, 78, 79, 80, 81, 82, 83, 84, 85, 86, 87, 88, 89, 90, 97, 98, 99, 100, 101, 102, 103, 104, 105, 106, 107, 108, 109, 110, 111, 112, 113, 114, 115, 116, 117, 118, 119, 120, 121, 122]⟩ w (by decide)
  unfold hasB at h; rwa [letters_are] at h
theorem among_names (c : UInt8) (w : World) : Calls Tryd.prog 60 #[.int .u8 c.toNat, .string ⟨#[65, 66, 67, 68, 69, 70, 71, 72, 73, 74, 75, 76, 77, 78, 79, 80, 81, 82, 83, 84, 85, 86, 87, 88, 89, 90, 97, 98, 99, 100, 101, 102, 103, 104, 105, 106, 107, 108, 109, 110, 111, 112, 113, 114, 115, 116, 117, 118, 119, 120, 121, 122, 48, 49, 50, 51, 52, 53, 54, 55, 56, 57, 95]⟩] w (Says w (innB (c.toNat : Int))) := by
  have h := among_any c ⟨#[65, 66, 67, 68, 69, 70, 71, 72, 73, 74, 75, 76, 77, 78, 79, 80, 81, 82, 83, 84, 85, 86, 87, 88, 89, 90, 97, 98, 99, 100, 101, 102, 103, 104, 105, 106, 107, 108, 109, 110, 111, 112, 113, 114, 115, 116, 117, 118, 119, 120, 121, 122, 48, 49, 50, 51, 52, 53, 54, 55, 56, 57, 95]⟩ w (by decide)
  unfold hasB at h; rwa [names_are] at h
set_option maxHeartbeats 800000 in
theorem refRight_any (s : ByteArray) (w : World) (hs : s.size ≤ maxLen) : Calls Tryd.prog 45 #[.string s] w (Says w (right s.data.toList)) := by
  unfold maxLen at hs
  by_cases h0 : 0 < s.size
  · have hR := right_eq s h0
    have d0 : decide ((s.size : Int) < 1) = false := by simp; omega
    by_cases h1 : s.size ≤ 32
    · have d1 : decide ((32 : Int) < (s.size : Int)) = false := by simp; omega
      cases hl : letB (s[0].toNat : Int) with
      | false =>
        have H := Lib.hid hl
        have HR : Hid (right s.data.toList = false) := Lib.hid (by rw [hR, hl]; simp)
        clear hR hl
        go_enter Tryd.func45, Tryd.ntmps45
        go_wp2_with (go_at_call 60; refine (among_letters _ _).mono ?_; rintro e w' ⟨rfl, rfl⟩; rw [H.out])
        go_ret
        exact ⟨ret_bool HR.out.symm, rfl⟩
      | true =>
        have H := Lib.hid hl
        have HR : Hid (right s.data.toList = (s.data.toList.drop 1).all innC) := Lib.hid (by rw [hR, hl]; simp [h1])
        clear hR hl
        go_enter Tryd.func45, Tryd.ntmps45
        go_wp2_with (go_at_call 60; refine (among_letters _ _).mono ?_; rintro e w' ⟨rfl, rfl⟩; rw [H.out])
        go_loop [3] (fun i => ∃ k : Nat, 1 ≤ k ∧ k ≤ s.size ∧ i = .int .i64 k ∧ Hid (right s.data.toList = (s.data.toList.drop k).all innC)) (fun i => s.size - (intOf i).toNat)
        case atStart => exact ⟨1, by omega, by omega, rfl, HR⟩
        case round =>
          obtain ⟨k, hk1, hk, rfl, HK⟩ := hrel
          by_cases hlt : k < s.size
          · cases hn : innB (s[k].toNat : Int) with
            | true =>
              have HN := Lib.hid hn
              have HX : Hid (right s.data.toList = (s.data.toList.drop (k + 1)).all innC) := Lib.hid (by rw [HK.out, drop_get' s k hlt, List.all_cons]; simp [innC, hn])
              clear hn
              go_wp2_with (go_at_call 60; refine (among_names _ _).mono ?_; rintro e w' ⟨rfl, rfl⟩; rw [HN.out])
              go_round
              case rel => exact ⟨k + 1, by omega, by omega, by go_num, HX⟩
              case measure => simp [intOf]; omega
            | false =>
              have HN := Lib.hid hn
              have HX : Hid (right s.data.toList = false) := Lib.hid (by rw [HK.out, drop_get' s k hlt, List.all_cons]; simp [innC, hn])
              clear hn
              go_wp2_with (go_at_call 60; refine (among_names _ _).mono ?_; rintro e w' ⟨rfl, rfl⟩; rw [HN.out])
              go_ret
              exact ⟨ret_bool HX.out.symm, rfl⟩
          · have HX : Hid (right s.data.toList = true) := Lib.hid (by rw [HK.out, drop_nil' s k hlt]; rfl)
            go_wp2
            go_ret
            exact ⟨ret_bool HX.out.symm, rfl⟩
    · have d1 : decide ((32 : Int) < (s.size : Int)) = true := by simp; omega
      have HR : Hid (right s.data.toList = false) := Lib.hid (by rw [hR]; simp [h1])
      clear hR
      go_enter Tryd.func45, Tryd.ntmps45
      go_wp2_with fail
      go_ret
      exact ⟨ret_bool HR.out.symm, rfl⟩
  · have hnil : s.data.toList = [] := List.length_eq_zero_iff.1 (by rw [toList_eq]; omega)
    have HR : Hid (right s.data.toList = false) := Lib.hid (by rw [hnil]; rfl)
    have d0 : decide ((s.size : Int) < 1) = true := by simp; omega
    clear hnil
    go_enter Tryd.func45, Tryd.ntmps45
    go_wp2_with fail
    go_ret
    exact ⟨ret_bool HR.out.symm, rfl⟩
end Go.Proofs.YtjlpoigcalfdlaaDoor
namespace Go.Proofs.YtjlpoigcalfdlaaDoor
open Go Go.RowKit
set_option linter.unusedVariables false
theorem gTab : Tryd.prog.globalNamed "internal/strconv.uint64pow10" = some 4 := by kernel_rfl
theorem var_lt {w : World} {n : String} {g : Nat} {cs : Array Value} (hg : Tryd.prog.globalNamed n = some g) (h : w.var? Tryd.prog n = some cs) : g < w.heap.size := by
  unfold World.var? at h
  simp only [hg, Option.bind_some] at h
  by_cases hl : g < w.heap.size
  · exact hl
  · rw [Array.getElem?_eq_none (by omega)] at h; simp at h
/-- a string told, memory at most grown -/
def Tells (w : World) (l : List UInt8) (e : Ending) (w' : World) : Prop := e = .returned (.string ⟨l.toArray⟩) ∧ Below w.heap.size w w'
end Go.Proofs.YtjlpoigcalfdlaaDoor
namespace Go.Proofs.YtjlpoigcalfdlaaDoor
open Go Go.RowKit Go.Sort
set_option linter.unusedVariables false
/-- a node -/
structure Nd where
  id : Int
  con : ByteArray
  par : Int
  role : ByteArray
  props : List (ByteArray × ByteArray)
  kids : List Int
  refs : List (ByteArray × Int)
theorem below_drewN {B : Nat} {a w : World} (h : Below B a w) (n : Nat) : Below B a (w.drewN n) := ⟨h.os, h.tape, h.output, h.size, h.block⟩
/-- the slice value '.slice A n c' holds the cells xs, 'size' of them an element, in a block from lo on and below hi -/
def Row (w : World) (lo hi size : Nat) (A : Option Addr) (n c : Nat) (xs : List Value) : Prop :=
  xs.length = n * size ∧ n ≤ c ∧ c ≤ maxLen ∧ (0 < n → ∃ b o, A = some ⟨b, o, none⟩ ∧ lo ≤ b ∧ b < hi ∧ ∀ j u, xs[j]? = some u → w.cell? ⟨b, o + j, none⟩ = some u)
section
variable {w w' : World} {lo hi size n c : Nat} {A : Option Addr} {xs : List Value}
theorem Row.nil (w : World) (lo hi size : Nat) : Row w lo hi size none 0 0 [] := ⟨by simp, Nat.le_refl _, Nat.zero_le _, fun h => absurd h (by omega)⟩
theorem Row.keep (h : Row w lo hi size A n c xs) (hk : ∀ b o, b < hi → w'.cell? ⟨b, o, none⟩ = w.cell? ⟨b, o, none⟩) : Row w' lo hi size A n c xs :=
  ⟨h.1, h.2.1, h.2.2.1, fun hn => by
    obtain ⟨b, o, e, h1, h2, hc⟩ := h.2.2.2 hn
    exact ⟨b, o, e, h1, h2, fun j u hu => (hk b _ h2).trans (hc j u hu)⟩⟩
theorem Row.below (h : Row w lo hi size A n c xs) (hb : Below hi w w') : Row w' lo hi size A n c xs := h.keep fun _ _ hp => hb.cell (p := ⟨_, _, none⟩) hp
theorem Row.mono (h : Row w lo hi size A n c xs) {lo' hi' : Nat} (hl : lo' ≤ lo) (hh : hi ≤ hi') : Row w lo' hi' size A n c xs :=
  ⟨h.1, h.2.1, h.2.2.1, fun hn => by
    obtain ⟨b, o, e, h1, h2, hc⟩ := h.2.2.2 hn
    exact ⟨b, o, e, by omega, by omega, hc⟩⟩
/-- where the cells are -/
theorem Row.at_ (h : Row w lo hi size A n c xs) (hn : 0 < n) : ∃ b o, A = some ⟨b, o, none⟩ ∧ lo ≤ b ∧ b < hi ∧ ∀ j u, xs[j]? = some u → w.cell? ⟨b, o + j, none⟩ = some u := h.2.2.2 hn
end
def Blk (w : World) (g : Nat) (t : TypeId) (cs : Array Value) : Prop := w.heap[g]? = some (.cells cs t (0, 0))
section
variable {w w' : World} {g : Nat} {t : TypeId} {cs : Array Value}
theorem Blk.lt (h : Blk w g t cs) : g < w.heap.size := by
  rcases Nat.lt_or_ge g w.heap.size with hlt | hge
  · exact hlt
  · unfold Blk at h; rw [Array.getElem?_eq_none hge] at h; cases h
theorem Blk.cell (h : Blk w g t cs) (i : Nat) : w.cell? ⟨g, i, none⟩ = cs[i]? := cell_of_row w g i cs t (0, 0) h
theorem Blk.frozen (h : Blk w g t cs) (i : Nat) : w.frozen? ⟨g, i, none⟩ = false := by
  unfold Blk at h
  simp [World.frozen?, h]
theorem Blk.new (w : World) (t : TypeId) (cs : Array Value) : Blk (w.alloc (.cells cs t)) w.heap.size t cs := heap_alloc_new w _
theorem Blk.new' {w : World} {t : TypeId} {cs : Array Value} {g : Nat} (hg : g = w.heap.size) : Blk (w.alloc (.cells cs t)) g t cs := by rw [hg]; exact heap_alloc_new w _
theorem Blk.drewN (h : Blk w g t cs) (n : Nat) : Blk (w.drewN n) g t cs := h
theorem Blk.alloc (h : Blk w g t cs) (o : Obj) : Blk (w.alloc o) g t cs := (Below.heap_alloc w o g h.lt).trans h
theorem Blk.set_ (h : Blk w g t cs) (i : Nat) (u : Value) : Blk (w.setCell ⟨g, i, none⟩ u) g t (cs.setIfInBounds i u) := by
  unfold Blk at h ⊢
  simp [World.setCell, Array.getElem?_modify, h]
theorem Blk.far (h : Blk w g t cs) {p : Addr} (hp : g ≠ p.block) (u : Value) : Blk (w.setCell p u) g t cs := (Below.heap_setCell w p u g hp).trans h
theorem Blk.below {B : Nat} (h : Blk w g t cs) (hb : Below B w w') (hg : g < B) : Blk w' g t cs := (hb.block g hg).trans h
theorem Blk.after (h : Blk w g t cs) (hb : Below w.heap.size w w') : Blk w' g t cs := h.below hb h.lt
theorem Blk.grown {row : Option Nat} (h : Blk w g t cs) (hb : w.grownBy w' row) (hg : some g ≠ row) : Blk w' g t cs := (hb.block g h.lt hg).trans h
theorem Blk.ne_ {g' : Nat} {t' : TypeId} {cs' : Array Value} (h : Blk w g t cs) (h' : Blk w g' t' cs') (hne : t ≠ t') : g ≠ g' := by
  rintro rfl
  unfold Blk at h h'
  rw [h] at h'
  injection h' with h'
  injection h' with _ ht
  exact hne ht
end
def propCells (l : List (ByteArray × ByteArray)) : List Value := l.flatMap fun p => [.string p.1, .string p.2]
def refCells (l : List (ByteArray × Int)) : List Value := l.flatMap fun p => [.string p.1, .int .i64 p.2]
def intCells (l : List Int) : List Value := l.map (.int .i64)
theorem intCells_length (l : List Int) : (intCells l).length = l.length := by simp [intCells]
theorem intCells_get {l : List Int} {i : Nat} {p : Int} (h : l[i]? = some p) : (intCells l)[i]? = some (.int .i64 p) := by
  simp [intCells, h]
/-- a block of numbers -/
def IBlk (w : World) (g : Nat) (a : List Int) : Prop := Blk w g 3 (intCells a).toArray
section
variable {w w' : World} {g : Nat} {a : List Int}
theorem IBlk.cell (h : IBlk w g a) {i : Nat} (hi : i < a.length) : w.cell? ⟨g, i, none⟩ = some (.int .i64 (a.getD i 0)) := by
  rw [Blk.cell h]
  simp [intCells, hi]
theorem IBlk.set_ (h : IBlk w g a) (i : Nat) (x : Int) : IBlk (w.setCell ⟨g, i, none⟩ (.int .i64 x)) g (a.set i x) := by
  have := Blk.set_ h i (.int .i64 x)
  unfold IBlk
  have e : (intCells (a.set i x)).toArray = (intCells a).toArray.setIfInBounds i (.int .i64 x) := by simp [intCells, List.map_set]
  rw [e]; exact this
theorem IBlk.after (h : IBlk w g a) (hb : Below w.heap.size w w') : IBlk w' g a := Blk.after h hb
theorem IBlk.lt (h : IBlk w g a) : g < w.heap.size := Blk.lt h
theorem IBlk.row (h : IBlk w g a) {lo hi n c : Nat} (hn : a.length = n) (hc : n ≤ c) (hm : c ≤ maxLen) (hl : lo ≤ g) (hh : g < hi) : Row w lo hi 1 (some ⟨g, 0, none⟩) n c (intCells a) :=
  ⟨by rw [intCells_length]; omega, hc, hm, fun _ => ⟨g, 0, rfl, hl, hh, fun j u hu => by rw [Nat.zero_add, Blk.cell h]; simpa using hu⟩⟩
end
/-- a slice value, its three parts -/
structure Sl where
  A : Option Addr
  n : Nat
  c : Nat
def Sl.v (s : Sl) : Value := .slice s.A s.n s.c
/-- a node's three lists as they lie in memory -/
structure Leaf where
  p : Sl
  k : Sl
  r : Sl
/-- the texts of a node are no longer than texts may be -/
structure SzN (nd : Nd) : Prop where
  con : nd.con.size ≤ maxLen
  role : nd.role.size ≤ maxLen
  props : ∀ p ∈ nd.props, p.1.size ≤ maxLen ∧ p.2.size ≤ maxLen
  refs : ∀ p ∈ nd.refs, p.1.size ≤ maxLen
/-- the lists of a node -/
structure LeafIn (w : World) (lo hi : Nat) (nd : Nd) (L : Leaf) : Prop where
  pn : L.p.n = nd.props.length
  kn : L.k.n = nd.kids.length
  rn : L.r.n = nd.refs.length
  p : Row w lo hi 2 L.p.A L.p.n L.p.c (propCells nd.props)
  k : Row w lo hi 1 L.k.A L.k.n L.k.c (intCells nd.kids)
  r : Row w lo hi 2 L.r.A L.r.n L.r.c (refCells nd.refs)
  sz : SzN nd
/-- a node's seven cells -/
structure NodeAt (w : World) (b o : Nat) (nd : Nd) (L : Leaf) : Prop where
  c0 : w.cell? ⟨b, o, none⟩ = some (.int .i64 nd.id)
  c1 : w.cell? ⟨b, o + 1, none⟩ = some (.string nd.con)
  c2 : w.cell? ⟨b, o + 2, none⟩ = some (.int .i64 nd.par)
  c3 : w.cell? ⟨b, o + 3, none⟩ = some (.string nd.role)
  c4 : w.cell? ⟨b, o + 4, none⟩ = some (.slice L.p.A L.p.n L.p.c)
  c5 : w.cell? ⟨b, o + 5, none⟩ = some (.slice L.k.A L.k.n L.k.c)
  c6 : w.cell? ⟨b, o + 6, none⟩ = some (.slice L.r.A L.r.n L.r.c)
/-- the slice '.slice A n c' holds these nodes; what they hold lies below hi, from lo on -/
def NodesIn (w : World) (lo hi : Nat) (A : Option Addr) (n c : Nat) (nds : List Nd) : Prop :=
  nds.length = n ∧ n ≤ c ∧ c ≤ maxLen ∧ (0 < n → ∃ b o, A = some ⟨b, o, none⟩ ∧ lo ≤ b ∧ b < hi ∧ ∃ V : Nat → Leaf, ∀ i nd, nds[i]? = some nd → NodeAt w b (o + i * 7) nd (V i) ∧ LeafIn w lo hi nd (V i))
section
variable {w w' : World} {lo hi n c : Nat} {A : Option Addr} {nds : List Nd} {nd : Nd} {L : Leaf} {b o : Nat}
theorem LeafIn.keep (h : LeafIn w lo hi nd L) (hk : ∀ b o, b < hi → w'.cell? ⟨b, o, none⟩ = w.cell? ⟨b, o, none⟩) : LeafIn w' lo hi nd L := ⟨h.pn, h.kn, h.rn, h.p.keep hk, h.k.keep hk, h.r.keep hk, h.sz⟩
theorem LeafIn.below (h : LeafIn w lo hi nd L) (hb : Below hi w w') : LeafIn w' lo hi nd L := ⟨h.pn, h.kn, h.rn, h.p.below hb, h.k.below hb, h.r.below hb, h.sz⟩
theorem LeafIn.mono (h : LeafIn w lo hi nd L) {lo' hi' : Nat} (hl : lo' ≤ lo) (hh : hi ≤ hi') : LeafIn w lo' hi' nd L := ⟨h.pn, h.kn, h.rn, h.p.mono hl hh, h.k.mono hl hh, h.r.mono hl hh, h.sz⟩
theorem NodeAt.keep (h : NodeAt w b o nd L) (hk : ∀ x, w'.cell? ⟨b, x, none⟩ = w.cell? ⟨b, x, none⟩) : NodeAt w' b o nd L :=
  ⟨(hk _).trans h.c0, (hk _).trans h.c1, (hk _).trans h.c2, (hk _).trans h.c3, (hk _).trans h.c4, (hk _).trans h.c5, (hk _).trans h.c6⟩
theorem NodeAt.below (h : NodeAt w b o nd L) (hb : Below hi w w') (hlt : b < hi) : NodeAt w' b o nd L := h.keep fun _ => hb.cell (p := ⟨_, _, none⟩) hlt
theorem NodesIn.nil (w : World) (lo hi : Nat) : NodesIn w lo hi none 0 0 [] := ⟨rfl, Nat.le_refl _, Nat.zero_le _, fun h => absurd h (by omega)⟩
theorem NodesIn.keep (h : NodesIn w lo hi A n c nds) (hk : ∀ b o, b < hi → w'.cell? ⟨b, o, none⟩ = w.cell? ⟨b, o, none⟩) : NodesIn w' lo hi A n c nds :=
  ⟨h.1, h.2.1, h.2.2.1, fun hn => by
    obtain ⟨b, o, e, h1, h2, V, hc⟩ := h.2.2.2 hn
    exact ⟨b, o, e, h1, h2, V, fun i nd hi => ⟨(hc i nd hi).1.keep (fun x => hk b x h2), (hc i nd hi).2.keep hk⟩⟩⟩
theorem NodesIn.below (h : NodesIn w lo hi A n c nds) (hb : Below hi w w') : NodesIn w' lo hi A n c nds := h.keep fun _ _ hp => hb.cell (p := ⟨_, _, none⟩) hp
theorem NodesIn.mono (h : NodesIn w lo hi A n c nds) {lo' hi' : Nat} (hl : lo' ≤ lo) (hh : hi ≤ hi') : NodesIn w lo' hi' A n c nds :=
  ⟨h.1, h.2.1, h.2.2.1, fun hn => by
    obtain ⟨b, o, e, h1, h2, V, hc⟩ := h.2.2.2 hn
    exact ⟨b, o, e, by omega, by omega, V, fun i nd hi => ⟨(hc i nd hi).1, (hc i nd hi).2.mono hl hh⟩⟩⟩
/-- the node at a place -/
theorem NodesIn.at_ (h : NodesIn w lo hi A n c nds) {i : Nat} (hi' : i < n) : ∃ b o nd L, A = some ⟨b, o, none⟩ ∧ lo ≤ b ∧ b < hi ∧ nds[i]? = some nd ∧ NodeAt w b (o + i * 7) nd L ∧ LeafIn w lo hi nd L := by
  obtain ⟨b, o, e, h1, h2, V, hc⟩ := h.2.2.2 (by omega)
  have hl : i < nds.length := by rw [h.1]; exact hi'
  have hg : nds[i]? = some nds[i] := List.getElem?_eq_getElem hl
  exact ⟨b, o, nds[i], V i, e, h1, h2, hg, (hc i _ hg).1, (hc i _ hg).2⟩
/-- where they are, and all of them -/
theorem NodesIn.all (h : NodesIn w lo hi A n c nds) (hn : 0 < n) : ∃ b o, A = some ⟨b, o, none⟩ ∧ lo ≤ b ∧ b < hi ∧ ∃ V : Nat → Leaf, ∀ i nd, nds[i]? = some nd → NodeAt w b (o + i * 7) nd (V i) ∧ LeafIn w lo hi nd (V i) := h.2.2.2 hn
end
end Go.Proofs.YtjlpoigcalfdlaaDoor

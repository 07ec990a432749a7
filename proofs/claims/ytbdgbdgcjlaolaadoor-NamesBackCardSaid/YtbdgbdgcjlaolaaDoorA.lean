/-
  WALKS: awake: some texts.
-/
import Derived.Test.YtbdgbdgcjlaolaaDoorD
import Derived.Test.YtbdgbdgcjlaolaaDoorW3
import Derived.Test.YtbdgbdgcjlaolaaDoorW4
namespace Go.Proofs.YtbdgbdgcjlaolaaDoor
open Go Go.RowKit
set_option linter.unusedVariables false

theorem int_is (s : ByteArray) (r : Option Int) (w : World) (hs : s.size ≤ 281474976710656) (hE : Env w) (h : refI s.data.toList = r) : Calls Tryd.prog 14 #[.string s] w (Numbers w r) := by
  rw [← h, refI_eq]; exact int_any s w hs hE

def sA : ByteArray := ⟨#[34, 97, 92, 110, 34, 98]⟩
theorem unqA : unq sA 0 = ([97, 10], 5, 0) := by
  have h1 : scan sA 1 = (some [97, 10], 5) := by
    rw [scan_step (n := 1) (b := 97) (by decide) (by decide) (by decide +kernel), scan_step (s := sA) (i := 1 + 1) (n := 2) (b := 10) (by decide) (by decide) (by decide +kernel), scan_quote (s := sA) (i := 1 + 1 + 2) (by decide) (by decide)]
    rfl
  exact unq_some (s := sA) (t := 0) (by decide) (by decide) h1
def sB : ByteArray := ⟨#[34, 92, 113, 34]⟩
theorem unqB : unq sB 0 = ([], 2, 10) := by
  have h1 : scan sB 1 = (none, 2) := by
    rw [scan_stop (n := 1) (by decide) (by decide) (by decide +kernel)]
  exact unq_none (s := sB) (t := 0) (by decide) (by decide) h1

def UnqA (w : World) (e : Ending) (w' : World) : Prop := e = .returned (.tuple #[.string ⟨#[97, 10]⟩, .int .i64 5, .int .i64 0]) ∧ Below w.heap.size w w'
theorem unquoteA (w : World) : Calls Tryd.prog 20 #[.string ⟨#[34, 97, 92, 110, 34, 98]⟩, .int .i64 0] w (UnqA w) := by
  have h := unquote_any sA 0 w (by decide)
  rw [unqA] at h
  exact h.mono fun e w' ⟨he, hb⟩ => ⟨he, hb⟩
def UnqB (w : World) (e : Ending) (w' : World) : Prop := e = .returned (.tuple #[.string ⟨#[]⟩, .int .i64 2, .int .i64 10]) ∧ Below w.heap.size w w'
theorem unquoteB (w : World) : Calls Tryd.prog 20 #[.string ⟨#[34, 92, 113, 34]⟩, .int .i64 0] w (UnqB w) := by
  have h := unquote_any sB 0 w (by decide)
  rw [unqB] at h
  exact h.mono fun e w' ⟨he, hb⟩ => ⟨he, hb⟩

def TellsT (w : World) (t : ByteArray) (e : Ending) (w' : World) : Prop := e = .returned (.string t) ∧ Below w.heap.size w w'
theorem showM5 (w : World) (hE : Env w) : Calls Tryd.prog 16 #[.int .i64 (-5)] w (TellsT w ⟨#[45, 53]⟩) := by
  refine (show_any (-5) w (by omega) (by omega) hE).mono fun e w' ⟨he, hb⟩ => ⟨?_, hb⟩
  have h : Lib.itoa (-5) = [45, 53] := by
    have := Lib.itoa_neg 5 (by omega)
    rw [show (-(5 : Int)) = -((5 : Nat) : Int) from rfl, this, Lib.decDigits, dif_pos (by omega)]; rfl
  rw [he, h]
theorem quoteFF (w : World) : Calls Tryd.prog 19 #[.string ⟨#[255]⟩] w (TellsT w ⟨#[34, 92, 120, 102, 102, 34]⟩) :=
  (quote_any ⟨#[255]⟩ w (by decide)).mono fun e w' ⟨he, hb⟩ => ⟨he, hb⟩

structure After (w w' : World) : Prop where
  below : Below w.heap.size w w'
theorem After.refl (w : World) : After w w := ⟨Below.refl _ _⟩
theorem After.next {w w1 w2 : World} (h : After w w1) (hb : Below w1.heap.size w1 w2) : After w w2 := ⟨h.below.trans (hb.mono h.below.size)⟩

def NumC (w : World) (n c : Int) (e : Ending) (w' : World) : Prop := e = .returned (.tuple #[.int .i64 n, .int .i64 c]) ∧ Below w.heap.size w w'

set_option maxRecDepth 100000 in
set_option maxHeartbeats 1600000 in
theorem awake_any (w : World) (hE : Env w) : Calls Tryd.prog 18 #[] w (SaysB w true) := by
  have H1 : Hid (∀ w', After w w' → Calls Tryd.prog 14 #[.string ⟨#[45, 49, 50]⟩] w' (NumC w' (-12) 0)) := fun w' h => (int_is ⟨#[45, 49, 50]⟩ (some (-12)) w' (by decide) (hE.below h.below) (by decide)).mono fun e w' ⟨he, hb⟩ => ⟨he, hb⟩
  have H2 : Hid (∀ w', After w w' → Calls Tryd.prog 14 #[.string ⟨#[48, 48, 55]⟩] w' (NumC w' 0 2)) := fun w' h => (int_is ⟨#[48, 48, 55]⟩ none w' (by decide) (hE.below h.below) (by decide)).mono fun e w' ⟨he, hb⟩ => ⟨he, hb⟩
  have H3 : Hid (∀ w', Calls Tryd.prog 8 #[.string ⟨#[66, 95, 57]⟩] w' (Says w' true)) := fun w' => right_is ⟨#[66, 95, 57]⟩ true w' (by decide) (by decide)
  have H4 : Hid (∀ w', Calls Tryd.prog 8 #[.string ⟨#[95, 97]⟩] w' (Says w' false)) := fun w' => right_is ⟨#[95, 97]⟩ false w' (by decide) (by decide)
  have H5 : Hid (∀ w', Calls Tryd.prog 10 #[.string ⟨#[63, 97]⟩] w' (Says w' true)) := fun w' => own_any ⟨#[63, 97]⟩ w' (by decide)
  have H6 : Hid (∀ w', After w w' → Calls Tryd.prog 12 #[.int .i64 3, .string ⟨#[116, 114, 117, 101]⟩] w' (SaysB w' true)) := fun w' h => fits_any 3 ⟨#[116, 114, 117, 101]⟩ w' (by decide) (hE.below h.below)
  have H7 : Hid (∀ w', After w w' → Calls Tryd.prog 16 #[.int .i64 (-5)] w' (TellsT w' ⟨#[45, 53]⟩)) := fun w' h => showM5 w' (hE.below h.below)
  clear hE
  go_enter Tryd.func18, Tryd.ntmps18
  go_wp2_with fail
  refine (H1.out w (After.refl w)).mono ?_
  rintro e w1 ⟨rfl, hb1⟩
  have A1 := (After.refl w).next hb1
  clear hb1
  go_wp2_with fail
  refine (H2.out _ A1).mono ?_
  rintro e w2 ⟨rfl, hb2⟩
  have A2 := A1.next hb2
  clear hb2
  go_wp2_with fail
  refine (unquoteA _).mono ?_
  rintro e w3 ⟨rfl, hb3⟩
  have A3 := A2.next hb3
  clear hb3
  go_wp2_with fail
  refine (unquoteB _).mono ?_
  rintro e w4 ⟨rfl, hb4⟩
  have A4 := A3.next hb4
  clear hb4
  go_wp2_with fail
  refine (H3.out _).mono ?_
  rintro e w5 ⟨rfl, rfl⟩
  go_wp2_with fail
  refine (H4.out _).mono ?_
  rintro e w5 ⟨rfl, rfl⟩
  go_wp2_with fail
  refine (H5.out _).mono ?_
  rintro e w5 ⟨rfl, rfl⟩
  go_wp2_with fail
  refine (H6.out _ A4).mono ?_
  rintro e w6 ⟨rfl, hb6⟩
  have A6 := A4.next hb6
  clear hb6
  go_wp2_with fail
  refine (H7.out _ A6).mono ?_
  rintro e w7 ⟨rfl, hb7⟩
  have A7 := A6.next hb7
  clear hb7
  go_wp2_with fail
  refine (quoteFF _).mono ?_
  rintro e w8 ⟨rfl, hb8⟩
  have A8 := A7.next hb8
  clear hb8
  go_wp2_with fail
  go_ret
  exact ⟨by simp, A8.below⟩
end Go.Proofs.YtbdgbdgcjlaolaaDoor

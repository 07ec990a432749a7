/-
  WALKS: Show and Int of package names. Condition of these: the library's variables hold what its text lays.
-/
import Derived.Test.YtinhlemebnlijaaDoorN2
import Derived.Test.YtinhlemebnlijaaDoorI
import Derived.Lib.LaidTab
import Derived.Lib.SmallJoins
import Derived.Shelf.SlSorted.Search
namespace Go.Proofs.YtinhlemebnlijaaDoor
open Go Go.RowKit
set_option linter.unusedVariables false
/-- what the library's variables hold -/
structure Env (w : World) : Prop where
  syn : ∃ tp p, w.var? Tryd.prog "strconv.ErrSyntax" = some #[.iface tp p]
  rng : ∃ tp p, w.var? Tryd.prog "strconv.ErrRange" = some #[.iface tp p]
  tab : Lib.TabIs Tryd.prog w "internal/strconv.uint64pow10" .u64 Lib.pow10Tab
theorem gSyn : Tryd.prog.globalNamed "strconv.ErrSyntax" = some 2 := by kernel_rfl
theorem gRng : Tryd.prog.globalNamed "strconv.ErrRange" = some 3 := by kernel_rfl
theorem gTab : Tryd.prog.globalNamed "internal/strconv.uint64pow10" = some 4 := by kernel_rfl
theorem var_lt {w : World} {n : String} {g : Nat} {cs : Array Value} (hg : Tryd.prog.globalNamed n = some g) (h : w.var? Tryd.prog n = some cs) : g < w.heap.size := by
  unfold World.var? at h
  simp only [hg, Option.bind_some] at h
  by_cases hl : g < w.heap.size
  · exact hl
  · rw [Array.getElem?_eq_none (by omega)] at h; simp at h
theorem Env.below {w w' : World} (h : Env w) (hb : Below w.heap.size w w') : Env w' := by
  obtain ⟨⟨t1, p1, h1⟩, ⟨t2, p2, h2⟩, h3⟩ := h
  exact ⟨⟨t1, p1, var?_below hb gSyn (var_lt gSyn h1) h1⟩, ⟨t2, p2, var?_below hb gRng (var_lt gRng h2) h2⟩, var?_below hb gTab (var_lt gTab h3) h3⟩
/-- a string told, memory at most grown -/
def Tells (w : World) (l : List UInt8) (e : Ending) (w' : World) : Prop := e = .returned (.string ⟨l.toArray⟩) ∧ Below w.heap.size w w'
set_option maxHeartbeats 400000 in
theorem show_any (n : Int) (w : World) (h0 : -9223372036854775808 ≤ n) (h1 : n ≤ 9223372036854775807) (hE : Env w) : Calls Tryd.prog 48 #[.int .i64 n] w (Tells w (Lib.itoa n)) := by
  have H : Hid (Calls Tryd.prog 60 #[.int .i64 n, .int .i64 10] w (Tells w (Lib.itoa n))) :=
    (Tryd.strconv_FormatInt_10 n h0 h1 w hE.tab).mono fun e w' ⟨he, k, os, hw⟩ => ⟨he, by rw [hw]; exact below_grown_sl _ _ _ _ (Nat.le_refl _)⟩
  clear h0 h1 hE
  go_enter Tryd.func48, Tryd.ntmps48
  go_wp2_with (go_at_call 60; refine H.out.mono ?_; rintro e w' ⟨rfl, hb⟩)
  go_ret
  exact ⟨rfl, hb⟩
/-- a number told, or none -/
def Numbers (w : World) (r : Option Int) (e : Ending) (w' : World) : Prop := e = .returned (.tuple #[.int .i64 (r.getD 0), .int .i64 (if r.isSome then 0 else 2)]) ∧ Below w.heap.size w w'
/-- what ParseInt tells: no error and the number, or an error -/
def Parses (w : World) (l : List UInt8) (e : Ending) (w' : World) : Prop :=
  ∃ (n : Int) (v : Value), e = .returned (.tuple #[.int .i64 n, v]) ∧ Below w.heap.size w w' ∧
    ((v = .nilIface ∧ Lib.parseIntB 64 l = .ok n) ∨ (∃ t p, v = .iface t p) ∧ ∀ u, Lib.parseIntB 64 l ≠ .ok u)
theorem parse_any (s : ByteArray) (w : World) (hs : s.size ≤ 281474976710656) (hE : Env w) : Calls Tryd.prog 54 #[.string s, .int .i64 10, .int .i64 64] w (Parses w s.data.toList) := by
  obtain ⟨⟨t1, p1, h1⟩, ⟨t2, p2, h2⟩, _⟩ := hE
  cases h : Lib.parseIntB 64 s.data.toList with
  | ok v =>
    refine (Tryd.strconv_ParseInt_10_at64_ok s (by omega) v h w).mono fun e w' ⟨he, hw⟩ => ⟨v, .nilIface, he, ?_, .inl ⟨rfl, h⟩⟩
    rcases hw with rfl | ⟨t, rfl⟩
    · exact Below.refl _ _
    · exact Joins.below_bytesWorld _ _ _ _ (Nat.le_refl _)
  | «syntax» =>
    exact (Tryd.strconv_ParseInt_10_at64_syntax_var s hs h t1 p1 w h1).mono fun e w' ⟨N, he, _, _, hb⟩ => ⟨0, _, he, hb, .inr ⟨⟨_, _, rfl⟩, by rw [h]; simp⟩⟩
  | range =>
    exact (Tryd.strconv_ParseInt_10_at64_range_var s hs h t2 p2 w h2).mono fun e w' ⟨N, he, _, _, hb⟩ => ⟨_, _, he, hb, .inr ⟨⟨_, _, rfl⟩, by rw [h]; simp⟩⟩
theorem intT_err {l : List UInt8} (h : ∀ u, Lib.parseIntB 64 l ≠ .ok u) : intT l = none := by
  unfold intT
  cases hp : Lib.parseIntB 64 l with
  | ok u => exact absurd hp (h u)
  | «syntax» => rfl
  | range => rfl
theorem intT_yes {l : List UInt8} {n : Int} (h : Lib.parseIntB 64 l = .ok n) (e : Lib.itoa n = l) : intT l = some n := by
  unfold intT; rw [h]; simp only; rw [if_pos e]
theorem intT_no {l : List UInt8} {n : Int} (h : Lib.parseIntB 64 l = .ok n) (e : ¬ Lib.itoa n = l) : intT l = none := by
  unfold intT; rw [h]; simp only; rw [if_neg e]
set_option maxHeartbeats 400000 in
theorem int_any (s : ByteArray) (w : World) (hs : s.size ≤ 281474976710656) (hE : Env w) : Calls Tryd.prog 35 #[.string s] w (Numbers w (intT s.data.toList)) := by
  have HE := Lib.hid hE
  clear hE
  go_enter Tryd.func35, Tryd.ntmps35
  go_wp2_with fail
  refine (parse_any s w hs HE.out).mono ?_
  rintro e w1 ⟨n, v, rfl, hb, hv⟩
  rcases hv with ⟨rfl, hp⟩ | ⟨⟨t, p, rfl⟩, hno⟩
  · have hbd := Lib.parseIntB_bounds hp
    simp at hbd
    have HS : Hid (Calls Tryd.prog 48 #[.int .i64 n] w1 (Tells w1 (Lib.itoa n))) := show_any n w1 (by omega) (by omega) (HE.out.below hb)
    have HP := Lib.hid hp
    clear hbd hp
    by_cases he : Lib.itoa n = s.data.toList
    · have d1 : (Lib.itoa n == s.toList) = true := by rw [Lib.toList_data, he]; simp
      have HR : Hid (intT s.data.toList = some n) := Lib.hid (intT_yes HP.out he)
      clear he
      go_wp2_with (go_at_call 48; refine HS.out.mono ?_; rintro e w2 ⟨rfl, hb2⟩)
      go_ret2
      exact ⟨by rw [HR.out]; rfl, hb.trans (hb2.mono hb.size)⟩
    · have d1 : (Lib.itoa n == s.toList) = false := by rw [Lib.toList_data]; simpa using he
      have HR : Hid (intT s.data.toList = none) := Lib.hid (intT_no HP.out he)
      clear he
      go_wp2_with (go_at_call 48; refine HS.out.mono ?_; rintro e w2 ⟨rfl, hb2⟩)
      go_ret2
      exact ⟨by rw [HR.out]; rfl, hb.trans (hb2.mono hb.size)⟩
  · have HR : Hid (intT s.data.toList = none) := Lib.hid (intT_err hno)
    clear hno
    go_wp2_with fail
    go_ret2
    exact ⟨by rw [HR.out]; rfl, hb⟩
end Go.Proofs.YtinhlemebnlijaaDoor

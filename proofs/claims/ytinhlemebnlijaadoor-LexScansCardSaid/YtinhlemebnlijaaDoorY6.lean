/-
  WALKS over package lex: how far a name, an int goes (the closure of newReader).
-/
import Derived.Test.YtinhlemebnlijaaDoorY5
namespace Go.Proofs.YtinhlemebnlijaaDoor
open Go Go.RowKit
set_option linter.unusedVariables false
theorem ext_take (s : ByteArray) (p n : Nat) : (s.extract p (p + n + 1)).data.toList = (s.data.toList.drop p).take (n + 1) := by
  rw [Lib.extract_data, show p + n + 1 - p = n + 1 by omega]
theorem ext_size (s : ByteArray) (p n : Nat) (h : s.size ≤ 4096) : (s.extract p (p + n + 1)).size ≤ 4096 := by
  rw [← toList_eq, ext_take, List.length_take, List.length_drop, toList_eq]; omega
/-- so far -/
structure FarAt (P : List UInt8 → Bool) (r : List UInt8) (n : Nat) : Prop where
  out : farN P r n = far P r
theorem FarAt.go {P : List UInt8 → Bool} {r : List UInt8} {n : Nat} (h : FarAt P r n) (hn : n < r.length) (hp : P (r.take (n + 1)) = true) : FarAt P r (n + 1) := ⟨by rw [← h.out, farN_go hn hp]⟩
theorem FarAt.no {P : List UInt8 → Bool} {r : List UInt8} {n p : Nat} (h : FarAt P r n) (hp : P (r.take (n + 1)) = false) : ((p + n : Nat) : Int) = ((p + far P r : Nat) : Int) := by rw [← h.out, farN_no hp]
theorem FarAt.fin {P : List UInt8 → Bool} {r : List UInt8} {n p : Nat} (h : FarAt P r n) (hn : ¬ n < r.length) : ((p + n : Nat) : Int) = ((p + far P r : Nat) : Int) := by rw [← h.out, farN_end hn]
def Tells1 (w : World) (b : Bool) (e : Ending) (w' : World) : Prop := e = .returned (.bool b) ∧ Below w.heap.size w w'
theorem counts_of {w w' : World} {a b : Nat} (h : (a : Int) = (b : Int)) (hb : Below w.heap.size w w') : Counts w b (.returned (.int .i64 a)) w' := ⟨by rw [h], hb⟩
set_option maxHeartbeats 800000 in
theorem farRight_any (s : ByteArray) (p g : Nat) (w : World) (hs : s.size ≤ 4096) (hp : p ≤ s.size) (hB : Blk w g 9 #[.string s]) :
    Calls Tryd.prog 30 #[.int .i64 p, .func (.func 31) #[] #[], .pointer (some ⟨g, 0, none⟩)] w (Counts w (p + far right (s.data.toList.drop p))) := by
  have HC : Hid (∀ n w', Below w.heap.size w w' → Calls Tryd.prog 31 #[.string (s.extract p (p + n + 1))] w' (Tells1 w' (right ((s.data.toList.drop p).take (n + 1))))) := Lib.hid fun n w' hb => by
    rw [← ext_take]
    exact (right_any _ w' (by have := ext_size s p n hs; unfold maxLen; omega)).mono fun e w2 ⟨he, hw⟩ => ⟨he, by rw [← hw]; exact Below.refl _ _⟩
  have HL : Hid ((s.data.toList.drop p).length = s.size - p) := Lib.hid (by rw [List.length_drop, toList_eq])
  obtain ⟨r, hr⟩ : ∃ r, s.data.toList.drop p = r := ⟨_, rfl⟩
  rw [hr] at HC HL
  rw [hr]
  have HBK : Hid (∀ w', Below w.heap.size w w' → Blk w' g 9 #[.string s]) := Lib.hid fun w' hb => hB.after hb
  clear hr hB
  go_enter Tryd.func30, Tryd.ntmps30
  go_wp2_with fail
  go_loopw [6] (fun i wr => ∃ n : Nat, p + n ≤ s.size ∧ i = .int .i64 ((p + n : Nat) : Int) ∧ FarAt right r n ∧ Below w.heap.size w wr) (fun i _ => s.size - (intOf i).toNat)
  case atStart => exact ⟨0, by omega, by simp, ⟨rfl⟩, Below.refl _ _⟩
  case round =>
    obtain ⟨n, hn, rfl, HF, hb⟩ := hrel
    have hc0 : wr.cell? ⟨g, 0, none⟩ = some (.string s) := (HBK.out wr hb).cell 0
    have HN := Lib.hid (HC.out n wr hb)
    have HBL := Lib.hid hb
    clear hb
    by_cases hlt : p + n < s.size
    · cases hpv : right (r.take (n + 1)) with
      | true =>
        rw [hpv] at HN
        have HX := HF.go (by rw [HL.out]; omega) hpv
        clear hpv
        go_wp2_with (go_at_call 31; refine HN.out.mono ?_; rintro e w2 ⟨rfl, hb2⟩)
        exact ⟨⟨n + 1, by omega, by go_num, HX, HBL.out.trans (hb2.mono HBL.out.size)⟩, by simp [intOf]; omega⟩
      | false =>
        rw [hpv] at HN
        have HX := Lib.hid (HF.no (p := p) hpv)
        clear hpv
        go_wp2_with (go_at_call 31; refine HN.out.mono ?_; rintro e w2 ⟨rfl, hb2⟩)
        go_ret
        exact counts_of HX.out (HBL.out.trans (hb2.mono HBL.out.size))
    · have HX := Lib.hid (HF.fin (p := p) (by rw [HL.out]; omega))
      go_wp2_with fail
      go_ret
      exact counts_of HX.out HBL.out
set_option maxHeartbeats 800000 in
theorem farDigits_any (s : ByteArray) (p g : Nat) (w : World) (hs : s.size ≤ 4096) (hp : p ≤ s.size) (hB : Blk w g 9 #[.string s]) (hE : Env w) :
    Calls Tryd.prog 30 #[.int .i64 p, .func (.func 34) #[] #[], .pointer (some ⟨g, 0, none⟩)] w (Counts w (p + far digP (s.data.toList.drop p))) := by
  have HC : Hid (∀ n w', Below w.heap.size w w' → Calls Tryd.prog 34 #[.string (s.extract p (p + n + 1))] w' (Tells1 w' (digP ((s.data.toList.drop p).take (n + 1))))) := Lib.hid fun n w' hb => by
    rw [← ext_take]
    exact digits_any _ w' (ext_size s p n hs) (hE.below hb)
  have HL : Hid ((s.data.toList.drop p).length = s.size - p) := Lib.hid (by rw [List.length_drop, toList_eq])
  obtain ⟨r, hr⟩ : ∃ r, s.data.toList.drop p = r := ⟨_, rfl⟩
  rw [hr] at HC HL
  rw [hr]
  have HBK : Hid (∀ w', Below w.heap.size w w' → Blk w' g 9 #[.string s]) := Lib.hid fun w' hb => hB.after hb
  clear hr hB hE
  go_enter Tryd.func30, Tryd.ntmps30
  go_wp2_with fail
  go_loopw [6] (fun i wr => ∃ n : Nat, p + n ≤ s.size ∧ i = .int .i64 ((p + n : Nat) : Int) ∧ FarAt digP r n ∧ Below w.heap.size w wr) (fun i _ => s.size - (intOf i).toNat)
  case atStart => exact ⟨0, by omega, by simp, ⟨rfl⟩, Below.refl _ _⟩
  case round =>
    obtain ⟨n, hn, rfl, HF, hb⟩ := hrel
    have hc0 : wr.cell? ⟨g, 0, none⟩ = some (.string s) := (HBK.out wr hb).cell 0
    have HN := Lib.hid (HC.out n wr hb)
    have HBL := Lib.hid hb
    clear hb
    by_cases hlt : p + n < s.size
    · cases hpv : digP (r.take (n + 1)) with
      | true =>
        rw [hpv] at HN
        have HX := HF.go (by rw [HL.out]; omega) hpv
        clear hpv
        go_wp2_with (go_at_call 34; refine HN.out.mono ?_; rintro e w2 ⟨rfl, hb2⟩)
        exact ⟨⟨n + 1, by omega, by go_num, HX, HBL.out.trans (hb2.mono HBL.out.size)⟩, by simp [intOf]; omega⟩
      | false =>
        rw [hpv] at HN
        have HX := Lib.hid (HF.no (p := p) hpv)
        clear hpv
        go_wp2_with (go_at_call 34; refine HN.out.mono ?_; rintro e w2 ⟨rfl, hb2⟩)
        go_ret
        exact counts_of HX.out (HBL.out.trans (hb2.mono HBL.out.size))
    · have HX := Lib.hid (HF.fin (p := p) (by rw [HL.out]; omega))
      go_wp2_with fail
      go_ret
      exact counts_of HX.out HBL.out
end Go.Proofs.YtinhlemebnlijaaDoor

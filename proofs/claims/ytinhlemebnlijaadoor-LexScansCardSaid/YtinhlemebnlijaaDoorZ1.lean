/-
  WALKS over the document's own answers: two lists that hold the same tokens are alike, At and all; its lists of words and marks; is a text in a list.
-/
import Derived.Test.YtinhlemebnlijaaDoorY13
import Derived.Test.YtinhlemebnlijaaDoorN2
import Derived.Test.YtinhlemebnlijaaDoorN5
import Derived.Deep.QuietTactic
import Derived.BigQuiet
namespace Go.Proofs.YtinhlemebnlijaaDoor
open Go Go.RowKit
set_option linter.unusedVariables false
set_option maxHeartbeats 3200000 in
theorem refAlike_true (w : World) (hi hi' : Nat) (A A' : Option Addr) (n c c' : Nat) (l : List Tok) (h : TokIn w hi A n c l) (h' : TokIn w hi' A' n c' l) (hh : hi ≤ w.heap.size) (hh' : hi' ≤ w.heap.size) :
    Calls Tryd.prog 11 #[.slice A n c, .slice A' n c', .bool true] w (Tells1 w true) := by
  have hn := h.max
  have HI : Hid (∀ Y, Below w.heap.size w Y → TokIn Y hi A n c l) := Lib.hid fun Y hb => h.below (hb.mono hh)
  have HI' : Hid (∀ Y, Below w.heap.size w Y → TokIn Y hi' A' n c' l) := Lib.hid fun Y hb => h'.below (hb.mono hh')
  unfold maxLen at hn
  clear h h'
  go_enter Tryd.func11, Tryd.ntmps11
  go_wp2_with fail
  go_loopw [7] (fun i wr => ∃ k : Nat, k ≤ n ∧ i = .int .i64 k ∧ Hid (∃ q, wr = w.drewN q)) (fun i _ => n - (intOf i).toNat)
  case atStart => exact ⟨0, by omega, rfl, Lib.hid ⟨0, rfl⟩⟩
  case round =>
    obtain ⟨k, hk, rfl, HQ⟩ := hrel
    have hb : Below w.heap.size w wr := by obtain ⟨q, rfl⟩ := HQ.out; exact below_drewN (Below.refl _ _) q
    by_cases hlt : k < n
    · obtain ⟨b, o, t, rfl, hbl, htk, hc⟩ := (HI.out wr hb).at_ hlt
      obtain ⟨b', o', t', rfl, hbl', htk', hc'⟩ := (HI'.out wr hb).at_ hlt
      obtain rfl : t' = t := by rw [htk] at htk'; exact (Option.some.inj htk').symm
      have a0 := hc.c0
      have a1 := hc.c1
      have a2 := hc.c2
      have a3 := hc.c3
      have b0 := hc'.c0
      have b1 := hc'.c1
      have b2 := hc'.c2
      have b3 := hc'.c3
      have g1 : (k : Int) < (n : Int) := by omega
      have g0 : (0 : Int) ≤ (k : Int) := by omega
      clear hc hc' hb htk htk'
      go_wp2_with fail
      go_quiet (fail)
      go_wp2_with fail
      exact ⟨⟨k + 1, by omega, by go_num, by obtain ⟨q, hq⟩ := HQ.out; exact Lib.hid ⟨_, by rw [hq]; exact World.drewN_drewN _ _ _⟩⟩, by simp [intOf]; omega⟩
    · go_wp2_with fail
      go_ret
      exact tells1 rfl hb
def strCells (L : List (List UInt8)) : List Value := L.map fun m => .string (ba m)
theorem strCells_len (L : List (List UInt8)) : (strCells L).length = L.length := by simp [strCells]
theorem strCells_get {L : List (List UInt8)} {i : Nat} {m : List UInt8} (h : L[i]? = some m) : (strCells L)[i]? = some (.string (ba m)) := by
  unfold strCells; rw [List.getElem?_map, h]; rfl
/-- a new list of texts -/
def Lists (w : World) (n : Nat) (L : List (List UInt8)) (e : Ending) (w' : World) : Prop :=
  ∃ g, e = .returned (.slice (some ⟨g, 0, none⟩) n n) ∧ Row w' 0 w'.heap.size 1 (some ⟨g, 0, none⟩) n n (strCells L) ∧ Below w.heap.size w w'
theorem lists_new (w : World) (n : Nat) (L : List (List UInt8)) (cs : Array Value) (hc : cs.toList = strCells L) (hn : L.length = n) (hm : n ≤ 100) : Row (w.alloc (.cells cs 9)) 0 (w.alloc (.cells cs 9)).heap.size 1 (some ⟨w.heap.size, 0, none⟩) n n (strCells L) := by
  have hs : cs.size = n := by rw [← Array.length_toList, hc, strCells_len, hn]
  rw [← hc]
  exact (row_blk (Blk.new w 9 cs) (by omega) (Nat.le_refl _) (by unfold maxLen; omega)).mono (Nat.zero_le _) (by simp)
def docMarks : List (List UInt8) := [[45, 62], [33, 33], [33, 61], [61, 61], [60, 61], [46], [35], [94], [63], [40], [41], [43], [45], [42], [60], [58]]
theorem docMarks_has (l : List UInt8) : docMarks.contains l = markB l := by
  unfold markB
  have h1 : ∀ m ∈ docMarks, m ∈ marksL := by decide
  have h2 : ∀ m ∈ marksL, m ∈ docMarks := by decide
  rw [Bool.eq_iff_iff]
  simp only [List.contains_iff_mem]
  exact ⟨h1 l, h2 l⟩
theorem docMarks_beg (l : List UInt8) : docMarks.any (fun m => l.isPrefixOf m) = begM l := by
  unfold begM
  have h1 : ∀ m ∈ docMarks, m ∈ marksL := by decide
  have h2 : ∀ m ∈ marksL, m ∈ docMarks := by decide
  rw [Bool.eq_iff_iff]
  simp only [List.any_eq_true]
  exact ⟨fun ⟨m, hm, h⟩ => ⟨m, h1 m hm, h⟩, fun ⟨m, hm, h⟩ => ⟨m, h2 m hm, h⟩⟩
theorem refWords_any (w : World) : Calls Tryd.prog 44 #[] w (Lists w 22 wordsL) := by
  go_enter Tryd.func44, Tryd.ntmps44
  go_wp2_with fail
  go_ret
  exact ⟨_, rfl, lists_new w 22 wordsL _ (by kernel_rfl) rfl (by omega), (Below.refl _ _).alloc (Nat.le_refl _) _⟩
theorem refMarks_any (w : World) : Calls Tryd.prog 42 #[] w (Lists w 16 docMarks) := by
  go_enter Tryd.func42, Tryd.ntmps42
  go_wp2_with fail
  go_ret
  exact ⟨_, rfl, lists_new w 16 docMarks _ (by kernel_rfl) rfl (by omega), (Below.refl _ _).alloc (Nat.le_refl _) _⟩
theorem strs_at {w : World} {hi n c : Nat} {A : Option Addr} {L : List (List UInt8)} (h : Row w 0 hi 1 A n c (strCells L)) {i : Nat} (hi' : i < n) : ∃ b o m, A = some ⟨b, o, none⟩ ∧ b < hi ∧ L[i]? = some m ∧ w.cell? ⟨b, o + i, none⟩ = some (.string (ba m)) := by
  have hl : L.length = n := by have := h.1; rw [strCells_len] at this; omega
  obtain ⟨b, o, e, _, hlt, hc⟩ := Row.at_ h (by omega)
  exact ⟨b, o, _, e, hlt, List.getElem?_eq_getElem (by omega), hc i _ (strCells_get (List.getElem?_eq_getElem (by omega)))⟩
theorem drop_has {L : List (List UInt8)} {k : Nat} {m s : List UInt8} (hm : L[k]? = some m) : (L.drop k).contains s = ((s == m) || (L.drop (k + 1)).contains s) := by
  obtain ⟨h, e⟩ := List.getElem?_eq_some_iff.1 hm
  rw [List.drop_eq_getElem_cons h, e, List.contains_cons]
theorem ba_toList (m : List UInt8) : (ba m).toList = m := by rw [Lib.toList_data, ba_data]
set_option maxHeartbeats 1600000 in
theorem refIn_any (w : World) (hi : Nat) (A : Option Addr) (n c : Nat) (L : List (List UInt8)) (s : ByteArray) (b : Bool) (h : Row w 0 hi 1 A n c (strCells L)) (hr : L.contains s.data.toList = b) : Calls Tryd.prog 43 #[.slice A n c, .string s] w (Says w b) := by
  have HI := Lib.hid h
  have HR0 := Lib.hid hr
  have HL : Hid (L.length = n) := Lib.hid (by have := h.1; rw [strCells_len] at this; omega)
  have hn : n ≤ maxLen := Nat.le_trans h.2.1 h.2.2.1
  unfold maxLen at hn
  clear h hr
  go_enter Tryd.func43, Tryd.ntmps43
  go_wp2_with fail
  go_loop [5] (fun i => ∃ k : Nat, k ≤ n ∧ i = .int .i64 k ∧ Hid ((L.drop k).contains s.data.toList = b)) (fun i => n - (intOf i).toNat)
  case atStart => exact ⟨0, by omega, rfl, Lib.hid (by rw [List.drop_zero]; exact HR0.out)⟩
  case round =>
    obtain ⟨k, hk, rfl, HK⟩ := hrel
    by_cases hlt : k < n
    · obtain ⟨bl, o, m, rfl, hb, hm, hc⟩ := strs_at HI.out hlt
      have HD := Lib.hid (drop_has (s := s.data.toList) hm)
      obtain ⟨M, hM⟩ : ∃ M, ba m = M := ⟨_, rfl⟩
      rw [hM] at hc
      have HM := Lib.hid hM
      clear hm hM
      cases he : (M.toList == s.toList) with
      | true =>
        have HR : Hid (b = true) := Lib.hid (by
          have h := HK.out
          rw [HD.out] at h
          have e := eq_of_beq he
          rw [← HM.out, ba_toList, Lib.toList_data] at e
          rw [← h, e]; simp)
        go_wp2_with fail
        go_ret
        exact ⟨ret_bool HR.out.symm, rfl⟩
      | false =>
        have HR : Hid ((L.drop (k + 1)).contains s.data.toList = b) := Lib.hid (by
          have h := HK.out
          rw [HD.out] at h
          have e := beq_eq_false_iff_ne.1 he
          rw [← HM.out, ba_toList, Lib.toList_data] at e
          have : (s.data.toList == m) = false := by rw [beq_eq_false_iff_ne]; exact fun x => e x.symm
          rwa [this, Bool.false_or] at h)
        go_wp2_with fail
        go_round
        case rel => exact ⟨k + 1, by omega, by go_num, HR⟩
        case measure => simp [intOf]; omega
    · have HR : Hid (b = false) := Lib.hid (by have := HK.out; rw [List.drop_eq_nil_of_le (by have := HL.out; omega)] at this; rw [← this]; rfl)
      go_wp2_with fail
      go_ret
      exact ⟨ret_bool HR.out.symm, rfl⟩
end Go.Proofs.YtinhlemebnlijaaDoor

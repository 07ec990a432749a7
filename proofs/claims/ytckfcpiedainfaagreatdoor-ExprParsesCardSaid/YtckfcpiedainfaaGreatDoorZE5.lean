/-
  WALKS over package names: numbered, digit. What each call answers.
  BYTES IN A SLICE OF THE CALL's OWN: append of bytes, append of a string, a string made of them: each as the walk takes it.
  WALKS over package names: addForm, Quote.
  WALKS over package names: Quote.
-/
import Derived.Test.YtckfcpiedainfaaGreatDoorZE4
import Derived.Test.YtckfcpiedainfaaGreatDoorRows
import Derived.Test.YtckfcpiedainfaaGreatDoorShelf
import Derived.WalkKit
import Derived.WalkSpells
import Derived.WalkLawsBesides
import Derived.Lib.AppendStr
import Derived.Deep.RegionLaw
import Derived.RegionTactic
import Derived.BigRegion
import Derived.Deep.QuietTactic
import Derived.BigQuiet
import Derived.Lib.BufferRead
namespace Go.Proofs.YtckfcpiedainfaaGreatDoor
open Go.RowKit
set_option linter.unusedVariables false
theorem ret_bool {a b : Bool} (h : a = b) : Ending.returned (.bool a) = .returned (.bool b) := by rw [h]
set_option maxHeartbeats 400000 in
theorem numbered_any (n : Int) (w : World) :
    Calls Tryz.prog 77 #[.int .u8 n] w fun e w' => e = .returned (.bool (numB n)) ∧ w = w' := by
  go_enter Tryz.func77, Tryz.ntmps77
  go_wp2
  all_goals go_ret
  all_goals refine ⟨ret_bool ?_, rfl⟩
  all_goals (unfold numB; simp [*])
theorem numbered_yes (n : Int) (w : World) (h : numB n = true) :
    Calls Tryz.prog 77 #[.int .u8 n] w fun e w' => e = .returned (.bool true) ∧ w = w' := by
  rw [← h]; exact numbered_any n w
theorem numbered_no (n : Int) (w : World) (h : numB n = false) :
    Calls Tryz.prog 77 #[.int .u8 n] w fun e w' => e = .returned (.bool false) ∧ w = w' := by
  rw [← h]; exact numbered_any n w
theorem index_hexes (c : UInt8) (w : World) :
    Calls Tryz.prog 119 #[.string ⟨#[48, 49, 50, 51, 52, 53, 54, 55, 56, 57, 97, 98, 99, 100, 101, 102]⟩, .int .u8 c.toNat] w fun e w' => e = .returned (.int .i64 (hexIx c)) ∧ w = w' := by
  refine (Tryz.strings_IndexByte _ _ w).mono ?_
  rintro e w' ⟨rfl, rfl⟩
  refine ⟨?_, rfl⟩
  have e : ((c.toNat : Int)).toNat.toUInt8 = c := by simp
  rw [e]
  rfl
set_option maxHeartbeats 400000 in
theorem digit_none (s : ByteArray) (k : Int) (w : World) (h0 : 0 ≤ k) (hs : s.size ≤ maxLen) (h : digS s k.toNat = none) :
    Calls Tryz.prog 108 #[.string s, .int .i64 k] w fun e w' => e = .returned (.tuple #[.int .u8 0, .bool false]) ∧ w = w' := by
  obtain ⟨k, rfl⟩ := Int.eq_ofNat_of_zero_le h0
  rw [Int.toNat_natCast] at h
  unfold maxLen at hs
  by_cases hk : k < s.size
  · have hi : hexIx s[k] < 0 := by
      unfold digS at h
      rw [dif_pos hk] at h
      by_cases hh : hexIx s[k] < 0
      · exact hh
      · rw [if_neg hh] at h; cases h
    clear h
    go_enter Tryz.func108, Tryz.ntmps108
    go_wp2_with (go_at_call 119; refine (index_hexes _ _).mono ?_; rintro e w' ⟨rfl, rfl⟩)
    go_ret2
    exact ⟨rfl, rfl⟩
  · clear h
    go_enter Tryz.func108, Tryz.ntmps108
    go_wp2
    go_ret2
    exact ⟨rfl, rfl⟩
set_option maxHeartbeats 400000 in
theorem digit_some (s : ByteArray) (k : Int) (n : Nat) (w : World) (h0 : 0 ≤ k) (hs : s.size ≤ maxLen) (h : digS s k.toNat = some n) :
    Calls Tryz.prog 108 #[.string s, .int .i64 k] w fun e w' => e = .returned (.tuple #[.int .u8 n, .bool true]) ∧ w = w' := by
  obtain ⟨k, rfl⟩ := Int.eq_ofNat_of_zero_le h0
  rw [Int.toNat_natCast] at h
  unfold maxLen at hs
  have hb := digS_lt h
  obtain ⟨hn, hk⟩ := hb
  have hi : 0 ≤ hexIx s[k] ∧ hexIx s[k] = n := by
    unfold digS at h
    rw [dif_pos hk] at h
    by_cases hh : hexIx s[k] < 0
    · rw [if_pos hh] at h; cases h
    · rw [if_neg hh] at h
      have := Option.some.inj h
      omega
  clear h
  obtain ⟨hi0, hi1⟩ := hi
  have hi2 := hexIx_lt s[k]
  have H := Lib.hid hi1
  clear hi1
  go_enter Tryz.func108, Tryz.ntmps108
  go_wp2_with (go_at_call 119; refine (index_hexes _ _).mono ?_; rintro e w' ⟨rfl, rfl⟩)
  go_ret2
  rw [H.out]
  exact ⟨rfl, rfl⟩
theorem or_low (h l : Nat) (a : h < 16) (b : l < 16) : bits BinOp.or IntKind.u8 ((h : Int) * 16) l = 16 * (h : Int) + l := by
  have : ∀ (h l : Fin 16), bits BinOp.or IntKind.u8 ((h.val : Int) * 16) (l.val : Int) = 16 * (h.val : Int) + l.val := by decide +kernel
  exact this ⟨h, a⟩ ⟨l, b⟩
theorem or_15 (h : Nat) (a : h < 16) : bits BinOp.or IntKind.u8 ((h : Int) * 16) 15 = 16 * (h : Int) + 15 := or_low h 15 a (by omega)
set_option maxHeartbeats 400000 in
theorem byNumber_any (s : ByteArray) (k : Int) (n : Nat) (r : Option Nat) (w : World) (h0 : 0 ≤ k) (hs : s.size ≤ maxLen) (h : stepNum s k.toNat = (n, r)) :
    Calls Tryz.prog 94 #[.string s, .int .i64 k] w fun e w' => e = .returned (.tuple #[.int .u8 ((r.getD 0 : Nat) : Int), .int .i64 (k + n), .bool r.isSome]) ∧ w = w' := by
  obtain ⟨k, rfl⟩ := Int.eq_ofNat_of_zero_le h0
  rw [Int.toNat_natCast] at h
  have hs' := hs
  unfold maxLen at hs'
  unfold stepNum at h
  cases h1 : digS s k with
  | none =>
    rw [h1] at h
    simp only [Prod.mk.injEq] at h
    obtain ⟨rfl, rfl⟩ := h
    have H1 := Lib.hid h1
    clear h1
    go_enter Tryz.func94, Tryz.ntmps94
    go_wp2_with (go_at_call 108; refine (digit_none s k _ (by omega) hs H1.out).mono ?_; rintro e w' ⟨rfl, rfl⟩)
    go_ret3
    exact ⟨by simp, rfl⟩
  | some a =>
    rw [h1] at h
    simp only at h
    obtain ⟨a1, a2⟩ := digS_lt h1
    have H1 := Lib.hid h1
    have e15 := or_15 a a1
    clear h1
    cases hn : numB (16 * (a : Int) + 15) with
    | false =>
      rw [hn] at h
      simp only [Bool.false_eq_true, if_false, Prod.mk.injEq] at h
      obtain ⟨rfl, rfl⟩ := h
      have HN := Lib.hid hn
      clear hn
      go_enter Tryz.func94, Tryz.ntmps94
      go_wp2_with (first | (go_at_call 108; refine (digit_some s k a _ (by omega) hs H1.out).mono ?_; rintro e w' ⟨rfl, rfl⟩) | (go_at_call 77; refine (numbered_no _ _ HN.out).mono ?_; rintro e w' ⟨rfl, rfl⟩))
      go_ret3
      exact ⟨by simp, rfl⟩
    | true =>
      rw [hn] at h
      simp only [if_true] at h
      have HN := Lib.hid hn
      clear hn
      cases h2 : digS s (k + 1) with
      | none =>
        rw [h2] at h
        simp only [Prod.mk.injEq] at h
        obtain ⟨rfl, rfl⟩ := h
        have H2 : Hid (digS s ((k : Int) + 1).toNat = none) := Lib.hid (by rw [show ((k : Int) + 1).toNat = k + 1 from by omega]; exact h2)
        clear h2
        go_enter Tryz.func94, Tryz.ntmps94
        go_wp2_with fail
        refine (digit_some s k a _ (by omega) hs H1.out).mono ?_
        rintro e w' ⟨rfl, rfl⟩
        go_wp2_with (go_at_call 77; refine (numbered_yes _ _ HN.out).mono ?_; rintro e w' ⟨rfl, rfl⟩)
        refine (digit_none s (k + 1) _ (by omega) hs H2.out).mono ?_
        rintro e w' ⟨rfl, rfl⟩
        go_wp2
        go_ret3
        exact ⟨by simp, rfl⟩
      | some b =>
        rw [h2] at h
        simp only at h
        obtain ⟨b1, b2⟩ := digS_lt h2
        have H2 : Hid (digS s ((k : Int) + 1).toNat = some b) := Lib.hid (by rw [show ((k : Int) + 1).toNat = k + 1 from by omega]; exact h2)
        have el := or_low a b a1 b1
        clear h2
        cases hm : numB (16 * (a : Int) + b) with
        | false =>
          rw [hm] at h
          simp only [Bool.false_eq_true, if_false, Prod.mk.injEq] at h
          obtain ⟨rfl, rfl⟩ := h
          have HM := Lib.hid hm
          clear hm
          go_enter Tryz.func94, Tryz.ntmps94
          go_wp2_with fail
          refine (digit_some s k a _ (by omega) hs H1.out).mono ?_
          rintro e w' ⟨rfl, rfl⟩
          go_wp2_with (go_at_call 77; refine (numbered_yes _ _ HN.out).mono ?_; rintro e w' ⟨rfl, rfl⟩)
          refine (digit_some s (k + 1) b _ (by omega) hs H2.out).mono ?_
          rintro e w' ⟨rfl, rfl⟩
          go_wp2_with (go_at_call 77; refine (numbered_no _ _ HM.out).mono ?_; rintro e w' ⟨rfl, rfl⟩)
          go_ret3
          exact ⟨by simp, rfl⟩
        | true =>
          rw [hm] at h
          simp only [if_true, Prod.mk.injEq] at h
          obtain ⟨rfl, rfl⟩ := h
          have HM := Lib.hid hm
          clear hm
          go_enter Tryz.func94, Tryz.ntmps94
          go_wp2_with fail
          refine (digit_some s k a _ (by omega) hs H1.out).mono ?_
          rintro e w' ⟨rfl, rfl⟩
          go_wp2_with (go_at_call 77; refine (numbered_yes _ _ HN.out).mono ?_; rintro e w' ⟨rfl, rfl⟩)
          refine (digit_some s (k + 1) b _ (by omega) hs H2.out).mono ?_
          rintro e w' ⟨rfl, rfl⟩
          go_wp2_with (go_at_call 77; refine (numbered_yes _ _ HM.out).mono ?_; rintro e w' ⟨rfl, rfl⟩)
          go_ret3
          exact ⟨by simp, rfl⟩
set_option maxHeartbeats 400000 in
theorem escaped_any (s : ByteArray) (k : Int) (n : Nat) (r : Option Nat) (w : World) (h0 : 0 ≤ k) (hk : k ≤ s.size) (hs : s.size ≤ maxLen) (h : stepEsc s k.toNat = (n, r)) :
    Calls Tryz.prog 76 #[.string s, .int .i64 k] w fun e w' => e = .returned (.tuple #[.int .u8 ((r.getD 0 : Nat) : Int), .int .i64 (k + n), .bool r.isSome]) ∧ w = w' := by
  obtain ⟨k, rfl⟩ := Int.eq_ofNat_of_zero_le h0
  rw [Int.toNat_natCast] at h
  have hs' := hs
  unfold maxLen at hs'
  unfold stepEsc at h
  by_cases hlt : k < s.size
  · rw [dif_pos hlt] at h
    have hne : ((k : Int) == (s.size : Int)) = false := by rw [beq_eq_false_iff_ne]; omega
    by_cases c1 : s[k].toNat = 34 ∨ s[k].toNat = 92
    · rw [if_pos c1] at h
      simp only [Prod.mk.injEq] at h
      obtain ⟨rfl, rfl⟩ := h
      go_enter Tryz.func76, Tryz.ntmps76
      go_wp2
      all_goals go_ret3
      all_goals exact ⟨by simp, rfl⟩
    · rw [if_neg c1] at h
      have d1 : ((s[k].toNat : Int) == 34) = false := by rw [beq_eq_false_iff_ne]; omega
      have d2 : ((s[k].toNat : Int) == 92) = false := by rw [beq_eq_false_iff_ne]; omega
      by_cases c2 : s[k].toNat = 110
      · rw [if_pos c2] at h
        simp only [Prod.mk.injEq] at h
        obtain ⟨rfl, rfl⟩ := h
        have d3 : ((s[k].toNat : Int) == 110) = true := by rw [beq_iff_eq]; omega
        clear c1 c2
        go_enter Tryz.func76, Tryz.ntmps76
        go_wp2
        all_goals go_ret3
        all_goals exact ⟨by simp, rfl⟩
      · rw [if_neg c2] at h
        have d3 : ((s[k].toNat : Int) == 110) = false := by rw [beq_eq_false_iff_ne]; omega
        by_cases c3 : s[k].toNat = 120
        · rw [if_pos c3] at h
          have d4 : ((s[k].toNat : Int) == 120) = true := by rw [beq_iff_eq]; omega
          rcases hq : stepNum s (k + 1) with ⟨m, x⟩
          rw [hq] at h
          simp only [Prod.mk.injEq] at h
          obtain ⟨rfl, rfl⟩ := h
          have H : Hid (stepNum s ((k : Int) + 1).toNat = (m, x)) := Lib.hid (by rw [show ((k : Int) + 1).toNat = k + 1 from by omega]; exact hq)
          clear c1 c2 c3 hq
          go_enter Tryz.func76, Tryz.ntmps76
          go_wp2_with (go_at_call 94; refine (byNumber_any s _ m x _ (by omega) hs H.out).mono ?_; rintro e w' ⟨rfl, rfl⟩)
          go_ret3
          exact ⟨by simp; omega, rfl⟩
        · rw [if_neg c3] at h
          simp only [Prod.mk.injEq] at h
          obtain ⟨rfl, rfl⟩ := h
          have d4 : ((s[k].toNat : Int) == 120) = false := by rw [beq_eq_false_iff_ne]; omega
          clear c1 c2 c3
          go_enter Tryz.func76, Tryz.ntmps76
          go_wp2
          all_goals go_ret3
          all_goals exact ⟨by simp, rfl⟩
  · rw [dif_neg hlt] at h
    simp only [Prod.mk.injEq] at h
    obtain ⟨rfl, rfl⟩ := h
    have hne : ((k : Int) == (s.size : Int)) = true := by rw [beq_iff_eq]; omega
    go_enter Tryz.func76, Tryz.ntmps76
    go_wp2
    all_goals go_ret3
    all_goals exact ⟨by simp, rfl⟩
end Go.Proofs.YtckfcpiedainfaaGreatDoor
namespace Go.Proofs.YtckfcpiedainfaaGreatDoor
open Go Go.RowKit
set_option linter.unusedVariables false
def enc (c : UInt8) : Value := .int .u8 (c.toNat : Int)
theorem enc_one (l : List UInt8) : ∀ u ∈ l.map enc, u.oneCell' = true := by
  intro u hu
  rw [List.mem_map] at hu
  obtain ⟨b, _, rfl⟩ := hu
  rfl
/-- the slice v of bytes holds l, in a block of the call's own (from B on), or is nil -/
def ownB (w : World) (B : Nat) (v : Value) (l : List UInt8) : Prop := w.ownsRow B 5 1 v l.length (l.map enc)
theorem byteInfo : (Tryz.prog.info? 5).map (fun i => (i.zero, i.size, i.bytes)) = some (some (.int .u8 0), 1, 1) := by kernel_rfl
theorem ownB.alloc {w : World} {B : Nat} {v : Value} {l : List UInt8} (h : ownB w B v l) (o : Obj) : ownB (w.alloc o) B v l := World.ownsRow.alloc h o
theorem ownB.nil (w : World) (B : Nat) : ownB w B (.slice none 0 0) [] := World.ownsRow_nil w B _ _
theorem ownB.below {w w' : World} {B : Nat} {v : Value} {l : List UInt8} (h : ownB w B v l) (hb : Below w.heap.size w w') : ownB w' B v l := by
  refine ⟨h.1, ?_⟩
  rcases h.2 with hn | ⟨g, cap, cur, rfl, hbg, hgg, rest⟩
  · exact .inl hn
  · refine .inr ⟨g, cap, cur, rfl, hbg, ?_, rest⟩
    rw [hb.block g (Array.getElem?_eq_some_iff.1 hgg).1]
    exact hgg
theorem ownB.grown {w w' : World} {B : Nat} {v : Value} {l : List UInt8} (h : ownB w B v l) (hB : B ≤ w.heap.size) (hg : w.grownBy w' v.ownBlock) : Below B w w' :=
  (Below.refl _ _).grown hg hB (fun k hk => (World.ownsRow.lt h k hk).1)
/-- append of bytes that lie in memory -/
theorem app_bytes {w : World} {ops : Array Oper} {rest : List Oper} {o : Oper} {a : Act} {Q : Exit → Act → World → Prop} (hgd : o.guard = none) (s x : Operand)
    (ho : o.op = .call { callee := .builtin .append, args := #[s, x], argTypes := #[66, 66] })
    (B : Nat) (v : Value) (l : List UInt8) (hs : a.eval s = v) (hown : ownB w B v l) (ad : Addr) (m c : Nat) (news : List UInt8) (hx : a.eval x = .slice (some ad) m c) (hl : news.length = m)
    (hnews : ∀ j u, (news.map enc)[j]? = some u → w.cell? (ad.add j) = some u) (hroom : l.length + m ≤ 140737488355328) (hB : B ≤ w.heap.size)
    (h : ∀ v' w', ownB w' B v' (l ++ news) → Below B w w' → wpList Tryz.prog ops Q rest (a.put o.dst v') w') : wpList Tryz.prog ops Q (o :: rest) a w := by
  obtain ⟨i0, hi, hz0, hz1, hz2⟩ := info_parts byteInfo
  refine wpList_append_own w hgd s x _ ho B 5 i0 (.int .u8 0) 1 1 Tryz.underlying66 hi hz0 hz1 hz2 rfl (by decide) v l.length (l.map enc) hs hown ad m c (news.map enc) hx (by simp [hl]) hnews (enc_one _) (by unfold maxLen; omega) (by omega) hB ?_
  intro v' w' hown' hg _
  refine h v' w' ?_ (ownB.grown hown hB hg)
  unfold ownB
  rw [List.length_append, List.map_append, hl]
  exact hown'
theorem fold_push (l : List UInt8) : ∀ r : ByteArray, (l.map fun c => (c.toNat : Int)).foldl (fun r n => r.push (UInt8.ofNat n.toNat)) r = ⟨r.data ++ l.toArray⟩ := by
  induction l with
  | nil => intro r; simp
  | cons c l ih =>
    intro r
    rw [List.map_cons, List.foldl_cons, ih]
    simp [ByteArray.push]
/-- string(b) of such a slice -/
theorem conv_own {w : World} {B : Nat} {v : Value} {l : List UInt8} (h : ownB w B v l) : (convert 66 9 v).run Tryz.prog w = .ok (.string ⟨l.toArray⟩) w := by
  rcases h.2 with ⟨rfl, h0⟩ | ⟨g, cap, cur, rfl, hbg, hgg, hle, hmax, hsz, htk⟩
  · obtain rfl : l = [] := List.length_eq_zero_iff.1 h0
    exact Lib.run_convert_nil_bytes w _ _ _ _ Tryz.underlying66 Tryz.underlying5 Tryz.underlying9
  · rw [run_convert_bytes_string w _ _ _ _ _ _ Tryz.underlying66 Tryz.underlying5 Tryz.underlying9]
    have hc := World.ownsRow.cells h (g := g) rfl
    have hload := run_loadCells_list (P := Tryz.prog) w ⟨g, 0, none⟩ (l.map enc) hc
    rw [List.length_map] at hload
    have := run_bytesToString (P := Tryz.prog) w ⟨g, 0, none⟩ l.length cap (l.map fun c => (c.toNat : Int)) (by rw [hload]; congr 2; simp [enc])
    rw [this, fold_push]
    simp
theorem ownB_lit (w : World) (cs : Array Value) (news : List UInt8) (hc : cs.toList = news.map enc) (hm : news.length ≤ maxLen) : ownB (w.alloc (.cells cs 5)) w.heap.size (.slice (some ⟨w.heap.size, 0, none⟩) news.length news.length) news := by
  have hs : cs.size = news.length := by rw [← Array.length_toList, hc, List.length_map]
  have h := World.ownsRow_lit (base := w.heap.size) (e := 5) (size := 1) w cs news.length (Nat.le_refl _) hm (by omega)
  unfold ownB
  rw [← hc]
  exact h
theorem conv_lit (w : World) (cs : Array Value) (news : List UInt8) (hc : cs.toList = news.map enc) (hm : news.length ≤ maxLen) :
    (convert 66 9 (.slice (some ⟨w.heap.size, 0, none⟩) news.length news.length)).run Tryz.prog (w.alloc (.cells cs 5)) = .ok (.string ⟨news.toArray⟩) (w.alloc (.cells cs 5)) :=
  conv_own (ownB_lit w cs news hc hm)
end Go.Proofs.YtckfcpiedainfaaGreatDoor
namespace Go.Proofs.YtckfcpiedainfaaGreatDoor
open Go Go.RowKit
set_option linter.unusedVariables false
theorem cells_new (w : World) (news : List UInt8) (cs : Array Value) (T : TypeId) (hc : cs.toList = news.map enc) : ∀ j u, (news.map enc)[j]? = some u → (w.alloc (.cells cs T)).cell? ((⟨w.heap.size, 0, none⟩ : Addr).add j) = some u := by
  intro j u h
  have e : (⟨w.heap.size, 0, none⟩ : Addr).add j = ⟨w.heap.size, j, none⟩ := by simp [Addr.add]; exact fun h => h.symm
  rw [e, World.cell?_alloc_at _ _ _ _ rfl, ← Array.getElem?_toList, hc, h]
theorem and_15 (c : UInt8) : bits BinOp.and IntKind.u8 (c.toNat : Int) 15 = (c.toNat : Int) % 16 := by
  revert c; apply all256; decide +kernel
theorem hex_at (k : Nat) (h : k < 16) : (⟨#[48, 49, 50, 51, 52, 53, 54, 55, 56, 57, 97, 98, 99, 100, 101, 102]⟩ : ByteArray)[k]'h = hexOf k := by
  have : ∀ k : Fin 16, (⟨#[48, 49, 50, 51, 52, 53, 54, 55, 56, 57, 97, 98, 99, 100, 101, 102]⟩ : ByteArray)[k.val]'k.isLt = hexOf k.val := by decide +kernel
  exact this ⟨k, h⟩
theorem toNat_q (n : Nat) : ((n : Int) / 16).toNat = n / 16 := by omega
theorem toNat_r (n : Nat) : ((n : Int) % 16).toNat = n % 16 := by omega
end Go.Proofs.YtckfcpiedainfaaGreatDoor
namespace Go.Proofs.YtckfcpiedainfaaGreatDoor
open Go Go.RowKit
set_option linter.unusedVariables false
theorem flat_ge (l : List UInt8) : l.length ≤ (l.flatMap form).length := by
  induction l with
  | nil => simp
  | cons c l ih =>
    rw [List.flatMap_cons, List.length_append, List.length_cons]
    have := form_length c
    omega
end Go.Proofs.YtckfcpiedainfaaGreatDoor

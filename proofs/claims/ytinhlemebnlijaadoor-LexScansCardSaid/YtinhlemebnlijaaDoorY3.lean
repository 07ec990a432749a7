/-
  WALKS over package lex: common, the marks ahead, the reserved words.
-/
import Derived.Test.YtinhlemebnlijaaDoorY2
import Derived.Test.YtinhlemebnlijaaDoorW5
import Derived.Test.YtinhlemebnlijaaDoorN3
import Derived.Test.YtinhlemebnlijaaDoorM
namespace Go.Proofs.YtinhlemebnlijaaDoor
open Go Go.RowKit
set_option linter.unusedVariables false
set_option maxHeartbeats 400000 in
theorem lexCommon_any (s t : ByteArray) (w : World) (hs : s.size ≤ maxLen) (ht : t.size ≤ maxLen) :
    Calls Tryd.prog 57 #[.string s, .string t] w (Commoned w (common s.data.toList t.data.toList)) := by
  unfold maxLen at hs ht
  go_enter Tryd.func57, Tryd.ntmps57
  go_wp2_with fail
  go_loopw [5] (fun i wr => CommonRel s t w i wr) (fun i _ => s.size - (intOf i).toNat)
  case atStart => exact ⟨0, by omega, by omega, rfl, by simp, 0, rfl⟩
  case round =>
    obtain ⟨k, hk1, hk2, rfl, hc, q, rfl⟩ := hrel
    have HC := Lib.hid hc
    clear hc
    have hsz : s.data.toList.length = s.size := by rw [Array.length_toList]; rfl
    have htz : t.data.toList.length = t.size := by rw [Array.length_toList]; rfl
    have HS := Lib.hid hsz
    have HT := Lib.hid htz
    clear hsz htz
    by_cases h1 : k < s.size
    · have d1 : ((k : Int) < (s.size : Int)) := by omega
      by_cases h2 : k < t.size
      · have d2 : ((k : Int) < (t.size : Int)) := by omega
        by_cases h3 : s[k] = t[k]
        · have d3 : ((s[k].toNat : Int) == (t[k].toNat : Int)) = true := by rw [beq_iff_eq, h3]
          have hnx := common_step HC.out (by rw [HS.out]; exact h1) (by rw [HT.out]; exact h2) h3
          have HX := Lib.hid hnx
          clear hnx h3
          go_wp2_with fail
          go_quiet (fail)
          go_wp2
          go_roundw
          case rel => exact ⟨k + 1, by omega, by omega, by go_num, HX.out, _, rfl⟩
          case measure => simp [intOf]; omega
        · have hne : s[k].toNat ≠ t[k].toNat := fun e => h3 (UInt8.toNat_inj.1 e)
          have d3 : ((s[k].toNat : Int) == (t[k].toNat : Int)) = false := by rw [beq_eq_false_iff_ne]; omega
          have hst := common_stop HC.out (.inr ⟨by rw [HS.out]; exact h1, by rw [HT.out]; exact h2, h3⟩)
          have HX := Lib.hid hst
          clear hst h3 hne
          go_wp2_with fail
          go_quiet (fail)
          go_wp2
          go_ret
          exact ⟨ret_int (by rw [HX.out]), drewN_two _ _ _⟩
      · have d2 : decide ((k : Int) < (t.size : Int)) = false := by simp; omega
        go_wp2_with fail
        go_quiet (fail)
        go_wp2
        go_ret
        exact ⟨ret_int (by rw [common_stop HC.out (.inl (by rw [HT.out]; omega))]), drewN_two _ _ _⟩
    · have d1 : decide ((k : Int) < (s.size : Int)) = false := by simp; omega
      go_wp2_with fail
      go_quiet (fail)
      go_wp2
      go_ret
      exact ⟨ret_int (by rw [common_stop HC.out (.inl (by rw [HS.out]; omega))]), drewN_two _ _ _⟩
def strsV (l : List (List UInt8)) : Array Value := (l.map fun m => Value.string (ba m)).toArray
/-- what package lex's variables and the number's table hold -/
structure LexEnv (w : World) : Prop where
  tab : Lib.TabIs Tryd.prog w "internal/strconv.uint64pow10" .u64 Lib.pow10Tab
  words : ∃ t fr, w.heap[1]? = some (.cells (strsV wordsL) t fr)
  marks : ∃ t fr, w.heap[0]? = some (.cells (strsV marksL) t fr)
theorem heap_lt {w : World} {g : Nat} {o : Obj} (h : w.heap[g]? = some o) : g < w.heap.size := (Array.getElem?_eq_some_iff.1 h).1
theorem LexEnv.below {w w' : World} (h : LexEnv w) (hb : Below w.heap.size w w') : LexEnv w' := by
  obtain ⟨h3, ⟨t1, f1, h1⟩, ⟨t2, f2, h2⟩⟩ := h
  exact ⟨var?_below hb gTab (var_lt gTab h3) h3, ⟨t1, f1, (hb.block _ (heap_lt h1)).trans h1⟩, ⟨t2, f2, (hb.block _ (heap_lt h2)).trans h2⟩⟩
theorem info84 : (Tryd.prog.info? 84).map (·.size) = some (strsV marksL).size := by kernel_rfl
theorem info88 : (Tryd.prog.info? 88).map (·.size) = some (strsV wordsL).size := by kernel_rfl
theorem run_index_strs (t : TypeId) (n : Nat) (cs : Array Value) (k : Nat) (s : ByteArray) (w : World) (hu : Tryd.prog.underlying t = some (.array n 9)) (hk : k < n) (hc : cs[k]? = some (.string s)) :
    (Instr.index t (.agg cs) (.int .i64 k)).run Tryd.prog w = .ok (.string s) w := by
  have h1 : (sizeOf 9).run Tryd.prog w = .ok 1 w := by
    have : (Tryd.prog.info? 9).map (·.size) = some 1 := by kernel_rfl
    cases hq : Tryd.prog.info? 9 with
    | none => rw [hq] at this; cases this
    | some i => rw [hq] at this; simp at this; simp [sizeOf, typeInfo, hq, this]
  have h2 : (isAgg 9).run Tryd.prog w = .ok false w := by
    unfold isAgg
    rw [Sem.run_bind, run_underlying Tryd.underlying9 w]
    rfl
  have hb : (0 : Int) ≤ (k : Int) ∧ (k : Int) < (n : Int) := by omega
  simp [Instr.index, asIntOf, run_underlying hu, hb, Sem.run_bind, h1, part, h2, hc, hk]
theorem wpList_index_strs {w : World} {ops : Array Oper} {rest : List Oper} {o : Oper} {a : Act} {Q : Exit → Act → World → Prop} (hgd : o.guard = none) (t : TypeId) (x i : Operand) (ho : o.op = .index t x i)
    (n : Nat) (cs : Array Value) (k : Nat) (s : ByteArray) (hx : a.eval x = .agg cs) (hi : a.eval i = .int .i64 k) (hu : Tryd.prog.underlying t = some (.array n 9)) (hk : k < n) (hc : cs[k]? = some (.string s))
    (h : wpList Tryd.prog ops Q rest (a.put o.dst (.string s)) w) : wpList Tryd.prog ops Q (o :: rest) a w :=
  wpList_plain hgd fun K hK => by
    unfold Oper.wp execOp
    have hr := run_index_strs t n cs k s w hu hk hc
    simp only [ho, hx, hi, Sem.run_bind, Sem.run_pure, Result.andThen_ok, hr]
    exact hK _ _ h
structure IsAt (l : List (List UInt8)) (k : Nat) (M : ByteArray) : Prop where
  out : l[k]? = some M.data.toList
structure IsTab (l : List (List UInt8)) (V : Array Value) : Prop where
  out : strsV l = V
theorem IsTab.at_ {l : List (List UInt8)} {V : Array Value} (h : IsTab l V) {k : Nat} (hk : k < l.length) : ∃ M, IsAt l k M ∧ V[k]? = some (.string M) := by
  refine ⟨ba l[k], ⟨by rw [List.getElem?_eq_getElem hk]; simp [ba]⟩, ?_⟩
  rw [← h.out]; simp [strsV, hk]
/-- the word is none of the first k ones -/
structure WordAt (S : List UInt8) (k : Nat) : Prop where
  out : wordB S = (wordsL.drop k).contains S
theorem drop_at {l : List (List UInt8)} {k : Nat} {M : ByteArray} (h : IsAt l k M) : l.drop k = M.data.toList :: l.drop (k + 1) := by
  obtain ⟨hk, e⟩ := List.getElem?_eq_some_iff.1 h.out
  rw [List.drop_eq_getElem_cons hk, e]
theorem word_yes {s M : ByteArray} {k : Nat} (h : WordAt s.data.toList k) (hm : IsAt wordsL k M) (he : (M.toList == s.toList) = true) : wordB s.data.toList = true := by
  rw [h.out, drop_at hm]
  rw [Lib.toList_data, Lib.toList_data] at he
  rw [eq_of_beq he]; simp
theorem word_no {s M : ByteArray} {k : Nat} (h : WordAt s.data.toList k) (hm : IsAt wordsL k M) (he : (M.toList == s.toList) = false) : WordAt s.data.toList (k + 1) := by
  refine ⟨?_⟩
  rw [h.out, drop_at hm]
  rw [Lib.toList_data, Lib.toList_data] at he
  have hne : (s.data.toList == M.data.toList) = false := by
    rw [beq_eq_false_iff_ne] at he ⊢
    exact fun e => he e.symm
  rw [List.contains_cons, hne, Bool.false_or]
theorem word_end {s : ByteArray} {k : Nat} (h : WordAt s.data.toList k) (hk : 22 ≤ k) : wordB s.data.toList = false := by
  rw [h.out, List.drop_eq_nil_of_le hk]; rfl
set_option maxHeartbeats 400000 in
theorem reserved_any (s : ByteArray) (w : World) (hs : s.size ≤ maxLen) (hE : LexEnv w) : Calls Tryd.prog 46 #[.string s] w (Says w (wordB s.data.toList)) := by
  unfold maxLen at hs
  have hg := hE.words
  clear hE
  obtain ⟨t, fr, hg⟩ := hg
  have hi := info88
  obtain ⟨V, hV⟩ : ∃ V, strsV wordsL = V := ⟨_, rfl⟩
  rw [hV] at hg hi
  have HV : IsTab wordsL V := ⟨hV⟩
  clear hV
  go_enter Tryd.func46, Tryd.ntmps46
  go_wp2_with (refine wpList_load_row rfl _ _ rfl 1 rfl t V fr _ hg Tryd.underlying88 rfl hi ?_)
  clear hi
  go_loop [4, 6] (fun x i => ∃ k : Nat, k ≤ 22 ∧ i = .int .i64 k ∧ WordAt s.data.toList k) (fun _ i => 22 - (intOf i).toNat)
  case atStart => exact ⟨0, by omega, rfl, ⟨rfl⟩⟩
  case round =>
    obtain ⟨k, hk, rfl, HK⟩ := hrel
    by_cases hlt : k < 22
    · obtain ⟨M, HM, hc⟩ := HV.at_ (k := k) hlt
      clear HV
      cases he : (M.toList == s.toList) with
      | true =>
        go_wp2_with (refine wpList_index_strs rfl _ _ _ rfl 22 V k M rfl rfl Tryd.underlying88 hlt hc ?_)
        go_ret
        exact ⟨ret_bool (word_yes HK HM he).symm, rfl⟩
      | false =>
        go_wp2_with (refine wpList_index_strs rfl _ _ _ rfl 22 V k M rfl rfl Tryd.underlying88 hlt hc ?_)
        go_round
        case rel => exact ⟨k + 1, by omega, by go_num, word_no HK HM he⟩
        case measure => simp [intOf]; omega
    · go_wp2
      go_ret
      exact ⟨ret_bool (word_end HK (by omega)).symm, rfl⟩
end Go.Proofs.YtinhlemebnlijaaDoor

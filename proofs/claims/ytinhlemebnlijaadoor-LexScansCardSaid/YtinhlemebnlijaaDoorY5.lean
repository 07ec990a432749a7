/-
  WALKS over package lex: isMark, a name's token, what stands apart, an int's digits, blanks.
-/
import Derived.Test.YtinhlemebnlijaaDoorY4
import Derived.Test.YtinhlemebnlijaaDoorN4
import Derived.Deep.DeepMust
import Derived.Laws.CopyOwn
namespace Go.Proofs.YtinhlemebnlijaaDoor
open Go Go.RowKit
set_option linter.unusedVariables false
/-- a yes or no, the tape drawn from at most -/
def SaysD (w : World) (b : Bool) (e : Ending) (w' : World) : Prop := e = .returned (.bool b) ∧ ∃ q, w' = w.drewN q
theorem nil_test (x : ByteArray) : (x.toList == []) = decide (x.data.toList = []) := by
  rw [Lib.toList_data, Bool.eq_iff_iff]; simp
theorem str_test (x y : ByteArray) : (x.toList == y.toList) = decide (x.data.toList = y.data.toList) := by
  rw [Lib.toList_data, Lib.toList_data, Bool.eq_iff_iff]; simp
set_option maxHeartbeats 800000 in
theorem isMark_any (s : ByteArray) (w : World) (hs : s.size ≤ maxLen) (hE : LexEnv w) : Calls Tryd.prog 47 #[.string s] w (SaysD w (markB s.data.toList)) := by
  have H : Hid (Calls Tryd.prog 37 #[.string s] w (MarksTold w (ahead s.data.toList))) := Lib.hid (markAhead_any s w hs hE)
  have hM := isMark_is s.data.toList
  obtain ⟨r, hr⟩ : ∃ r, ahead s.data.toList = r := ⟨_, rfl⟩
  obtain ⟨l, n⟩ := r
  rw [hr] at H hM
  simp only at hM
  obtain ⟨P, hP⟩ : ∃ P, ba l = P := ⟨_, rfl⟩
  have hPl : P.data.toList = l := by rw [← hP, ba_data]
  rw [← hPl] at hM
  have HM := Lib.hid hM
  clear hs hE hr hM
  have H' : Hid (Calls Tryd.prog 37 #[.string s] w (fun e w' => e = .returned (.tuple #[.string P, .int .i64 n]) ∧ ∃ q, w' = w.drewN q)) := Lib.hid (H.out.mono fun e w' ⟨he, hq⟩ => ⟨by rw [he]; simp only [hP], hq⟩)
  clear H hP hPl
  cases e1 : decide (P.data.toList = []) with
  | true =>
    have HN : Hid (markB s.data.toList = false) := Lib.hid (by rw [← HM.out]; simp at e1; simp [e1])
    have e1' : (P.toList == []) = true := by rw [nil_test]; exact e1
    clear e1
    go_enter Tryd.func47, Tryd.ntmps47
    go_wp2_with (go_at_call 37; refine H'.out.mono ?_; rintro e w' ⟨rfl, q, rfl⟩)
    go_ret
    exact ⟨ret_bool HN.out.symm, q, rfl⟩
  | false =>
    have HN : Hid (markB s.data.toList = (P.toList == s.toList)) := Lib.hid (by rw [← HM.out, str_test]; simp at e1; simp [e1])
    have e1' : (P.toList == []) = false := by rw [nil_test]; exact e1
    clear e1
    go_enter Tryd.func47, Tryd.ntmps47
    go_wp2_with (go_at_call 37; refine H'.out.mono ?_; rintro e w' ⟨rfl, q, rfl⟩)
    all_goals go_ret
    all_goals exact ⟨ret_bool HN.out.symm, q, rfl⟩
theorem byte_ne {c d : UInt8} {n : Int} (h : c ≠ d) (hn : (d.toNat : Int) = n) : ((c.toNat : Int) == n) = false := by
  rw [beq_eq_false_iff_ne, ← hn]; intro e; exact h (UInt8.toNat_inj.1 (by omega))
theorem byte_eq {c d : UInt8} {n : Int} (h : c = d) (hn : (d.toNat : Int) = n) : ((c.toNat : Int) == n) = true := by
  rw [beq_iff_eq, ← hn, h]
def past (r : List UInt8) : Nat := (r.takeWhile blank).length
theorem past_nil : past [] = 0 := rfl
theorem past_blank {c : UInt8} {t : List UInt8} (h : blank c = true) : past (c :: t) = past t + 1 := by simp [past, h]
theorem past_other {c : UInt8} {t : List UInt8} (h : blank c = false) : past (c :: t) = 0 := by simp [past, h]
theorem past_le (r : List UInt8) : past r ≤ r.length := by
  unfold past; exact (List.takeWhile_sublist _).length_le
def Counts (w : World) (n : Nat) (e : Ending) (w' : World) : Prop := e = .returned (.int .i64 n) ∧ Below w.heap.size w w'
structure PastAt (S : List UInt8) (p k : Nat) : Prop where
  out : p + past (S.drop p) = k + past (S.drop k)
structure PastIs (S : List UInt8) (p k : Nat) : Prop where
  out : ((p + past (S.drop p) : Nat) : Int) = (k : Int)
theorem PastAt.step {s : ByteArray} {p k : Nat} (h : PastAt s.data.toList p k) (hk : k < s.size) (hb : blank s[k] = true) : PastAt s.data.toList p (k + 1) := by
  have := h.out
  rw [drop_get s k hk, past_blank hb] at this
  exact ⟨by omega⟩
theorem PastAt.stop {s : ByteArray} {p k : Nat} (h : PastAt s.data.toList p k) (hk : k < s.size) (hb : blank s[k] = false) : PastIs s.data.toList p k := by
  have := h.out
  rw [drop_get s k hk, past_other hb] at this
  exact ⟨by omega⟩
theorem PastAt.fin {s : ByteArray} {p k : Nat} (h : PastAt s.data.toList p k) (hk : s.size ≤ k) : PastIs s.data.toList p k := by
  have := h.out
  rw [drop_none s k (by omega), past_nil] at this
  exact ⟨by omega⟩
set_option maxHeartbeats 800000 in
theorem pastBlanks_any (s : ByteArray) (F : Value) (p : Nat) (w : World) (hs : s.size ≤ maxLen) (hp : p ≤ s.size) :
    Calls Tryd.prog 17 #[.agg #[.string s, F], .int .i64 p] w (Counts w (p + past (s.data.toList.drop p))) := by
  unfold maxLen at hs
  go_enter Tryd.func17, Tryd.ntmps17
  go_wp2_with fail
  go_loop [1] (fun i => ∃ k : Nat, k ≤ s.size ∧ i = .int .i64 k ∧ PastAt s.data.toList p k) (fun i => s.size - (intOf i).toNat)
  case atStart => exact ⟨p, hp, rfl, ⟨rfl⟩⟩
  case round =>
    obtain ⟨k, hk, rfl, HK⟩ := hrel
    by_cases hlt : k < s.size
    · by_cases h1 : s[k] = 32
      · have d1 : ((s[k].toNat : Int) == 32) = true := by rw [h1]; rfl
        have HX := HK.step hlt (by rw [h1]; rfl)
        clear h1
        go_wp2_with fail
        go_round
        case rel => exact ⟨k + 1, by omega, by go_num, HX⟩
        case measure => simp [intOf]; omega
      · have d1 : ((s[k].toNat : Int) == 32) = false := byte_ne h1 rfl
        by_cases h2 : s[k] = 10
        · have d2 : ((s[k].toNat : Int) == 10) = true := by rw [h2]; rfl
          have HX := HK.step hlt (by rw [h2]; rfl)
          clear h1 h2
          go_wp2_with fail
          go_round
          case rel => exact ⟨k + 1, by omega, by go_num, HX⟩
          case measure => simp [intOf]; omega
        · have d2 : ((s[k].toNat : Int) == 10) = false := byte_ne h2 rfl
          have HX := HK.stop hlt (by simp [blank, h1, h2])
          clear h1 h2
          go_wp2_with fail
          go_ret
          exact ⟨ret_int (by rw [HX.out]), (Below.refl _ _).alloc (Nat.le_refl _) _⟩
    · have HX := HK.fin (by omega)
      go_wp2_with fail
      go_ret
      exact ⟨ret_int (by rw [HX.out]), (Below.refl _ _).alloc (Nat.le_refl _) _⟩
def tokV (k : Tok) : Value := .agg #[.int .i64 k.kind, .string k.text, .int .i64 k.int, .int .i64 k.place]
def Makes (w : World) (k : Tok) (e : Ending) (w' : World) : Prop := e = .returned (tokV k) ∧ Below w.heap.size w w'
theorem wpList_conv {w w' : World} {ops : Array Oper} {rest : List Oper} {o : Oper} {a : Act} {Q : Exit → Act → World → Prop} (hgd : o.guard = none) {src dst : TypeId} (x : Operand) (ho : o.op = .convert src dst x)
    {v v' : Value} (hx : a.eval x = v) (hr : (convert src dst v).run Tryd.prog w = .ok v' w') (h : wpList Tryd.prog ops Q rest (a.put o.dst v') w') : wpList Tryd.prog ops Q (o :: rest) a w :=
  wpList_plain hgd fun K hK => by
    unfold Oper.wp execOp
    simp only [ho, hx, Sem.run_bind, Sem.run_pure, Result.andThen_ok, hr]
    exact hK _ _ h
theorem infoTok : (Tryd.prog.info? 30).map (·.size) = some 4 := by kernel_rfl
theorem infoRdr : (Tryd.prog.info? 47).map (·.size) = some 2 := by kernel_rfl
def tok0 : Array Value := #[.int .i64 0, .string ⟨#[]⟩, .int .i64 0, .int .i64 0]
theorem one_tok (a : Int) (b : ByteArray) (c d : Int) : (#[.int .i64 a, .string b, .int .i64 c, .int .i64 d] : Array Value).all (·.oneCell') = true := by simp [Value.oneCell']
theorem one_rdr (b : ByteArray) (f : Fn) (c : Array Value) : (#[.string b, .func f #[] c] : Array Value).all (·.oneCell') = true := by simp [Value.oneCell']
theorem conv_pair (s : ByteArray) (w : World) : ∃ v w1, (convert 9 42 (.string s)).run Tryd.prog w = .ok v w1 ∧ Below w.heap.size w w1 ∧ (convert 42 9 v).run Tryd.prog w1 = .ok (.string s) w1 := by
  have h0 := Lib.run_convert_string_bytes (P := Tryd.prog) w 9 42 5 s Tryd.underlying9 Tryd.underlying42 Tryd.underlying5
  obtain ⟨C, hC⟩ : ∃ C, grownCap w s.size 0 5 = C := ⟨_, rfl⟩
  rw [hC] at h0
  have h := run_convert_bytes_back (P := Tryd.prog) (Lib.bytesWorld w 5 s) 42 9 5 ⟨w.heap.size, 0, none⟩ C s.data.toList Tryd.underlying42 Tryd.underlying5 Tryd.underlying9 (fun j hj => by
    have e : (⟨w.heap.size, 0, none⟩ : Addr).add j = ⟨w.heap.size, j, none⟩ := by simp [Addr.add]; exact fun h => h.symm
    rw [e, Lib.bytesWorld_cell w _ s j (by rw [toList_eq] at hj; exact hj), List.getD_eq_getElem?_getD, List.getElem?_eq_getElem hj]; rfl)
  rw [toList_eq] at h
  have e : (⟨s.data.toList.toArray⟩ : ByteArray) = s := ba_list' s
  rw [e] at h
  exact ⟨_, _, h0, Joins.below_bytesWorld _ _ _ _ (Nat.le_refl _), h⟩
/-- the two conversions behind a new token -/
structure Convs (s : ByteArray) (w : World) (v : Value) (w1 : World) : Prop where
  c1 : (convert 9 42 (.string s)).run Tryd.prog (w.alloc (.cells tok0 30)) = .ok v w1
  c2 : (convert 42 9 v).run Tryd.prog w1 = .ok (.string s) w1
  blk : Blk w1 w.heap.size 30 tok0
  bel : Below w.heap.size w w1
theorem convs (s : ByteArray) (w : World) : ∃ v w1, Convs s w v w1 := by
  obtain ⟨v, w1, hc1, hb1, hc2⟩ := conv_pair s (w.alloc (.cells tok0 30))
  exact ⟨v, w1, hc1, hc2, (Blk.new w 30 tok0).after hb1, ((Below.refl _ _).alloc (Nat.le_refl _) _).trans (hb1.mono (by simp))⟩
set_option maxHeartbeats 800000 in
theorem named_any (s : ByteArray) (w : World) (hs : s.size ≤ 4096) (hE : LexEnv w) : Calls Tryd.prog 32 #[.string s] w (Makes w ⟨kindOf s.data.toList, s, 0, 0⟩) := by
  have H : Hid (∀ w', Below w.heap.size w w' → Calls Tryd.prog 46 #[.string s] w' (Says w' (wordB s.data.toList))) := Lib.hid fun w' h => reserved_any s w' (by unfold maxLen; omega) (hE.below h)
  unfold kindOf
  obtain ⟨b, hb⟩ : ∃ b, wordB s.data.toList = b := ⟨_, rfl⟩
  rw [hb] at H
  rw [hb]
  clear hE hb
  obtain ⟨v, w1, HC⟩ := convs s w
  have hres : Tryd.f32.results = #[.cell 2 30] := by kernel_rfl
  cases b
  all_goals
   go_enter Tryd.func32, Tryd.ntmps32
   go_wp2_with (first | (go_at_call 46; refine (H.out _ ((Below.refl _ _).alloc (Nat.le_refl _) _)).mono ?_; rintro e w' ⟨rfl, rfl⟩) | ((with_reducible show wpList _ _ _ (Oper.mk _ (Op.convert 9 42 _) _ _ _ _ :: _) _ _); refine wpList_conv rfl _ rfl rfl HC.c1 ?_) | ((with_reducible show wpList _ _ _ (Oper.mk _ (Op.convert 42 9 _) _ _ _ _ :: _) _ _); refine wpList_conv rfl _ rfl rfl HC.c2 ?_) | ((with_reducible show wpList _ _ _ (Oper.mk _ (Op.store 30 _ _) _ _ _ _ :: _) _ _); refine wpList_store_row rfl _ _ _ rfl w.heap.size _ rfl rfl 30 tok0 HC.blk infoTok rfl (one_tok _ _ _ _) ?_))
   (try simp only [Exit.inBlock, Exit.then])
   refine bodyPost_ret (results_cell_row hres _ _ w.heap.size 30 _ (0, 0) _ rfl (setRow_heap _ _ _ _ _ _ HC.blk) Tryd.underlying30 rfl ?_) rfl ?_
   · exact infoTok
   · exact ⟨rfl, below_setRow HC.bel (Nat.le_refl _) _⟩
theorem right_two (c : UInt8) : right [97, c] = innC c := by
  have h1 : letB ((97 : UInt8).toNat : Int) = true := by decide
  simp only [right, List.length_cons, List.length_nil, h1, List.all_cons, List.all_nil]
  simp
set_option maxHeartbeats 800000 in
theorem apart_any (s : ByteArray) (F : Value) (p : Nat) (w : World) (hs : s.size ≤ 4096) (hp : p ≤ s.size) :
    Calls Tryd.prog 33 #[.agg #[.string s, F], .int .i64 p] w (fun e w' => e = .returned (.bool (apart (s.data.toList.drop p))) ∧ Below w.heap.size w w') := by
  by_cases hlt : p < s.size
  · have HR : Hid (∀ w', Calls Tryd.prog 31 #[.string ((⟨#[97]⟩ : ByteArray) ++ s.extract p (p + 1))] w' (Says w' (innC s[p]))) := Lib.hid fun w' => by
      have h := right_any ((⟨#[97]⟩ : ByteArray) ++ s.extract p (p + 1)) w' (by
        rw [← toList_eq, cat_list, Lib.extract_data]; simp [maxLen]; omega)
      rwa [cat_list, Lib.extract_data, drop_get s p hlt, show p + 1 - p = 1 by omega, List.take_succ_cons, List.take_zero, show (⟨#[97]⟩ : ByteArray).data.toList ++ [s[p]] = [97, s[p]] from rfl, right_two] at h
    have d1 : ((p : Int) == (s.size : Int)) = false := by rw [beq_eq_false_iff_ne]; omega
    have HA : Hid (apart (s.data.toList.drop p) = !innC s[p]) := Lib.hid (by rw [drop_get s p hlt]; rfl)
    go_enter Tryd.func33, Tryd.ntmps33
    go_wp2_with (go_at_call 31; refine (HR.out _).mono ?_; rintro e w' ⟨rfl, rfl⟩)
    go_ret
    exact ⟨ret_bool HA.out.symm, (Below.refl _ _).alloc (Nat.le_refl _) _⟩
  · have d1 : ((p : Int) == (s.size : Int)) = true := by rw [beq_iff_eq]; omega
    have HA : Hid (apart (s.data.toList.drop p) = true) := Lib.hid (by rw [drop_none s p hlt]; rfl)
    go_enter Tryd.func33, Tryd.ntmps33
    go_wp2_with fail
    go_ret
    exact ⟨ret_bool HA.out.symm, (Below.refl _ _).alloc (Nat.le_refl _) _⟩
theorem digits_any (s : ByteArray) (w : World) (hs : s.size ≤ 4096) (hE : Env w) : Calls Tryd.prog 34 #[.string s] w (fun e w' => e = .returned (.bool (digP s.data.toList)) ∧ Below w.heap.size w w') := by
  have H : Hid (Calls Tryd.prog 35 #[.string s] w (Numbers w (intT s.data.toList))) := Lib.hid (int_any s w (by omega) hE)
  clear hE
  unfold digP
  cases hi : intT s.data.toList with
  | none =>
    rw [hi] at H
    clear hi
    go_enter Tryd.func34, Tryd.ntmps34
    go_wp2_with (go_at_call 35; refine H.out.mono ?_; rintro e w' ⟨rfl, hb⟩)
    go_ret
    exact ⟨rfl, hb⟩
  | some v =>
    rw [hi] at H
    clear hi
    go_enter Tryd.func34, Tryd.ntmps34
    go_wp2_with (go_at_call 35; refine H.out.mono ?_; rintro e w' ⟨rfl, hb⟩)
    go_ret
    exact ⟨rfl, hb⟩
def rdrF (g : Nat) : Value := .func (.func 30) #[] #[.pointer (some ⟨g, 0, none⟩)]
set_option maxHeartbeats 800000 in
theorem newReader_any (s : ByteArray) (w : World) : Calls Tryd.prog 16 #[.string s] w (fun e w' => ∃ g, e = .returned (.agg #[.string s, rdrF g]) ∧ Blk w' g 9 #[.string s] ∧ Below w.heap.size w w') := by
  have hres : Tryd.f16.results = #[.cell 2 47] := by kernel_rfl
  go_enter Tryd.func16, Tryd.ntmps16
  have hB1 : Blk ((w.alloc (.cells #[.string s] 9)).alloc (.cells #[.string ⟨#[]⟩, .nilFunc] 47)) (w.heap.size + 1) 47 #[.string ⟨#[]⟩, .nilFunc] := Blk.new' (by simp)
  go_wp2_with ((with_reducible show wpList _ _ _ (Oper.mk _ (Op.store 47 _ _) _ _ _ _ :: _) _ _); go_must (refine wpList_store_row rfl _ _ _ rfl (w.heap.size + 1) _ rfl rfl 47 _ hB1 infoRdr rfl (one_rdr _ _ _) ?_))
  (try simp only [Exit.inBlock, Exit.then])
  refine bodyPost_ret (results_cell_row hres _ _ (w.heap.size + 1) 47 _ (0, 0) _ rfl (setRow_heap _ _ _ _ _ _ hB1) Tryd.underlying47 rfl ?_) rfl ?_
  · exact infoRdr
  · refine ⟨w.heap.size, rfl, ?_, below_setRow (((Below.refl _ _).alloc (Nat.le_refl _) _).alloc (by simp) _) (by omega) _⟩
    exact (setRow_other _ _ _ _ (by omega)).trans ((Blk.new w _ _).alloc _)
end Go.Proofs.YtinhlemebnlijaaDoor

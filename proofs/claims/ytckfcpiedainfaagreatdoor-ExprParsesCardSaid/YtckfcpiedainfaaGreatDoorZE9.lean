/-
  WALKS over package lex: isMark, a name's token, what stands apart, an int's digits, blanks.
  WALKS over package lex: how far a name, an int goes (the closure of newReader).
-/
import Derived.Test.YtckfcpiedainfaaGreatDoorZE8
import Derived.Deep.DeepMust
import Derived.Laws.CopyOwn
namespace Go.Proofs.YtckfcpiedainfaaGreatDoor
open Go Go.RowKit
set_option linter.unusedVariables false
theorem nil_test (x : ByteArray) : (x.toList == []) = decide (x.data.toList = []) := by
  rw [Lib.toList_data, Bool.eq_iff_iff]; simp
theorem byte_ne {c d : UInt8} {n : Int} (h : c ≠ d) (hn : (d.toNat : Int) = n) : ((c.toNat : Int) == n) = false := by
  rw [beq_eq_false_iff_ne, ← hn]; intro e; exact h (UInt8.toNat_inj.1 (by omega))
def past (r : List UInt8) : Nat := (r.takeWhile blank).length
theorem past_nil : past [] = 0 := rfl
theorem past_blank {c : UInt8} {t : List UInt8} (h : blank c = true) : past (c :: t) = past t + 1 := by simp [past, h]
theorem past_other {c : UInt8} {t : List UInt8} (h : blank c = false) : past (c :: t) = 0 := by simp [past, h]
theorem past_le (r : List UInt8) : past r ≤ r.length := by
  unfold past; exact (List.takeWhile_sublist _).length_le
def Counts (w : World) (n : Nat) (e : Ending) (w' : World) : Prop := e = .returned (.int .i64 n) ∧ Below w.heap.size w w'
structure PastAt (S : List UInt8) (p k : Nat) : Prop where
  out : p + past (S.drop p) = k + past (S.drop k)
structure PastIs (S : List UInt8) (p k : Nat) : Prop where
  out : ((p + past (S.drop p) : Nat) : Int) = (k : Int)
theorem PastAt.step {s : ByteArray} {p k : Nat} (h : PastAt s.data.toList p k) (hk : k < s.size) (hb : blank s[k] = true) : PastAt s.data.toList p (k + 1) := by
  have := h.out
  rw [drop_get s k hk, past_blank hb] at this
  exact ⟨by omega⟩
theorem PastAt.stop {s : ByteArray} {p k : Nat} (h : PastAt s.data.toList p k) (hk : k < s.size) (hb : blank s[k] = false) : PastIs s.data.toList p k := by
  have := h.out
  rw [drop_get s k hk, past_other hb] at this
  exact ⟨by omega⟩
theorem PastAt.fin {s : ByteArray} {p k : Nat} (h : PastAt s.data.toList p k) (hk : s.size ≤ k) : PastIs s.data.toList p k := by
  have := h.out
  rw [drop_none s k (by omega), past_nil] at this
  exact ⟨by omega⟩
set_option maxHeartbeats 800000 in
theorem pastBlanks_any (s : ByteArray) (F : Value) (p : Nat) (w : World) (hs : s.size ≤ maxLen) (hp : p ≤ s.size) :
    Calls Tryz.prog 30 #[.agg #[.string s, F], .int .i64 p] w (Counts w (p + past (s.data.toList.drop p))) := by
  unfold maxLen at hs
  go_enter Tryz.func30, Tryz.ntmps30
  go_wp2_with fail
  go_loop [1] (fun i => ∃ k : Nat, k ≤ s.size ∧ i = .int .i64 k ∧ PastAt s.data.toList p k) (fun i => s.size - (intOf i).toNat)
  case atStart => exact ⟨p, hp, rfl, ⟨rfl⟩⟩
  case round =>
    obtain ⟨k, hk, rfl, HK⟩ := hrel
    by_cases hlt : k < s.size
    · by_cases h1 : s[k] = 32
      · have d1 : ((s[k].toNat : Int) == 32) = true := by rw [h1]; rfl
        have HX := HK.step hlt (by rw [h1]; rfl)
        clear h1
        go_wp2_with fail
        go_round
        case rel => exact ⟨k + 1, by omega, by go_num, HX⟩
        case measure => simp [intOf]; omega
      · have d1 : ((s[k].toNat : Int) == 32) = false := byte_ne h1 rfl
        by_cases h2 : s[k] = 10
        · have d2 : ((s[k].toNat : Int) == 10) = true := by rw [h2]; rfl
          have HX := HK.step hlt (by rw [h2]; rfl)
          clear h1 h2
          go_wp2_with fail
          go_round
          case rel => exact ⟨k + 1, by omega, by go_num, HX⟩
          case measure => simp [intOf]; omega
        · have d2 : ((s[k].toNat : Int) == 10) = false := byte_ne h2 rfl
          have HX := HK.stop hlt (by simp [blank, h1, h2])
          clear h1 h2
          go_wp2_with fail
          go_ret
          exact ⟨ret_int (by rw [HX.out]), (Below.refl _ _).alloc (Nat.le_refl _) _⟩
    · have HX := HK.fin (by omega)
      go_wp2_with fail
      go_ret
      exact ⟨ret_int (by rw [HX.out]), (Below.refl _ _).alloc (Nat.le_refl _) _⟩
def tokV (k : Tok) : Value := .agg #[.int .i64 k.kind, .string k.text, .int .i64 k.int, .int .i64 k.place]
def Makes (w : World) (k : Tok) (e : Ending) (w' : World) : Prop := e = .returned (tokV k) ∧ Below w.heap.size w w'
theorem wpList_conv {w w' : World} {ops : Array Oper} {rest : List Oper} {o : Oper} {a : Act} {Q : Exit → Act → World → Prop} (hgd : o.guard = none) {src dst : TypeId} (x : Operand) (ho : o.op = .convert src dst x)
    {v v' : Value} (hx : a.eval x = v) (hr : (convert src dst v).run Tryz.prog w = .ok v' w') (h : wpList Tryz.prog ops Q rest (a.put o.dst v') w') : wpList Tryz.prog ops Q (o :: rest) a w :=
  wpList_plain hgd fun K hK => by
    unfold Oper.wp execOp
    simp only [ho, hx, Sem.run_bind, Sem.run_pure, Result.andThen_ok, hr]
    exact hK _ _ h
theorem infoTok : (Tryz.prog.info? 80).map (·.size) = some 4 := by kernel_rfl
theorem infoRdr : (Tryz.prog.info? 77).map (·.size) = some 2 := by kernel_rfl
def tok0 : Array Value := #[.int .i64 0, .string ⟨#[]⟩, .int .i64 0, .int .i64 0]
theorem one_tok (a : Int) (b : ByteArray) (c d : Int) : (#[.int .i64 a, .string b, .int .i64 c, .int .i64 d] : Array Value).all (·.oneCell') = true := by simp [Value.oneCell']
theorem one_rdr (b : ByteArray) (f : Fn) (c : Array Value) : (#[.string b, .func f #[] c] : Array Value).all (·.oneCell') = true := by simp [Value.oneCell']
theorem conv_pair (s : ByteArray) (w : World) : ∃ v w1, (convert 9 66 (.string s)).run Tryz.prog w = .ok v w1 ∧ Below w.heap.size w w1 ∧ (convert 66 9 v).run Tryz.prog w1 = .ok (.string s) w1 := by
  have h0 := Lib.run_convert_string_bytes (P := Tryz.prog) w 9 66 5 s Tryz.underlying9 Tryz.underlying66 Tryz.underlying5
  obtain ⟨C, hC⟩ : ∃ C, grownCap w s.size 0 5 = C := ⟨_, rfl⟩
  rw [hC] at h0
  have h := run_convert_bytes_back (P := Tryz.prog) (Lib.bytesWorld w 5 s) 66 9 5 ⟨w.heap.size, 0, none⟩ C s.data.toList Tryz.underlying66 Tryz.underlying5 Tryz.underlying9 (fun j hj => by
    have e : (⟨w.heap.size, 0, none⟩ : Addr).add j = ⟨w.heap.size, j, none⟩ := by simp [Addr.add]; exact fun h => h.symm
    rw [e, Lib.bytesWorld_cell w _ s j (by rw [toList_eq] at hj; exact hj), List.getD_eq_getElem?_getD, List.getElem?_eq_getElem hj]; rfl)
  rw [toList_eq] at h
  have e : (⟨s.data.toList.toArray⟩ : ByteArray) = s := ba_list' s
  rw [e] at h
  exact ⟨_, _, h0, Joins.below_bytesWorld _ _ _ _ (Nat.le_refl _), h⟩
/-- the two conversions behind a new token -/
structure Convs (s : ByteArray) (w : World) (v : Value) (w1 : World) : Prop where
  c1 : (convert 9 66 (.string s)).run Tryz.prog (w.alloc (.cells tok0 80)) = .ok v w1
  c2 : (convert 66 9 v).run Tryz.prog w1 = .ok (.string s) w1
  blk : Blk w1 w.heap.size 80 tok0
  bel : Below w.heap.size w w1
theorem convs (s : ByteArray) (w : World) : ∃ v w1, Convs s w v w1 := by
  obtain ⟨v, w1, hc1, hb1, hc2⟩ := conv_pair s (w.alloc (.cells tok0 80))
  exact ⟨v, w1, hc1, hc2, (Blk.new w 80 tok0).after hb1, ((Below.refl _ _).alloc (Nat.le_refl _) _).trans (hb1.mono (by simp))⟩
set_option maxHeartbeats 800000 in
theorem named_any (s : ByteArray) (w : World) (hs : s.size ≤ 4096) (hE : LexEnv w) : Calls Tryz.prog 50 #[.string s] w (Makes w ⟨kindOf s.data.toList, s, 0, 0⟩) := by
  have H : Hid (∀ w', Below w.heap.size w w' → Calls Tryz.prog 73 #[.string s] w' (Says w' (wordB s.data.toList))) := Lib.hid fun w' h => reserved_any s w' (by unfold maxLen; omega) (hE.below h)
  unfold kindOf
  obtain ⟨b, hb⟩ : ∃ b, wordB s.data.toList = b := ⟨_, rfl⟩
  rw [hb] at H
  rw [hb]
  clear hE hb
  obtain ⟨v, w1, HC⟩ := convs s w
  have hres : Tryz.f50.results = #[.cell 2 80] := by kernel_rfl
  cases b
  all_goals
   go_enter Tryz.func50, Tryz.ntmps50
   go_wp2_with (first | (go_at_call 73; refine (H.out _ ((Below.refl _ _).alloc (Nat.le_refl _) _)).mono ?_; rintro e w' ⟨rfl, rfl⟩) | ((with_reducible show wpList _ _ _ (Oper.mk _ (Op.convert 9 66 _) _ _ _ _ :: _) _ _); refine wpList_conv rfl _ rfl rfl HC.c1 ?_) | ((with_reducible show wpList _ _ _ (Oper.mk _ (Op.convert 66 9 _) _ _ _ _ :: _) _ _); refine wpList_conv rfl _ rfl rfl HC.c2 ?_) | ((with_reducible show wpList _ _ _ (Oper.mk _ (Op.store 80 _ _) _ _ _ _ :: _) _ _); refine wpList_store_row rfl _ _ _ rfl w.heap.size _ rfl rfl 80 tok0 HC.blk infoTok rfl (one_tok _ _ _ _) ?_))
   (try simp only [Exit.inBlock, Exit.then])
   refine bodyPost_ret (results_cell_row hres _ _ w.heap.size 80 _ (0, 0) _ rfl (setRow_heap _ _ _ _ _ _ HC.blk) Tryz.underlying80 rfl ?_) rfl ?_
   · exact infoTok
   · exact ⟨rfl, below_setRow HC.bel (Nat.le_refl _) _⟩
theorem right_two (c : UInt8) : right [97, c] = innC c := by
  have h1 : letB ((97 : UInt8).toNat : Int) = true := by decide
  simp only [right, List.length_cons, List.length_nil, h1, List.all_cons, List.all_nil]
  simp
set_option maxHeartbeats 800000 in
theorem apart_any (s : ByteArray) (F : Value) (p : Nat) (w : World) (hs : s.size ≤ 4096) (hp : p ≤ s.size) :
    Calls Tryz.prog 51 #[.agg #[.string s, F], .int .i64 p] w (fun e w' => e = .returned (.bool (apart (s.data.toList.drop p))) ∧ Below w.heap.size w w') := by
  by_cases hlt : p < s.size
  · have HR : Hid (∀ w', Calls Tryz.prog 49 #[.string ((⟨#[97]⟩ : ByteArray) ++ s.extract p (p + 1))] w' (Says w' (innC s[p]))) := Lib.hid fun w' => by
      have h := right_any ((⟨#[97]⟩ : ByteArray) ++ s.extract p (p + 1)) w' (by
        rw [← toList_eq, cat_list, Lib.extract_data]; simp [maxLen]; omega)
      rwa [cat_list, Lib.extract_data, drop_get s p hlt, show p + 1 - p = 1 by omega, List.take_succ_cons, List.take_zero, show (⟨#[97]⟩ : ByteArray).data.toList ++ [s[p]] = [97, s[p]] from rfl, right_two] at h
    have d1 : ((p : Int) == (s.size : Int)) = false := by rw [beq_eq_false_iff_ne]; omega
    have HA : Hid (apart (s.data.toList.drop p) = !innC s[p]) := Lib.hid (by rw [drop_get s p hlt]; rfl)
    go_enter Tryz.func51, Tryz.ntmps51
    go_wp2_with (go_at_call 49; refine (HR.out _).mono ?_; rintro e w' ⟨rfl, rfl⟩)
    go_ret
    exact ⟨ret_bool HA.out.symm, (Below.refl _ _).alloc (Nat.le_refl _) _⟩
  · have d1 : ((p : Int) == (s.size : Int)) = true := by rw [beq_iff_eq]; omega
    have HA : Hid (apart (s.data.toList.drop p) = true) := Lib.hid (by rw [drop_none s p hlt]; rfl)
    go_enter Tryz.func51, Tryz.ntmps51
    go_wp2_with fail
    go_ret
    exact ⟨ret_bool HA.out.symm, (Below.refl _ _).alloc (Nat.le_refl _) _⟩
theorem digits_any (s : ByteArray) (w : World) (hs : s.size ≤ 4096) (hE : Env w) : Calls Tryz.prog 52 #[.string s] w (fun e w' => e = .returned (.bool (digP s.data.toList)) ∧ Below w.heap.size w w') := by
  have H : Hid (Calls Tryz.prog 53 #[.string s] w (Numbers w (intT s.data.toList))) := Lib.hid (int_any s w (by omega) hE)
  clear hE
  unfold digP
  cases hi : intT s.data.toList with
  | none =>
    rw [hi] at H
    clear hi
    go_enter Tryz.func52, Tryz.ntmps52
    go_wp2_with (go_at_call 53; refine H.out.mono ?_; rintro e w' ⟨rfl, hb⟩)
    go_ret
    exact ⟨rfl, hb⟩
  | some v =>
    rw [hi] at H
    clear hi
    go_enter Tryz.func52, Tryz.ntmps52
    go_wp2_with (go_at_call 53; refine H.out.mono ?_; rintro e w' ⟨rfl, hb⟩)
    go_ret
    exact ⟨rfl, hb⟩
def rdrF (g : Nat) : Value := .func (.func 48) #[] #[.pointer (some ⟨g, 0, none⟩)]
set_option maxHeartbeats 800000 in
theorem newReader_any (s : ByteArray) (w : World) : Calls Tryz.prog 29 #[.string s] w (fun e w' => ∃ g, e = .returned (.agg #[.string s, rdrF g]) ∧ Blk w' g 9 #[.string s] ∧ Below w.heap.size w w') := by
  have hres : Tryz.f29.results = #[.cell 2 77] := by kernel_rfl
  go_enter Tryz.func29, Tryz.ntmps29
  have hB1 : Blk ((w.alloc (.cells #[.string s] 9)).alloc (.cells #[.string ⟨#[]⟩, .nilFunc] 77)) (w.heap.size + 1) 77 #[.string ⟨#[]⟩, .nilFunc] := Blk.new' (by simp)
  go_wp2_with ((with_reducible show wpList _ _ _ (Oper.mk _ (Op.store 77 _ _) _ _ _ _ :: _) _ _); go_must (refine wpList_store_row rfl _ _ _ rfl (w.heap.size + 1) _ rfl rfl 77 _ hB1 infoRdr rfl (one_rdr _ _ _) ?_))
  (try simp only [Exit.inBlock, Exit.then])
  refine bodyPost_ret (results_cell_row hres _ _ (w.heap.size + 1) 77 _ (0, 0) _ rfl (setRow_heap _ _ _ _ _ _ hB1) Tryz.underlying77 rfl ?_) rfl ?_
  · exact infoRdr
  · refine ⟨w.heap.size, rfl, ?_, below_setRow (((Below.refl _ _).alloc (Nat.le_refl _) _).alloc (by simp) _) (by omega) _⟩
    exact (setRow_other _ _ _ _ (by omega)).trans ((Blk.new w _ _).alloc _)
end Go.Proofs.YtckfcpiedainfaaGreatDoor
namespace Go.Proofs.YtckfcpiedainfaaGreatDoor
open Go Go.RowKit
set_option linter.unusedVariables false
theorem ext_take (s : ByteArray) (p n : Nat) : (s.extract p (p + n + 1)).data.toList = (s.data.toList.drop p).take (n + 1) := by
  rw [Lib.extract_data, show p + n + 1 - p = n + 1 by omega]
theorem ext_size (s : ByteArray) (p n : Nat) (h : s.size ≤ 4096) : (s.extract p (p + n + 1)).size ≤ 4096 := by
  rw [← toList_eq, ext_take, List.length_take, List.length_drop, toList_eq]; omega
/-- so far -/
structure FarAt (P : List UInt8 → Bool) (r : List UInt8) (n : Nat) : Prop where
  out : farN P r n = far P r
theorem FarAt.go {P : List UInt8 → Bool} {r : List UInt8} {n : Nat} (h : FarAt P r n) (hn : n < r.length) (hp : P (r.take (n + 1)) = true) : FarAt P r (n + 1) := ⟨by rw [← h.out, farN_go hn hp]⟩
theorem FarAt.no {P : List UInt8 → Bool} {r : List UInt8} {n p : Nat} (h : FarAt P r n) (hp : P (r.take (n + 1)) = false) : ((p + n : Nat) : Int) = ((p + far P r : Nat) : Int) := by rw [← h.out, farN_no hp]
theorem FarAt.fin {P : List UInt8 → Bool} {r : List UInt8} {n p : Nat} (h : FarAt P r n) (hn : ¬ n < r.length) : ((p + n : Nat) : Int) = ((p + far P r : Nat) : Int) := by rw [← h.out, farN_end hn]
def Tells1 (w : World) (b : Bool) (e : Ending) (w' : World) : Prop := e = .returned (.bool b) ∧ Below w.heap.size w w'
theorem counts_of {w w' : World} {a b : Nat} (h : (a : Int) = (b : Int)) (hb : Below w.heap.size w w') : Counts w b (.returned (.int .i64 a)) w' := ⟨by rw [h], hb⟩
set_option maxHeartbeats 800000 in
theorem farRight_any (s : ByteArray) (p g : Nat) (w : World) (hs : s.size ≤ 4096) (hp : p ≤ s.size) (hB : Blk w g 9 #[.string s]) :
    Calls Tryz.prog 48 #[.int .i64 p, .func (.func 49) #[] #[], .pointer (some ⟨g, 0, none⟩)] w (Counts w (p + far right (s.data.toList.drop p))) := by
  have HC : Hid (∀ n w', Below w.heap.size w w' → Calls Tryz.prog 49 #[.string (s.extract p (p + n + 1))] w' (Tells1 w' (right ((s.data.toList.drop p).take (n + 1))))) := Lib.hid fun n w' hb => by
    rw [← ext_take]
    exact (right_any _ w' (by have := ext_size s p n hs; unfold maxLen; omega)).mono fun e w2 ⟨he, hw⟩ => ⟨he, by rw [← hw]; exact Below.refl _ _⟩
  have HL : Hid ((s.data.toList.drop p).length = s.size - p) := Lib.hid (by rw [List.length_drop, toList_eq])
  obtain ⟨r, hr⟩ : ∃ r, s.data.toList.drop p = r := ⟨_, rfl⟩
  rw [hr] at HC HL
  rw [hr]
  have HBK : Hid (∀ w', Below w.heap.size w w' → Blk w' g 9 #[.string s]) := Lib.hid fun w' hb => hB.after hb
  clear hr hB
  go_enter Tryz.func48, Tryz.ntmps48
  go_wp2_with fail
  go_loopw [6] (fun i wr => ∃ n : Nat, p + n ≤ s.size ∧ i = .int .i64 ((p + n : Nat) : Int) ∧ FarAt right r n ∧ Below w.heap.size w wr) (fun i _ => s.size - (intOf i).toNat)
  case atStart => exact ⟨0, by omega, by simp, ⟨rfl⟩, Below.refl _ _⟩
  case round =>
    obtain ⟨n, hn, rfl, HF, hb⟩ := hrel
    have hc0 : wr.cell? ⟨g, 0, none⟩ = some (.string s) := (HBK.out wr hb).cell 0
    have HN := Lib.hid (HC.out n wr hb)
    have HBL := Lib.hid hb
    clear hb
    by_cases hlt : p + n < s.size
    · cases hpv : right (r.take (n + 1)) with
      | true =>
        rw [hpv] at HN
        have HX := HF.go (by rw [HL.out]; omega) hpv
        clear hpv
        go_wp2_with (go_at_call 49; refine HN.out.mono ?_; rintro e w2 ⟨rfl, hb2⟩)
        exact ⟨⟨n + 1, by omega, by go_num, HX, HBL.out.trans (hb2.mono HBL.out.size)⟩, by simp [intOf]; omega⟩
      | false =>
        rw [hpv] at HN
        have HX := Lib.hid (HF.no (p := p) hpv)
        clear hpv
        go_wp2_with (go_at_call 49; refine HN.out.mono ?_; rintro e w2 ⟨rfl, hb2⟩)
        go_ret
        exact counts_of HX.out (HBL.out.trans (hb2.mono HBL.out.size))
    · have HX := Lib.hid (HF.fin (p := p) (by rw [HL.out]; omega))
      go_wp2_with fail
      go_ret
      exact counts_of HX.out HBL.out
set_option maxHeartbeats 800000 in
theorem farDigits_any (s : ByteArray) (p g : Nat) (w : World) (hs : s.size ≤ 4096) (hp : p ≤ s.size) (hB : Blk w g 9 #[.string s]) (hE : Env w) :
    Calls Tryz.prog 48 #[.int .i64 p, .func (.func 52) #[] #[], .pointer (some ⟨g, 0, none⟩)] w (Counts w (p + far digP (s.data.toList.drop p))) := by
  have HC : Hid (∀ n w', Below w.heap.size w w' → Calls Tryz.prog 52 #[.string (s.extract p (p + n + 1))] w' (Tells1 w' (digP ((s.data.toList.drop p).take (n + 1))))) := Lib.hid fun n w' hb => by
    rw [← ext_take]
    exact digits_any _ w' (ext_size s p n hs) (hE.below hb)
  have HL : Hid ((s.data.toList.drop p).length = s.size - p) := Lib.hid (by rw [List.length_drop, toList_eq])
  obtain ⟨r, hr⟩ : ∃ r, s.data.toList.drop p = r := ⟨_, rfl⟩
  rw [hr] at HC HL
  rw [hr]
  have HBK : Hid (∀ w', Below w.heap.size w w' → Blk w' g 9 #[.string s]) := Lib.hid fun w' hb => hB.after hb
  clear hr hB hE
  go_enter Tryz.func48, Tryz.ntmps48
  go_wp2_with fail
  go_loopw [6] (fun i wr => ∃ n : Nat, p + n ≤ s.size ∧ i = .int .i64 ((p + n : Nat) : Int) ∧ FarAt digP r n ∧ Below w.heap.size w wr) (fun i _ => s.size - (intOf i).toNat)
  case atStart => exact ⟨0, by omega, by simp, ⟨rfl⟩, Below.refl _ _⟩
  case round =>
    obtain ⟨n, hn, rfl, HF, hb⟩ := hrel
    have hc0 : wr.cell? ⟨g, 0, none⟩ = some (.string s) := (HBK.out wr hb).cell 0
    have HN := Lib.hid (HC.out n wr hb)
    have HBL := Lib.hid hb
    clear hb
    by_cases hlt : p + n < s.size
    · cases hpv : digP (r.take (n + 1)) with
      | true =>
        rw [hpv] at HN
        have HX := HF.go (by rw [HL.out]; omega) hpv
        clear hpv
        go_wp2_with (go_at_call 52; refine HN.out.mono ?_; rintro e w2 ⟨rfl, hb2⟩)
        exact ⟨⟨n + 1, by omega, by go_num, HX, HBL.out.trans (hb2.mono HBL.out.size)⟩, by simp [intOf]; omega⟩
      | false =>
        rw [hpv] at HN
        have HX := Lib.hid (HF.no (p := p) hpv)
        clear hpv
        go_wp2_with (go_at_call 52; refine HN.out.mono ?_; rintro e w2 ⟨rfl, hb2⟩)
        go_ret
        exact counts_of HX.out (HBL.out.trans (hb2.mono HBL.out.size))
    · have HX := Lib.hid (HF.fin (p := p) (by rw [HL.out]; omega))
      go_wp2_with fail
      go_ret
      exact counts_of HX.out HBL.out
end Go.Proofs.YtckfcpiedainfaaGreatDoor

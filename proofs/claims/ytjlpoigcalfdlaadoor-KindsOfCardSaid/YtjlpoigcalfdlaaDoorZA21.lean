/-
  WALKS over package kinds: kindOf.
-/
import Derived.Test.YtjlpoigcalfdlaaDoorZA20
namespace Go.Proofs.YtjlpoigcalfdlaaDoor
open Go Go.RowKit Go.Sort
set_option linter.unusedVariables false
theorem shl_is : ∀ m : Fin 64, ∀ v : Fin 6, (bits BinOp.and IntKind.u8 (m.val : Int) (2 ^ v.val % 256) == ((m.val &&& 1 <<< v.val : Nat) : Int) && decide (m.val &&& 1 <<< v.val < 64)) = true := by decide +kernel
theorem and_is : ∀ m f : Fin 64, (bits BinOp.and IntKind.u8 (m.val : Int) (f.val : Int) == ((m.val &&& f.val : Nat) : Int) && decide (m.val &&& f.val < 64) && (m.val % 2 != 0 || (m.val &&& f.val) % 2 == 0)) = true := by decide +kernel
theorem shl_eq {m : Nat} {v : Int} (hm : m < 64) (h0 : 0 ≤ v ∧ v ≤ 5) : bits BinOp.and IntKind.u8 (m : Int) (2 ^ v.toNat % 256) = ((m &&& 1 <<< v.toNat : Nat) : Int) ∧ m &&& 1 <<< v.toNat < 64 := by
  have := shl_is ⟨m, hm⟩ ⟨v.toNat, by omega⟩
  simp only [Bool.and_eq_true, beq_iff_eq, decide_eq_true_eq] at this
  exact this
theorem and_eq_ {m f : Nat} (hm : m < 64) (hf : f < 64) : bits BinOp.and IntKind.u8 (m : Int) (f : Int) = ((m &&& f : Nat) : Int) ∧ m &&& f < 64 ∧ (m % 2 = 0 → (m &&& f) % 2 = 0) := by
  have := and_is ⟨m, hm⟩ ⟨f, hf⟩
  simp only [Bool.and_eq_true, beq_iff_eq, decide_eq_true_eq, Bool.or_eq_true, bne_iff_ne, ne_eq] at this
  exact ⟨this.1.1, this.1.2, fun h => this.2.resolve_left fun h2 => h2 h⟩
theorem ctz_pos {m : Nat} (h : m % 2 = 0) : ctz8 m ≠ 0 := by
  unfold ctz8 ctzN
  rw [if_neg (by omega)]
  omega
theorem rows_even : (rowsL.all fun r => r.getD 0 0 % 2 == 0) = true := by decide +kernel
/-- the node's kind is told, if it has one -/
def KindSays (w : World) (kp : Int) (e : Ending) (w' : World) : Prop := e = .returned (.tuple #[.int .i64 kp, .bool (decide (kp ≠ 0))]) ∧ Below w.heap.size w w'
theorem kindSays_no {w w' : World} {kp : Int} (h : kp = 0) (hb : Below w.heap.size w w') : KindSays w kp (.returned (.tuple #[.int .i64 0, .bool false])) w' := by subst h; exact ⟨rfl, hb⟩
theorem kindSays_yes {w w' : World} {kp v : Int} (h : kp = v) (h0 : v ≠ 0) (hb : Below w.heap.size w w') : KindSays w kp (.returned (.tuple #[.int .i64 v, .bool true])) w' := by
  subst h; refine ⟨?_, hb⟩; rw [decide_eq_true h0]
theorem kindP_none {k : Nat} {ks : List Int} {r : List Nat} (hr : rowsL[k]? = some r) (h : foldK r 0 62 ks = none) : kindP k ks = 0 := by
  unfold kindP
  rw [Int.toNat_natCast, List.getD_eq_getElem?_getD, hr]
  simp only [Option.getD_some, h]
theorem kindP_many {k m : Nat} {ks : List Int} {r : List Nat} (hr : rowsL[k]? = some r) (h : foldK r 0 62 ks = some m) (h1 : 1 < pop8 (r.getD 0 0)) : kindP k ks = ctz8 m := by
  unfold kindP
  rw [Int.toNat_natCast, List.getD_eq_getElem?_getD, hr]
  simp only [Option.getD_some, h, if_pos h1]
theorem kindP_one {k m : Nat} {ks : List Int} {r : List Nat} (hr : rowsL[k]? = some r) (h : foldK r 0 62 ks = some m) (h1 : ¬ 1 < pop8 (r.getD 0 0)) : kindP k ks = ctz8 (r.getD 0 0) := by
  unfold kindP
  rw [Int.toNat_natCast, List.getD_eq_getElem?_getD, hr]
  simp only [Option.getD_some, h, if_neg h1]
theorem foldK_many {r : List Nat} {j m tk : Nat} {v : Int} {ks : List Int} (ht : r[j + 1]? = some tk) (h1 : 1 < pop8 tk) : foldK r j m (v :: ks) = if m &&& (tk &&& 1 <<< v.toNat) = 0 then none else foldK r (j + 1) (m &&& (tk &&& 1 <<< v.toNat)) ks := by
  have : r.getD (j + 1) 0 = tk := by rw [List.getD_eq_getElem?_getD, ht]; rfl
  simp only [foldK, this, if_pos h1]
theorem foldK_one {r : List Nat} {j m tk : Nat} {v : Int} {ks : List Int} (ht : r[j + 1]? = some tk) (h1 : ¬ 1 < pop8 tk) : foldK r j m (v :: ks) = if tk &&& 1 <<< v.toNat = 0 then none else foldK r (j + 1) m ks := by
  have : r.getD (j + 1) 0 = tk := by rw [List.getD_eq_getElem?_getD, ht]; rfl
  simp only [foldK, this, if_neg h1]
set_option maxRecDepth 20000 in
set_option maxHeartbeats 6400000 in
theorem kindOf_any (w : World) (hi : Nat) (x : EN × Sl) (Ak : Option Addr) (nk ck : Nat) (K : List Int) (hin : EnIn w 0 hi x) (hK : Row w 0 hi 1 Ak nk ck (intCells K)) (hh : hi ≤ w.heap.size) (hnK : nk = K.length) (he : KindEnv w) (hkv : kidsV x.1.kind = x.1.kids.length)
    (hb : ∀ q ∈ x.1.kids, 0 ≤ q ∧ q < nk) (hv : ∀ v ∈ K, 0 ≤ v ∧ v ≤ 5) :
    Calls Tryd.prog 17 #[.agg #[.int .i64 x.1.kind, .string x.1.text, .int .i64 x.1.int, .slice x.2.A x.2.n x.2.c], .slice Ak nk ck] w (KindSays w (kindP x.1.kind (x.1.kids.map fun q => K.getD q.toNat 0))) := by
  have hkk := kidsV_in' hkv
  have hk3 := kidsV_le x.1.kind
  obtain ⟨a, b, c, d, hr, ha, hbb, hc, hd⟩ := row_ok (k := x.1.kind.toNat) (by omega)
  have hkn := hin.kn
  have HIN := Lib.hid hin
  have HK := Lib.hid hK
  obtain ⟨⟨kd, T, nn, ks⟩, ⟨A', n', c'⟩⟩ := x
  simp only at hkk hk3 hr hkn HIN hkv hb ⊢
  obtain ⟨k, rfl⟩ : ∃ k : Nat, kd = k := ⟨kd.toNat, by omega⟩
  rw [Int.toNat_natCast] at hr
  have hk35 : k < 35 := by omega
  have hn3 : n' ≤ 3 := by omega
  have HV := Lib.hid hv
  have HBK := Lib.hid hb
  have hnc := hK.2.1
  have hcm := hK.2.2.1
  unfold maxLen at hcm
  have HRW := Lib.hid hr
  have HEV := Lib.hid he
  have HKN := Lib.hid hkn
  have HNK := Lib.hid hnK
  have HX0 : Hid (Blk (w.alloc (.cells #[.int .i64 (k : Int), .string T, .int .i64 nn, .slice A' n' c'] 46)) w.heap.size 46 #[.int .i64 (k : Int), .string T, .int .i64 nn, .slice A' n' c']) := Lib.hid (Blk.new _ _ _)
  have HB0 : Hid (Below w.heap.size w (w.alloc (.cells #[.int .i64 (k : Int), .string T, .int .i64 nn, .slice A' n' c'] 46))) := Lib.hid (below_of_alloc _)
  have HS0 : Hid ((w.alloc (.cells #[.int .i64 (k : Int), .string T, .int .i64 nn, .slice A' n' c'] 46)).heap.size = w.heap.size + 1) := Lib.hid (by simp)
  clear hr hin hK he hv hb hkv hk3 hkk hkn hnK
  go_enter Tryd.func17, Tryd.ntmps17
  go_upto_region 1 with (fail)
  generalize w.alloc (.cells #[.int .i64 (k : Int), .string T, .int .i64 nn, .slice A' n' c'] 46) = W1 at HX0 HB0 HS0 ⊢
  have q0 := (HX0.out.cell 0).trans (show _ = some (.int .i64 (k : Int)) from rfl)
  have r0 := kind_cell (HEV.out.below HB0.out) HRW.out (j := 0) (u := .int .u8 a) (by omega) rfl
  have r1 := kind_cell (HEV.out.below HB0.out) HRW.out (j := 1) (u := .int .u8 b) (by omega) rfl
  have r2 := kind_cell (HEV.out.below HB0.out) HRW.out (j := 2) (u := .int .u8 c) (by omega) rfl
  have r3 := kind_cell (HEV.out.below HB0.out) HRW.out (j := 3) (u := .int .u8 d) (by omega) rfl
  rw [Nat.add_zero] at r0
  have hs1 := HS0.out
  have HP0 : Hid (Below w.heap.size w (W1.alloc (.cells #[.int .u8 (a : Int), .int .u8 (b : Int), .int .u8 (c : Int), .int .u8 (d : Int)] 68)) ∧ Blk (W1.alloc (.cells #[.int .u8 (a : Int), .int .u8 (b : Int), .int .u8 (c : Int), .int .u8 (d : Int)] 68)) w.heap.size 46 #[.int .i64 (k : Int), .string T, .int .i64 nn, .slice A' n' c'] ∧ Blk (W1.alloc (.cells #[.int .u8 (a : Int), .int .u8 (b : Int), .int .u8 (c : Int), .int .u8 (d : Int)] 68)) (w.heap.size + 1) 68 #[.int .u8 (a : Int), .int .u8 (b : Int), .int .u8 (c : Int), .int .u8 (d : Int)]) := Lib.hid ⟨below_more HB0.out _, HX0.out.alloc _, Blk.new' hs1.symm⟩
  go_upto_region 2 with (fail)
  clear r0 r1 r2 r3 q0 hs1 HS0
  generalize W1.alloc (.cells #[.int .u8 (a : Int), .int .u8 (b : Int), .int .u8 (c : Int), .int .u8 (d : Int)] 68) = W0 at HP0 ⊢
  have q3 := (HP0.out.2.1.cell 3).trans (show _ = some (.slice A' n' c') from rfl)
  go_wp2_with fail
  go_loopw [7, 8, 9, 10, 11, 19] (fun mv _ _ _ _ i wr => ∃ (j m : Nat), j ≤ n' ∧ mv = .int .u8 (m : Int) ∧ i = .int .i64 j ∧ m < 64 ∧ m % 2 = 0 ∧ wr = W0 ∧ Hid (foldK [a, b, c, d] 0 62 (ks.map fun q => K.getD q.toNat 0) = foldK [a, b, c, d] j m ((ks.map fun q => K.getD q.toNat 0).drop j))) (fun _ _ _ _ _ i _ => n' - (intOf i).toNat)
  case atStart => exact ⟨0, 62, Nat.zero_le _, rfl, rfl, by omega, by omega, rfl, Lib.hid rfl⟩
  case round =>
    rename World => wo
    obtain ⟨j, m, hj, rfl, rfl, hm, hm2, hwo, HFO⟩ := hrel
    subst hwo
    by_cases hlt : j < n'
    · obtain ⟨bk, ok, y, hAk, hbk, hy, hcy⟩ := HIN.out.at_ hlt
      simp only at hAk hy
      subst hAk
      have qk := (HP0.out.1.cell (p := ⟨bk, ok + j, none⟩) (show bk < w.heap.size by omega)).trans hcy
      have hyb := HBK.out y (List.mem_of_getElem? hy)
      obtain ⟨y, rfl⟩ : ∃ z : Nat, y = z := ⟨y.toNat, by omega⟩
      have hyn : y < nk := by omega
      obtain ⟨v, hv⟩ : ∃ v, K[y]? = some v := ⟨K[y]'(by have := HNK.out; omega), List.getElem?_eq_getElem _⟩
      obtain ⟨bK, oK, hAK, _, hbK, hcK⟩ := HK.out.at_ (show 0 < nk by omega)
      subst hAK
      have qv := (HP0.out.1.cell (p := ⟨bK, oK + y, none⟩) (show bK < w.heap.size by omega)).trans (hcK y _ (intCells_get hv))
      have hv5 := HV.out v (List.mem_of_getElem? hv)
      obtain ⟨tk, htk, htk64⟩ : ∃ tk, [a, b, c, d][j + 1]? = some tk ∧ tk < 64 := by
        have : j = 0 ∨ j = 1 ∨ j = 2 := by omega
        rcases this with rfl | rfl | rfl
        · exact ⟨b, rfl, hbb⟩
        · exact ⟨c, rfl, hc⟩
        · exact ⟨d, rfl, hd⟩
      have qr : wo.cell? ⟨w.heap.size + 1, j + 1, none⟩ = some (.int .u8 (tk : Int)) := by
        rw [HP0.out.2.2.cell (j + 1)]
        have : j = 0 ∨ j = 1 ∨ j = 2 := by omega
        rcases this with rfl | rfl | rfl <;> (simp at htk; subst htk; rfl)
      have HVS : Hid ((ks.map fun q => K.getD q.toNat 0).drop j = v :: (ks.map fun q => K.getD q.toNat 0).drop (j + 1)) := Lib.hid (by
        rw [List.drop_eq_getElem_cons (by rw [List.length_map]; have := HKN.out; omega)]
        congr 1
        rw [List.getElem_map, List.getElem?_eq_some_iff.1 hy |>.2, Int.toNat_natCast, List.getD_eq_getElem?_getD, hv]; rfl)
      have HTK := Lib.hid htk
      clear hcy hcK hy hv hyb htk
      obtain ⟨hsh1, hsh2⟩ := shl_eq htk64 hv5
      have HSV := Lib.hid (several_any tk htk64 wo)
      go_upto_region 8 with (fail)
      have HTM : Hid (∀ r, 1 < pop8 tk → (m &&& (tk &&& 1 <<< v.toNat)) = r → foldK [a, b, c, d] 0 62 (ks.map fun q => K.getD q.toNat 0) = if r = 0 then none else foldK [a, b, c, d] (j + 1) r ((ks.map fun q => K.getD q.toNat 0).drop (j + 1))) := Lib.hid fun r h e => by rw [HFO.out, HVS.out, foldK_many HTK.out h, e]
      have HTO : Hid (∀ r, ¬ 1 < pop8 tk → (tk &&& 1 <<< v.toNat) = r → foldK [a, b, c, d] 0 62 (ks.map fun q => K.getD q.toNat 0) = if r = 0 then none else foldK [a, b, c, d] (j + 1) m ((ks.map fun q => K.getD q.toNat 0).drop (j + 1))) := Lib.hid fun r h e => by rw [HFO.out, HVS.out, foldK_one HTK.out h, e]
      have HBL := Lib.hid HP0.out.1
      generalize hfd : tk &&& 1 <<< v.toNat = f at HTM HTO hsh2 ⊢
      clear hsh1 hfd
      by_cases hp : 1 < pop8 tk
      · rw [decide_eq_true hp] at HSV
        obtain ⟨ha1, ha2, ha3⟩ := and_eq_ hm hsh2
        have ha4 := ha3 hm2
        have HTM2 := Lib.hid (HTM.out _ hp rfl)
        clear HTM HTO ha3 hp
        go_upto_region 10 with (go_at_call 29; refine HSV.out.mono ?_; rintro e w2 ⟨rfl, rfl⟩)
        generalize m &&& f = m2 at HTM2 ha2 ha4 ⊢
        clear ha1
        by_cases h0 : m2 = 0
        · subst h0
          have HF : Hid (kindP (k : Int) (ks.map fun q => K.getD q.toNat 0) = 0) := Lib.hid (kindP_none HRW.out (by rw [HTM2.out, if_pos rfl]))
          go_wp2_with fail
          go_ret2
          exact kindSays_no HF.out HBL.out
        · have b0 : ((m2 : Int) == 0) = false := by rw [beq_eq_false_iff_ne]; omega
          have HF : Hid (foldK [a, b, c, d] 0 62 (ks.map fun q => K.getD q.toNat 0) = foldK [a, b, c, d] (j + 1) m2 ((ks.map fun q => K.getD q.toNat 0).drop (j + 1))) := Lib.hid (by rw [HTM2.out, if_neg h0])
          have c0 : (m2 == 0) = false := by rw [beq_eq_false_iff_ne]; exact h0
          clear h0
          go_wp2_with fail
          go_roundw
          case rel => exact ⟨j + 1, m2, by omega, rfl, by go_num, ha2, ha4, trivial, HF⟩
          case measure => simp [intOf]; omega
      · rw [decide_eq_false hp] at HSV
        have HTO2 := Lib.hid (HTO.out _ hp rfl)
        clear HTM HTO hp
        by_cases h0 : f = 0
        · subst h0
          have HF : Hid (kindP (k : Int) (ks.map fun q => K.getD q.toNat 0) = 0) := Lib.hid (kindP_none HRW.out (by rw [HTO2.out, if_pos rfl]))
          go_wp2_with (go_at_call 29; refine HSV.out.mono ?_; rintro e w2 ⟨rfl, rfl⟩)
          go_ret2
          exact kindSays_no HF.out HBL.out
        · have b0 : ((f : Int) == 0) = false := by rw [beq_eq_false_iff_ne]; omega
          have HF : Hid (foldK [a, b, c, d] 0 62 (ks.map fun q => K.getD q.toNat 0) = foldK [a, b, c, d] (j + 1) m ((ks.map fun q => K.getD q.toNat 0).drop (j + 1))) := Lib.hid (by rw [HTO2.out, if_neg h0])
          have c0 : (f == 0) = false := by rw [beq_eq_false_iff_ne]; exact h0
          clear h0
          go_wp2_with (go_at_call 29; refine HSV.out.mono ?_; rintro e w2 ⟨rfl, rfl⟩)
          go_roundw
          case rel => exact ⟨j + 1, m, by omega, rfl, by go_num, hm, hm2, trivial, HF⟩
          case measure => simp [intOf]; omega
    · obtain rfl : j = n' := by omega
      have HF : Hid (foldK [a, b, c, d] 0 62 (ks.map fun q => K.getD q.toNat 0) = some m) := Lib.hid (by rw [HFO.out, List.drop_of_length_le (by rw [List.length_map]; have := HKN.out; omega)]; rfl)
      have HEVN : Hid (a % 2 = 0) := Lib.hid (by have := List.all_eq_true.1 rows_even _ (List.mem_of_getElem? HRW.out); simpa using this)
      have qa := (HP0.out.2.2.cell 0).trans (show _ = some (.int .u8 (a : Int)) from rfl)
      have HSV := Lib.hid (several_any a ha wo)
      have HBL := Lib.hid HP0.out.1
      by_cases hp : 1 < pop8 a
      · rw [decide_eq_true hp] at HSV
        have HFI := Lib.hid (first_any m hm wo)
        have HR : Hid (kindP (k : Int) (ks.map fun q => K.getD q.toNat 0) = ctz8 m) := Lib.hid (kindP_many HRW.out HF.out hp)
        have HN0 : Hid (((ctz8 m : Nat) : Int) ≠ 0) := Lib.hid (by have := ctz_pos hm2; omega)
        generalize ctz8 m = cz at HFI HR HN0
        clear hp
        go_wp2_with (first | (go_at_call 29; refine HSV.out.mono ?_; rintro e w2 ⟨rfl, rfl⟩) | (go_at_call 30; refine HFI.out.mono ?_; rintro e w3 ⟨rfl, rfl⟩))
        go_ret2
        exact kindSays_yes HR.out HN0.out HBL.out
      · rw [decide_eq_false hp] at HSV
        have HFI := Lib.hid (first_any a ha wo)
        have HR : Hid (kindP (k : Int) (ks.map fun q => K.getD q.toNat 0) = ctz8 a) := Lib.hid (kindP_one HRW.out HF.out hp)
        have HN0 : Hid (((ctz8 a : Nat) : Int) ≠ 0) := Lib.hid (by have := ctz_pos HEVN.out; omega)
        generalize ctz8 a = cz at HFI HR HN0
        clear hp
        go_wp2_with (first | (go_at_call 29; refine HSV.out.mono ?_; rintro e w2 ⟨rfl, rfl⟩) | (go_at_call 30; refine HFI.out.mono ?_; rintro e w3 ⟨rfl, rfl⟩))
        go_ret2
        exact kindSays_yes HR.out HN0.out HBL.out
end Go.Proofs.YtjlpoigcalfdlaaDoor

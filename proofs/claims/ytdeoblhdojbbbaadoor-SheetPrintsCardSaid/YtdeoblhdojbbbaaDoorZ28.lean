/-
  WALKS over the document's answers for layer 3: the lines.
-/
import Derived.Test.YtdeoblhdojbbbaaDoorZ27
namespace Go.Proofs.YtdeoblhdojbbbaaDoor
open Go Go.RowKit
set_option linter.unusedVariables false
theorem str_is {S : ByteArray} {l : List UInt8} (h : S.data.toList = l) : (⟨l.toArray⟩ : ByteArray) = S := by subst h; simp
/-- a text told -/
def TellsS (w : World) (l : List UInt8) (e : Ending) (w' : World) : Prop := e = .returned (.string ⟨l.toArray⟩) ∧ Below w.heap.size w w'
theorem bl_text (k : Nat) (hk : k ≤ 64) : ∃ T : ByteArray, T.data.toList = bl k ∧ T.size ≤ 64 ∧ (⟨(bl k).toArray⟩ : ByteArray) = T :=
  ⟨⟨(bl k).toArray⟩, by simp, by show (bl k).toArray.size ≤ 64; rw [List.size_toArray, bl_len]; exact hk, rfl⟩
theorem blanks_any (k : Nat) (w : World) (hk : k ≤ 64) : Calls Tryd.prog 41 #[.int .i64 k] w (TellsS w (bl k)) := by
  go_enter Tryd.func41, Tryd.ntmps41
  go_wp2_with fail
  go_loopw [3, 4] (fun s i wr => ∃ (j : Nat) (S : ByteArray), j ≤ k ∧ s = .string S ∧ i = .int .i64 j ∧ Hid (S.data.toList = bl j) ∧ Hid (Below w.heap.size w wr)) (fun _ i _ => k - (intOf i).toNat)
  case atStart => exact ⟨0, ⟨#[]⟩, Nat.zero_le _, rfl, rfl, Lib.hid (by simp [bl]), Lib.hid (Below.refl _ _)⟩
  case round =>
    rename World => wr
    obtain ⟨j, S, hj, rfl, rfl, HS, HB⟩ := hrel
    by_cases hjk : j < k
    · have hsz : S.size = j := by have := congrArg List.length HS.out; rw [bl_len, Array.length_toList] at this; exact this
      have z1 : ¬ 9223372036854775807 < S.size + 1 := by omega
      go_wp2_with fail
      go_roundw
      case rel => exact ⟨j + 1, S ++ ⟨#[32]⟩, by omega, rfl, by go_num, Lib.hid (by rw [append_list, HS.out, bl_succ]), HB⟩
      case measure => simp [intOf]; omega
    · obtain rfl : j = k := by omega
      go_wp2_with fail
      go_ret
      exact ⟨by rw [str_is HS.out]; rfl, HB.out⟩
theorem shown_any (n : Int) (w : World) (h0 : -9223372036854775808 ≤ n) (h1 : n ≤ 9223372036854775807) : Calls Tryd.prog 18 #[.int .i64 n] w (TellsS w (Lib.itoa n)) := by
  have H := Lib.hid (refShow_any n w h0 h1)
  clear h0 h1
  go_enter Tryd.func18, Tryd.ntmps18
  go_wp2_with (go_at_call 37; refine H.out.mono ?_; rintro e w' ⟨rfl, hb⟩)
  go_ret
  exact ⟨rfl, hb⟩
/-- a node's line by how deep it stands, without the byte behind it -/
def lineD (nd : Nd) (deep : Nat) : List UInt8 := bl (deep - 1) ++ (Lib.itoa nd.id ++ 32 :: ((if deep ≤ 1 then [] else nd.role.data.toList ++ [32]) ++ nd.con.data.toList))
def propLD (p : ByteArray × ByteArray) (deep : Nat) : List UInt8 := bl deep ++ (46 :: (p.1.data.toList ++ 61 :: quote p.2.data.toList))
def refLD (r : ByteArray × Int) (deep : Nat) : List UInt8 := bl deep ++ (62 :: (r.1.data.toList ++ 61 :: Lib.itoa r.2))
theorem lineD_is {nd : Nd} {deep : Nat} (h : nd.par = 0 ↔ deep ≤ 1) : lineD nd deep ++ [10] = lineN nd deep := by
  unfold lineD lineN
  by_cases h0 : deep ≤ 1
  · rw [if_pos h0, if_pos (h.2 h0)]
  · rw [if_neg h0, if_neg (fun hp => h0 (h.1 hp))]
theorem calls_text {f : FuncId} {args : Array Value} {w : World} {l : List UInt8} {S : ByteArray} (h : Calls Tryd.prog f args w (TellsS w l)) (hS : (⟨l.toArray⟩ : ByteArray) = S) {X : World} (hb : Below X.heap.size X w) : Calls Tryd.prog f args w fun e w' => e = .returned (.string S) ∧ Below X.heap.size X w' :=
  h.mono fun e w' he => ⟨by rw [he.1, hS], hb.trans (he.2.mono hb.size)⟩
set_option maxRecDepth 20000 in
set_option maxHeartbeats 6400000 in
theorem refLine_any (w : World) (nd : Nd) (F : Leaf) (k : Nat) (hk1 : 1 ≤ k) (hk : k ≤ 64) (hok : NdOk nd) :
    Calls Tryd.prog 22 #[ndVal nd F, .int .i64 k] w (TellsS w (lineD nd k)) := by
  obtain ⟨⟨Ap, np, cp⟩, ⟨Ak, nk, ck⟩, ⟨Ar, nr, cr⟩⟩ := F
  obtain ⟨T0, hT0, hT0s, hT0e⟩ := itoa_text nd.id hok.id0 hok.id1
  obtain ⟨B0, hB0, hB0s, hB0e⟩ := bl_text (k - 1) (by omega)
  have hcon := hok.con
  have hrole := hok.role
  have hid0 := hok.id0
  have hid1 := hok.id1
  have ek : ((k - 1 : Nat) : Int) = (k : Int) - 1 := by omega
  have hwr : IntKind.i64.wrap ((k : Int) - 1) = (k : Int) - 1 := by
    have h2 : (k : Int) ≤ 64 := by omega
    unfold IntKind.wrap
    simp [IntKind.bits, IntKind.signed]
    omega
  show Calls _ _ #[.agg #[.int .i64 nd.id, .string nd.con, .int .i64 nd.par, .string nd.role, .slice Ap np cp, .slice Ak nk ck, .slice Ar nr cr], .int .i64 k] _ _
  have HB1 : Hid (Below w.heap.size w (w.alloc (.cells #[.int .i64 nd.id, .string nd.con, .int .i64 nd.par, .string nd.role, .slice Ap np cp, .slice Ak nk ck, .slice Ar nr cr] 37))) := Lib.hid ((Below.refl _ _).alloc (Nat.le_refl _) _)
  have HX1 : Hid (Blk (w.alloc (.cells #[.int .i64 nd.id, .string nd.con, .int .i64 nd.par, .string nd.role, .slice Ap np cp, .slice Ak nk ck, .slice Ar nr cr] 37)) w.heap.size 37 #[.int .i64 nd.id, .string nd.con, .int .i64 nd.par, .string nd.role, .slice Ap np cp, .slice Ak nk ck, .slice Ar nr cr]) := Lib.hid (Blk.new _ _ _)
  clear hok
  go_enter Tryd.func22, Tryd.ntmps22
  go_upto_region 1 with (fail)
  generalize w.alloc (.cells #[.int .i64 nd.id, .string nd.con, .int .i64 nd.par, .string nd.role, .slice Ap np cp, .slice Ak nk ck, .slice Ar nr cr] 37) = X1 at HB1 HX1 ⊢
  have HG1 : Hid (w.heap.size < X1.heap.size) := Lib.hid HX1.out.lt
  obtain ⟨g1, hg1⟩ : ∃ g1, g1 = w.heap.size := ⟨_, rfl⟩
  rw [← hg1] at HX1 HG1 ⊢
  clear hg1
  have HC1 : Hid (∀ Y, Below X1.heap.size X1 Y → Y.cell? ⟨g1, 0, none⟩ = some (.int .i64 nd.id)) := Lib.hid fun Y hY => (hY.cell (p := ⟨g1, _, none⟩) HG1.out).trans ((HX1.out.cell 0).trans rfl)
  have HCr : Hid (∀ Y, Below X1.heap.size X1 Y → Y.cell? ⟨g1, 3, none⟩ = some (.string nd.role) ∧ Y.cell? ⟨g1, 1, none⟩ = some (.string nd.con)) := Lib.hid fun Y hY => ⟨(hY.cell (p := ⟨g1, _, none⟩) HG1.out).trans ((HX1.out.cell 3).trans rfl), (hY.cell (p := ⟨g1, _, none⟩) HG1.out).trans ((HX1.out.cell 1).trans rfl)⟩
  have HBL : Hid (∀ Y, Below X1.heap.size X1 Y → Calls Tryd.prog 41 #[.int .i64 ((k : Int) - 1)] Y fun e w' => e = .returned (.string B0) ∧ Below X1.heap.size X1 w') := Lib.hid fun Y hY => by rw [← ek]; exact calls_text (blanks_any (k - 1) Y (by omega)) hB0e hY
  have HSH : Hid (∀ Y, Below X1.heap.size X1 Y → Calls Tryd.prog 18 #[.int .i64 nd.id] Y fun e w' => e = .returned (.string T0) ∧ Below X1.heap.size X1 w') := Lib.hid fun Y hY => calls_text (shown_any nd.id Y hid0 hid1) hT0e hY
  have z1 : ¬ 9223372036854775807 < B0.size + T0.size := by omega
  have z2 : ¬ 9223372036854775807 < B0.size + T0.size + 1 := by omega
  have z3 : ¬ 9223372036854775807 < B0.size + T0.size + 1 + nd.role.size := by omega
  have z4 : ¬ 9223372036854775807 < B0.size + T0.size + 1 + nd.role.size + 1 := by omega
  have z5 : ¬ 9223372036854775807 < B0.size + T0.size + 1 + nd.role.size + 1 + nd.con.size := by omega
  have z6 : ¬ 9223372036854775807 < B0.size + T0.size + 1 + nd.con.size := by omega
  clear hT0e hB0e
  refine wp_region_held_tail 8 (fun Y => Below X1.heap.size X1 Y ∧ Y.cell? ⟨g1, 0, none⟩ = some (.int .i64 nd.id)) (by kernel_rfl) (by kernel_rfl) ?hSl (fun hHeld => ?ql0)
  case hSl => exact ⟨below_drew1' X1, HC1.out _ (below_drew1' X1)⟩
  case ql0 =>
    simp only [List.take_succ_cons, List.take_zero, List.drop_succ_cons, List.drop_zero]
    refine wpAnyH_take (i := 0) (oi := ⟨some 6, _, _, _, _, _⟩) (v := (.int .i64 (k : Int))) rfl (by kernel_rfl) (by kernel_rfl) (by kernel_rfl) (fun _ _ _ h => h) (Or.inl ⟨by rfl, ?yl_1⟩) (by assumption) ?ql_1
    case yl_1 => (intro w hSw; (try dsimp only at hSw); go_simp)
    case ql_1 =>
      (try simp only [Act.put]); (try simp only [List.setIfInBounds_toArray])
      refine wpAnyH_take (i := 1) (oi := ⟨some 7, _, _, _, _, _⟩) (v := (.int .i64 ((k : Int) - 1))) rfl (by kernel_rfl) (by kernel_rfl) (by kernel_rfl) (fun _ _ _ h => h) (Or.inl ⟨by rfl, ?yl_2⟩) (by assumption) ?ql_2
      case yl_2 => (intro w hSw; (try dsimp only at hSw); go_simp)
      case ql_2 =>
        (try simp only [Act.put]); (try simp only [List.setIfInBounds_toArray])
        refine wpAnyH_take (i := 3) (oi := ⟨some 9, _, _, _, _, _⟩) (v := (.pointer (some ⟨g1, 0, none⟩))) rfl (by kernel_rfl) (by kernel_rfl) (by kernel_rfl) (fun _ _ _ h => h) (Or.inl ⟨by rfl, ?yl_4⟩) (by assumption) ?ql_4
        case yl_4 => (intro w hSw; (try dsimp only at hSw); go_simp)
        case ql_4 =>
          (try simp only [Act.put]); (try simp only [List.setIfInBounds_toArray])
          refine wpAnyH_take (i := 4) (oi := ⟨some 10, _, _, _, _, _⟩) (v := (.int .i64 nd.id)) rfl (by kernel_rfl) (by kernel_rfl) (by kernel_rfl) (fun _ _ _ h => h) (Or.inl ⟨by rfl, ?yl_5⟩) (by assumption) ?ql_5
          case yl_5 => (intro w hSw; (try dsimp only at hSw); go_simp)
          case ql_5 =>
            (try simp only [Act.put]); (try simp only [List.setIfInBounds_toArray])
            refine wpAnyH_make (i := 2) (o := ⟨some 8, _, _, _, _, _⟩) (by kernel_rfl) rfl (by simp [Region.wanted, yielded]) 41 #[.int .i64 ((k : Int) - 1)] (.string B0) (R := fun Y => Below X1.heap.size X1 Y) (by go_simp) (HBL.out _ (below_drew1' X1)) (fun Y hY => ⟨hY, HC1.out Y hY⟩) (fun Yl1 hl1 => ?qlc1)
            case qlc1 =>
              (try simp only [Act.put]); (try simp only [List.setIfInBounds_toArray])
              have hHeld1 : Below X1.heap.size X1 Yl1 ∧ Yl1.cell? ⟨g1, 0, none⟩ = some (.int .i64 nd.id) := ⟨hl1, HC1.out Yl1 hl1⟩
              refine wpAnyH_make (i := 5) (o := ⟨some 11, _, _, _, _, _⟩) (by kernel_rfl) rfl (by simp [Region.wanted, yielded]) 18 #[.int .i64 nd.id] (.string T0) (R := fun Y => Below X1.heap.size X1 Y) (by go_simp) (HSH.out _ (hl1)) (fun Y hY => ⟨hY, HC1.out Y hY⟩) (fun Yl2 hl2 => ?qlc2)
              case qlc2 =>
                (try simp only [Act.put]); (try simp only [List.setIfInBounds_toArray])
                have hHeld2 : Below X1.heap.size X1 Yl2 ∧ Yl2.cell? ⟨g1, 0, none⟩ = some (.int .i64 nd.id) := ⟨hl2, HC1.out Yl2 hl2⟩
                refine wpAnyH_take (i := 6) (oi := ⟨some 12, _, _, _, _, _⟩) (v := (.string (B0 ++ T0))) rfl (by kernel_rfl) (by kernel_rfl) (by kernel_rfl) (fun _ _ _ h => h) (Or.inl ⟨by rfl, ?yl_7⟩) (by assumption) ?ql_7
                case yl_7 => (intro w hSw; (try dsimp only at hSw); go_simp)
                case ql_7 =>
                  (try simp only [Act.put]); (try simp only [List.setIfInBounds_toArray])
                  refine wpAnyH_take (i := 7) (oi := ⟨some 13, _, _, _, _, _⟩) (v := (.string (B0 ++ T0 ++ ⟨#[32]⟩))) rfl (by kernel_rfl) (by kernel_rfl) (by kernel_rfl) (fun _ _ _ h => h) (Or.inl ⟨by rfl, ?yl_8⟩) (by assumption) ?ql_8
                  case yl_8 => (intro w hSw; (try dsimp only at hSw); go_simp)
                  case ql_8 =>
                    (try simp only [Act.put]); (try simp only [List.setIfInBounds_toArray])
                    refine wpAnyH_done (by kernel_rfl) ?_ _
                    clear hHeld hHeld1 hHeld2
                    show wpList _ _ _ _ _ _
                    have HY := Lib.hid hl2
                    by_cases hk2 : 1 < k
                    · have d1 : (1 : Int) < (k : Int) := by omega
                      have HLD : Hid ((⟨(lineD nd k).toArray⟩ : ByteArray) = B0 ++ T0 ++ ⟨#[32]⟩ ++ nd.role ++ ⟨#[32]⟩ ++ nd.con) := Lib.hid (str_is (by
                        unfold lineD
                        rw [if_neg (by omega)]
                        simp only [append_list, hB0, hT0]
                        simp))
                      have cr3 := (HCr.out _ hl2).1
                      have cr1 := (HCr.out _ hl2).2
                      clear hk2
                      go_wp2_with fail
                      go_ret
                      exact ⟨by rw [HLD.out]; rfl, HB1.out.trans (HY.out.mono HB1.out.size)⟩
                    · have d1 : ¬ (1 : Int) < (k : Int) := by omega
                      have HLD : Hid ((⟨(lineD nd k).toArray⟩ : ByteArray) = B0 ++ T0 ++ ⟨#[32]⟩ ++ nd.con) := Lib.hid (str_is (by
                        unfold lineD
                        rw [if_pos (by omega)]
                        simp only [append_list, hB0, hT0]
                        simp))
                      have cr1 := (HCr.out _ hl2).2
                      clear hk2
                      go_wp2_with fail
                      go_ret
                      exact ⟨by rw [HLD.out]; rfl, HB1.out.trans (HY.out.mono HB1.out.size)⟩
set_option maxRecDepth 20000 in
set_option maxHeartbeats 6400000 in
theorem refProp_any (w : World) (p1 p2 : ByteArray) (k : Nat) (hk : k ≤ 64) (h1 : p1.size ≤ 4096) (h2 : p2.size ≤ 4096) :
    Calls Tryd.prog 23 #[.agg #[.string p1, .string p2], .int .i64 k] w (TellsS w (propLD (p1, p2) k)) := by
  obtain ⟨T0, hT0, hT0s, hT0e⟩ := quote_text p2 h2
  obtain ⟨B0, hB0, hB0s, hB0e⟩ := bl_text k hk
  have hq : (quote p2.data.toList).length + 4 ≤ 140737488355328 := by
    have := quote_len p2.data.toList
    have h3 : p2.data.toList.length = p2.size := by rw [Array.length_toList]; rfl
    omega
  have HB1 : Hid (Below w.heap.size w (w.alloc (.cells #[.string p1, .string p2] 56))) := Lib.hid ((Below.refl _ _).alloc (Nat.le_refl _) _)
  have HX1 : Hid (Blk (w.alloc (.cells #[.string p1, .string p2] 56)) w.heap.size 56 #[.string p1, .string p2]) := Lib.hid (Blk.new _ _ _)
  go_enter Tryd.func23, Tryd.ntmps23
  go_upto_region 1 with (fail)
  generalize w.alloc (.cells #[.string p1, .string p2] 56) = X1 at HB1 HX1 ⊢
  have HG1 : Hid (w.heap.size < X1.heap.size) := Lib.hid HX1.out.lt
  obtain ⟨g1, hg1⟩ : ∃ g1, g1 = w.heap.size := ⟨_, rfl⟩
  rw [← hg1] at HX1 HG1 ⊢
  clear hg1
  have HC1 : Hid (∀ Y, Below X1.heap.size X1 Y → Y.cell? ⟨g1, 0, none⟩ = some (.string p1) ∧ Y.cell? ⟨g1, 1, none⟩ = some (.string p2)) := Lib.hid fun Y hY => ⟨(hY.cell (p := ⟨g1, _, none⟩) HG1.out).trans ((HX1.out.cell 0).trans rfl), (hY.cell (p := ⟨g1, _, none⟩) HG1.out).trans ((HX1.out.cell 1).trans rfl)⟩
  have HBL : Hid (∀ Y, Below X1.heap.size X1 Y → Calls Tryd.prog 41 #[.int .i64 (k : Int)] Y fun e w' => e = .returned (.string B0) ∧ Below X1.heap.size X1 w') := Lib.hid fun Y hY => calls_text (blanks_any k Y hk) hB0e hY
  have HSH : Hid (∀ Y, Below X1.heap.size X1 Y → Calls Tryd.prog 42 #[.string p2] Y fun e w' => e = .returned (.string T0) ∧ Below X1.heap.size X1 w') := Lib.hid fun Y hY => calls_text (l := quote p2.data.toList) ((refQuote_any p2 Y hq).mono fun e w' he => ⟨he.1, he.2⟩) hT0e hY
  have z1 : ¬ 9223372036854775807 < B0.size + 1 := by omega
  have z2 : ¬ 9223372036854775807 < B0.size + 1 + p1.size := by omega
  have z3 : ¬ 9223372036854775807 < B0.size + 1 + p1.size + 1 := by omega
  have z4 : ¬ 9223372036854775807 < B0.size + 1 + p1.size + 1 + T0.size := by omega
  have HLD : Hid ((⟨(propLD (p1, p2) k).toArray⟩ : ByteArray) = B0 ++ ⟨#[46]⟩ ++ p1 ++ ⟨#[61]⟩ ++ T0) := Lib.hid (str_is (by
    unfold propLD
    simp only [append_list, hB0, hT0]
    simp))
  clear hT0e hB0e
  refine wp_region_held_tail 11 (fun Y => Below X1.heap.size X1 Y ∧ Y.cell? ⟨g1, 0, none⟩ = some (.string p1) ∧ Y.cell? ⟨g1, 1, none⟩ = some (.string p2)) (by kernel_rfl) (by kernel_rfl) ?hSp (fun hHeld => ?qp0)
  case hSp => exact ⟨below_drew1' X1, HC1.out _ (below_drew1' X1)⟩
  case qp0 =>
    simp only [List.take_succ_cons, List.take_zero, List.drop_succ_cons, List.drop_zero]
    refine wpAnyH_take (i := 0) (oi := ⟨some 5, _, _, _, _, _⟩) (v := (.int .i64 (k : Int))) rfl (by kernel_rfl) (by kernel_rfl) (by kernel_rfl) (fun _ _ _ h => h) (Or.inl ⟨by rfl, ?yp_1⟩) (by assumption) ?qp_1
    case yp_1 => (intro w hSw; (try dsimp only at hSw); go_simp)
    case qp_1 =>
      (try simp only [Act.put]); (try simp only [List.setIfInBounds_toArray])
      refine wpAnyH_take (i := 3) (oi := ⟨some 8, _, _, _, _, _⟩) (v := (.pointer (some ⟨g1, 0, none⟩))) rfl (by kernel_rfl) (by kernel_rfl) (by kernel_rfl) (fun _ _ _ h => h) (Or.inl ⟨by rfl, ?yp_4⟩) (by assumption) ?qp_4
      case yp_4 => (intro w hSw; (try dsimp only at hSw); go_simp)
      case qp_4 =>
        (try simp only [Act.put]); (try simp only [List.setIfInBounds_toArray])
        refine wpAnyH_take (i := 4) (oi := ⟨some 9, _, _, _, _, _⟩) (v := (.string p1)) rfl (by kernel_rfl) (by kernel_rfl) (by kernel_rfl) (fun _ _ _ h => h) (Or.inl ⟨by rfl, ?yp_5⟩) (by assumption) ?qp_5
        case yp_5 => (intro w hSw; (try dsimp only at hSw); go_simp)
        case qp_5 =>
          (try simp only [Act.put]); (try simp only [List.setIfInBounds_toArray])
          refine wpAnyH_take (i := 7) (oi := ⟨some 12, _, _, _, _, _⟩) (v := (.pointer (some ⟨g1, 1, none⟩))) rfl (by kernel_rfl) (by kernel_rfl) (by kernel_rfl) (fun _ _ _ h => h) (Or.inl ⟨by rfl, ?yp_8⟩) (by assumption) ?qp_8
          case yp_8 => (intro w hSw; (try dsimp only at hSw); go_simp)
          case qp_8 =>
            (try simp only [Act.put]); (try simp only [List.setIfInBounds_toArray])
            refine wpAnyH_take (i := 8) (oi := ⟨some 13, _, _, _, _, _⟩) (v := (.string p2)) rfl (by kernel_rfl) (by kernel_rfl) (by kernel_rfl) (fun _ _ _ h => h) (Or.inl ⟨by rfl, ?yp_9⟩) (by assumption) ?qp_9
            case yp_9 => (intro w hSw; (try dsimp only at hSw); go_simp)
            case qp_9 =>
              (try simp only [Act.put]); (try simp only [List.setIfInBounds_toArray])
              refine wpAnyH_make (i := 1) (o := ⟨some 6, _, _, _, _, _⟩) (by kernel_rfl) rfl (by simp [Region.wanted, yielded]) 41 #[.int .i64 (k : Int)] (.string B0) (R := fun Y => Below X1.heap.size X1 Y) (by go_simp) (HBL.out _ (below_drew1' X1)) (fun Y hY => ⟨hY, HC1.out Y hY⟩) (fun Yp1 hp1 => ?qpc1)
              case qpc1 =>
                (try simp only [Act.put]); (try simp only [List.setIfInBounds_toArray])
                have hHeld1 : Below X1.heap.size X1 Yp1 ∧ Yp1.cell? ⟨g1, 0, none⟩ = some (.string p1) ∧ Yp1.cell? ⟨g1, 1, none⟩ = some (.string p2) := ⟨hp1, HC1.out Yp1 hp1⟩
                refine wpAnyH_take (i := 2) (oi := ⟨some 7, _, _, _, _, _⟩) (v := (.string (B0 ++ ⟨#[46]⟩))) rfl (by kernel_rfl) (by kernel_rfl) (by kernel_rfl) (fun _ _ _ h => h) (Or.inl ⟨by rfl, ?yp_3⟩) (by assumption) ?qp_3
                case yp_3 => (intro w hSw; (try dsimp only at hSw); go_simp)
                case qp_3 =>
                  (try simp only [Act.put]); (try simp only [List.setIfInBounds_toArray])
                  refine wpAnyH_take (i := 5) (oi := ⟨some 10, _, _, _, _, _⟩) (v := (.string (B0 ++ ⟨#[46]⟩ ++ p1))) rfl (by kernel_rfl) (by kernel_rfl) (by kernel_rfl) (fun _ _ _ h => h) (Or.inl ⟨by rfl, ?yp_6⟩) (by assumption) ?qp_6
                  case yp_6 => (intro w hSw; (try dsimp only at hSw); go_simp)
                  case qp_6 =>
                    (try simp only [Act.put]); (try simp only [List.setIfInBounds_toArray])
                    refine wpAnyH_take (i := 6) (oi := ⟨some 11, _, _, _, _, _⟩) (v := (.string (B0 ++ ⟨#[46]⟩ ++ p1 ++ ⟨#[61]⟩))) rfl (by kernel_rfl) (by kernel_rfl) (by kernel_rfl) (fun _ _ _ h => h) (Or.inl ⟨by rfl, ?yp_7⟩) (by assumption) ?qp_7
                    case yp_7 => (intro w hSw; (try dsimp only at hSw); go_simp)
                    case qp_7 =>
                      (try simp only [Act.put]); (try simp only [List.setIfInBounds_toArray])
                      refine wpAnyH_make (i := 9) (o := ⟨some 14, _, _, _, _, _⟩) (by kernel_rfl) rfl (by simp [Region.wanted, yielded]) 42 #[.string p2] (.string T0) (R := fun Y => Below X1.heap.size X1 Y) (by go_simp) (HSH.out _ (hp1)) (fun Y hY => ⟨hY, HC1.out Y hY⟩) (fun Yp2 hp2 => ?qpc2)
                      case qpc2 =>
                        (try simp only [Act.put]); (try simp only [List.setIfInBounds_toArray])
                        have hHeld2 : Below X1.heap.size X1 Yp2 ∧ Yp2.cell? ⟨g1, 0, none⟩ = some (.string p1) ∧ Yp2.cell? ⟨g1, 1, none⟩ = some (.string p2) := ⟨hp2, HC1.out Yp2 hp2⟩
                        refine wpAnyH_take (i := 10) (oi := ⟨some 15, _, _, _, _, _⟩) (v := (.string (B0 ++ ⟨#[46]⟩ ++ p1 ++ ⟨#[61]⟩ ++ T0))) rfl (by kernel_rfl) (by kernel_rfl) (by kernel_rfl) (fun _ _ _ h => h) (Or.inl ⟨by rfl, ?yp_11⟩) (by assumption) ?qp_11
                        case yp_11 => (intro w hSw; (try dsimp only at hSw); go_simp)
                        case qp_11 =>
                          (try simp only [Act.put]); (try simp only [List.setIfInBounds_toArray])
                          refine wpAnyH_done (by kernel_rfl) ?_ _
                          clear hHeld hHeld1 hHeld2
                          show wpList _ _ _ _ _ _
                          have HY := Lib.hid hp2
                          go_wp2_with fail
                          go_ret
                          exact ⟨by rw [HLD.out]; rfl, HB1.out.trans (HY.out.mono HB1.out.size)⟩
set_option maxRecDepth 20000 in
set_option maxHeartbeats 6400000 in
theorem refRefL_any (w : World) (p1 : ByteArray) (p2 : Int) (k : Nat) (hk : k ≤ 64) (h1 : p1.size ≤ 4096) (h20 : -9223372036854775808 ≤ p2) (h21 : p2 ≤ 9223372036854775807) :
    Calls Tryd.prog 24 #[.agg #[.string p1, .int .i64 p2], .int .i64 k] w (TellsS w (refLD (p1, p2) k)) := by
  obtain ⟨T0, hT0, hT0s, hT0e⟩ := itoa_text p2 h20 h21
  obtain ⟨B0, hB0, hB0s, hB0e⟩ := bl_text k hk
  have HB1 : Hid (Below w.heap.size w (w.alloc (.cells #[.string p1, .int .i64 p2] 59))) := Lib.hid ((Below.refl _ _).alloc (Nat.le_refl _) _)
  have HX1 : Hid (Blk (w.alloc (.cells #[.string p1, .int .i64 p2] 59)) w.heap.size 59 #[.string p1, .int .i64 p2]) := Lib.hid (Blk.new _ _ _)
  go_enter Tryd.func24, Tryd.ntmps24
  go_upto_region 1 with (fail)
  generalize w.alloc (.cells #[.string p1, .int .i64 p2] 59) = X1 at HB1 HX1 ⊢
  have HG1 : Hid (w.heap.size < X1.heap.size) := Lib.hid HX1.out.lt
  obtain ⟨g1, hg1⟩ : ∃ g1, g1 = w.heap.size := ⟨_, rfl⟩
  rw [← hg1] at HX1 HG1 ⊢
  clear hg1
  have HC1 : Hid (∀ Y, Below X1.heap.size X1 Y → Y.cell? ⟨g1, 0, none⟩ = some (.string p1) ∧ Y.cell? ⟨g1, 1, none⟩ = some (.int .i64 p2)) := Lib.hid fun Y hY => ⟨(hY.cell (p := ⟨g1, _, none⟩) HG1.out).trans ((HX1.out.cell 0).trans rfl), (hY.cell (p := ⟨g1, _, none⟩) HG1.out).trans ((HX1.out.cell 1).trans rfl)⟩
  have HBL : Hid (∀ Y, Below X1.heap.size X1 Y → Calls Tryd.prog 41 #[.int .i64 (k : Int)] Y fun e w' => e = .returned (.string B0) ∧ Below X1.heap.size X1 w') := Lib.hid fun Y hY => calls_text (blanks_any k Y hk) hB0e hY
  have HSH : Hid (∀ Y, Below X1.heap.size X1 Y → Calls Tryd.prog 18 #[.int .i64 p2] Y fun e w' => e = .returned (.string T0) ∧ Below X1.heap.size X1 w') := Lib.hid fun Y hY => calls_text (shown_any p2 Y h20 h21) hT0e hY
  have z1 : ¬ 9223372036854775807 < B0.size + 1 := by omega
  have z2 : ¬ 9223372036854775807 < B0.size + 1 + p1.size := by omega
  have z3 : ¬ 9223372036854775807 < B0.size + 1 + p1.size + 1 := by omega
  have z4 : ¬ 9223372036854775807 < B0.size + 1 + p1.size + 1 + T0.size := by omega
  have HLD : Hid ((⟨(refLD (p1, p2) k).toArray⟩ : ByteArray) = B0 ++ ⟨#[62]⟩ ++ p1 ++ ⟨#[61]⟩ ++ T0) := Lib.hid (str_is (by
    unfold refLD
    simp only [append_list, hB0, hT0]
    simp))
  clear hT0e hB0e h20 h21
  refine wp_region_held_tail 11 (fun Y => Below X1.heap.size X1 Y ∧ Y.cell? ⟨g1, 0, none⟩ = some (.string p1) ∧ Y.cell? ⟨g1, 1, none⟩ = some (.int .i64 p2)) (by kernel_rfl) (by kernel_rfl) ?hSr (fun hHeld => ?qr0)
  case hSr => exact ⟨below_drew1' X1, HC1.out _ (below_drew1' X1)⟩
  case qr0 =>
    simp only [List.take_succ_cons, List.take_zero, List.drop_succ_cons, List.drop_zero]
    refine wpAnyH_take (i := 0) (oi := ⟨some 5, _, _, _, _, _⟩) (v := (.int .i64 (k : Int))) rfl (by kernel_rfl) (by kernel_rfl) (by kernel_rfl) (fun _ _ _ h => h) (Or.inl ⟨by rfl, ?yr_1⟩) (by assumption) ?qr_1
    case yr_1 => (intro w hSw; (try dsimp only at hSw); go_simp)
    case qr_1 =>
      (try simp only [Act.put]); (try simp only [List.setIfInBounds_toArray])
      refine wpAnyH_take (i := 3) (oi := ⟨some 8, _, _, _, _, _⟩) (v := (.pointer (some ⟨g1, 0, none⟩))) rfl (by kernel_rfl) (by kernel_rfl) (by kernel_rfl) (fun _ _ _ h => h) (Or.inl ⟨by rfl, ?yr_4⟩) (by assumption) ?qr_4
      case yr_4 => (intro w hSw; (try dsimp only at hSw); go_simp)
      case qr_4 =>
        (try simp only [Act.put]); (try simp only [List.setIfInBounds_toArray])
        refine wpAnyH_take (i := 4) (oi := ⟨some 9, _, _, _, _, _⟩) (v := (.string p1)) rfl (by kernel_rfl) (by kernel_rfl) (by kernel_rfl) (fun _ _ _ h => h) (Or.inl ⟨by rfl, ?yr_5⟩) (by assumption) ?qr_5
        case yr_5 => (intro w hSw; (try dsimp only at hSw); go_simp)
        case qr_5 =>
          (try simp only [Act.put]); (try simp only [List.setIfInBounds_toArray])
          refine wpAnyH_take (i := 7) (oi := ⟨some 12, _, _, _, _, _⟩) (v := (.pointer (some ⟨g1, 1, none⟩))) rfl (by kernel_rfl) (by kernel_rfl) (by kernel_rfl) (fun _ _ _ h => h) (Or.inl ⟨by rfl, ?yr_8⟩) (by assumption) ?qr_8
          case yr_8 => (intro w hSw; (try dsimp only at hSw); go_simp)
          case qr_8 =>
            (try simp only [Act.put]); (try simp only [List.setIfInBounds_toArray])
            refine wpAnyH_take (i := 8) (oi := ⟨some 13, _, _, _, _, _⟩) (v := (.int .i64 p2)) rfl (by kernel_rfl) (by kernel_rfl) (by kernel_rfl) (fun _ _ _ h => h) (Or.inl ⟨by rfl, ?yr_9⟩) (by assumption) ?qr_9
            case yr_9 => (intro w hSw; (try dsimp only at hSw); go_simp)
            case qr_9 =>
              (try simp only [Act.put]); (try simp only [List.setIfInBounds_toArray])
              refine wpAnyH_make (i := 1) (o := ⟨some 6, _, _, _, _, _⟩) (by kernel_rfl) rfl (by simp [Region.wanted, yielded]) 41 #[.int .i64 (k : Int)] (.string B0) (R := fun Y => Below X1.heap.size X1 Y) (by go_simp) (HBL.out _ (below_drew1' X1)) (fun Y hY => ⟨hY, HC1.out Y hY⟩) (fun Yr1 hr1 => ?qrc1)
              case qrc1 =>
                (try simp only [Act.put]); (try simp only [List.setIfInBounds_toArray])
                have hHeld1 : Below X1.heap.size X1 Yr1 ∧ Yr1.cell? ⟨g1, 0, none⟩ = some (.string p1) ∧ Yr1.cell? ⟨g1, 1, none⟩ = some (.int .i64 p2) := ⟨hr1, HC1.out Yr1 hr1⟩
                refine wpAnyH_take (i := 2) (oi := ⟨some 7, _, _, _, _, _⟩) (v := (.string (B0 ++ ⟨#[62]⟩))) rfl (by kernel_rfl) (by kernel_rfl) (by kernel_rfl) (fun _ _ _ h => h) (Or.inl ⟨by rfl, ?yr_3⟩) (by assumption) ?qr_3
                case yr_3 => (intro w hSw; (try dsimp only at hSw); go_simp)
                case qr_3 =>
                  (try simp only [Act.put]); (try simp only [List.setIfInBounds_toArray])
                  refine wpAnyH_take (i := 5) (oi := ⟨some 10, _, _, _, _, _⟩) (v := (.string (B0 ++ ⟨#[62]⟩ ++ p1))) rfl (by kernel_rfl) (by kernel_rfl) (by kernel_rfl) (fun _ _ _ h => h) (Or.inl ⟨by rfl, ?yr_6⟩) (by assumption) ?qr_6
                  case yr_6 => (intro w hSw; (try dsimp only at hSw); go_simp)
                  case qr_6 =>
                    (try simp only [Act.put]); (try simp only [List.setIfInBounds_toArray])
                    refine wpAnyH_take (i := 6) (oi := ⟨some 11, _, _, _, _, _⟩) (v := (.string (B0 ++ ⟨#[62]⟩ ++ p1 ++ ⟨#[61]⟩))) rfl (by kernel_rfl) (by kernel_rfl) (by kernel_rfl) (fun _ _ _ h => h) (Or.inl ⟨by rfl, ?yr_7⟩) (by assumption) ?qr_7
                    case yr_7 => (intro w hSw; (try dsimp only at hSw); go_simp)
                    case qr_7 =>
                      (try simp only [Act.put]); (try simp only [List.setIfInBounds_toArray])
                      refine wpAnyH_make (i := 9) (o := ⟨some 14, _, _, _, _, _⟩) (by kernel_rfl) rfl (by simp [Region.wanted, yielded]) 18 #[.int .i64 p2] (.string T0) (R := fun Y => Below X1.heap.size X1 Y) (by go_simp) (HSH.out _ (hr1)) (fun Y hY => ⟨hY, HC1.out Y hY⟩) (fun Yr2 hr2 => ?qrc2)
                      case qrc2 =>
                        (try simp only [Act.put]); (try simp only [List.setIfInBounds_toArray])
                        have hHeld2 : Below X1.heap.size X1 Yr2 ∧ Yr2.cell? ⟨g1, 0, none⟩ = some (.string p1) ∧ Yr2.cell? ⟨g1, 1, none⟩ = some (.int .i64 p2) := ⟨hr2, HC1.out Yr2 hr2⟩
                        refine wpAnyH_take (i := 10) (oi := ⟨some 15, _, _, _, _, _⟩) (v := (.string (B0 ++ ⟨#[62]⟩ ++ p1 ++ ⟨#[61]⟩ ++ T0))) rfl (by kernel_rfl) (by kernel_rfl) (by kernel_rfl) (fun _ _ _ h => h) (Or.inl ⟨by rfl, ?yr_11⟩) (by assumption) ?qr_11
                        case yr_11 => (intro w hSw; (try dsimp only at hSw); go_simp)
                        case qr_11 =>
                          (try simp only [Act.put]); (try simp only [List.setIfInBounds_toArray])
                          refine wpAnyH_done (by kernel_rfl) ?_ _
                          clear hHeld hHeld1 hHeld2
                          show wpList _ _ _ _ _ _
                          have HY := Lib.hid hr2
                          go_wp2_with fail
                          go_ret
                          exact ⟨by rw [HLD.out]; rfl, HB1.out.trans (HY.out.mono HB1.out.size)⟩
end Go.Proofs.YtdeoblhdojbbbaaDoor

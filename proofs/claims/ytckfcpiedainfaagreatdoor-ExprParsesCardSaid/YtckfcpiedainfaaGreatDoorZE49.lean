/-
  WALK of the law ExprParses.
  THE LIBRARY's VARIABLES AND PACKAGES lex's AND expr's as the rows of layer 8 that read a text list them: what that gives the walks; a start in which they lie so.
-/
import Derived.Test.YtckfcpiedainfaaGreatDoorZE48
namespace Go.Proofs.YtckfcpiedainfaaGreatDoor
open Go Go.RowKit Go.Sort
set_option linter.unusedVariables false
set_option maxRecDepth 20000 in
set_option maxHeartbeats 3200000 in
theorem exprParses_law (w : World) (s : ByteArray) (hs : s.size ≤ 140737488355328) (hE : ExprEnv w) (hV : ScanEnv w) : Calls Tryz.prog 3 #[.string s] w (TellsB w true) := by
  obtain ⟨ms, a, r, hR⟩ : ∃ ms a r, exprR s.data.toList = (ms, a, r) := ⟨_, _, _, rfl⟩
  have HP : Hid (Calls Tryz.prog 8 #[.string s] w (ParsePost w (ms, a, r))) := Lib.hid (by rw [← hR]; exact exprParse_any w s hs hE hV)
  have HD : Hid (∀ Y, Calls Tryz.prog 9 #[.string s] Y (DocPost Y (ms, a, r))) := Lib.hid fun Y => by rw [← hR]; exact docParse_any Y s hs
  clear hR hE hV
  go_enter Tryz.func3, Tryz.ntmps3
  go_upto_region 2 with (go_at_call 8; (with_reducible refine HP.out.mono ?_); go_must (rintro e w1 ⟨A, c, m, rfl, hn, hG, hb⟩; dsimp only; have HN := Lib.hid hn; have HG := Lib.hid hG.gin; have HB := Lib.hid hb; clear hn hG hb))
  have HR1 : Hid (Blk (w1.alloc (.cells #[.slice A m.length c] 24)) w1.heap.size 24 #[.slice A m.length c]) := Lib.hid (Blk.new _ _ _)
  have HB1 : Hid (Below w1.heap.size w1 (w1.alloc (.cells #[.slice A m.length c] 24))) := Lib.hid (below_of_alloc _)
  generalize w1.alloc (.cells #[.slice A m.length c] 24) = X1 at HR1 HB1 ⊢
  go_upto_region 3 with (go_at_call 9; (with_reducible refine (HD.out X1).mono ?_); go_must (rintro e w2 ⟨A2, c2, m2, B2, rfl, hn, hBX, hG, hb⟩; dsimp only; have HN2 := Lib.hid hn; have HG2 := Lib.hid hG.gin; have HB2 := Lib.hid hb; clear hn hG hb hBX))
  have HR2 : Hid (Blk (w2.alloc (.cells #[.slice A2 m2.length c2] 24)) w2.heap.size 24 #[.slice A2 m2.length c2]) := Lib.hid (Blk.new _ _ _)
  have HR3 : Hid (Blk (w2.alloc (.cells #[.slice A2 m2.length c2] 24)) w1.heap.size 24 #[.slice A m.length c]) := Lib.hid ((HR1.out.after HB2.out).alloc _)
  have HB3 : Hid (Below w2.heap.size w2 (w2.alloc (.cells #[.slice A2 m2.length c2] 24))) := Lib.hid (below_of_alloc _)
  generalize w2.alloc (.cells #[.slice A2 m2.length c2] 24) = X2 at HR2 HR3 HB3 ⊢
  have hs1 := HB1.out.size
  have hs2 := HB2.out.size
  have hs3 := HB3.out.size
  have hs0 := HB.out.size
  have HB13 : Hid (Below w1.heap.size w1 X2) := Lib.hid ((HB1.out.trans (HB2.out.mono hs1)).trans (HB3.out.mono (Nat.le_trans hs1 hs2)))
  have HB03 : Hid (Below w.heap.size w X2) := Lib.hid (HB.out.trans (HB13.out.mono hs0))
  have heq : nodesOf m = nodesOf m2 := HN.out.trans HN2.out.symm
  have hlen : m2.length = m.length := by rw [← nodesOf_len m, ← nodesOf_len m2, heq]
  have HS : Hid (Calls Tryz.prog 10 #[.agg #[.slice A m.length c], .agg #[.slice A2 m2.length c2]] X2 (TellsB X2 true)) := Lib.hid (by
    have h2 := HG2.out.below HB3.out
    rw [hlen] at h2 ⊢
    exact same_g X2 w1.heap.size w2.heap.size A A2 m.length c c2 m m2 (HG.out.below HB13.out) HB13.out.size h2 hs3 heq)
  have c1 := (HR3.out.cell 0).trans (show _ = some (.slice A m.length c) from rfl)
  have c2' := (HR2.out.cell 0).trans (show _ = some (.slice A2 m2.length c2) from rfl)
  clear hs0 hs1 hs2 hs3 heq hlen
  go_wp2_with (go_at_call 10; (with_reducible refine HS.out.mono ?_); go_must (rintro e w3 ⟨rfl, hb3⟩; have HB4 := Lib.hid hb3; clear hb3))
  trace_state
  go_ret
  exact tellsB (by simp) (HB03.out.trans (HB4.out.mono HB03.out.size))
end Go.Proofs.YtckfcpiedainfaaGreatDoor
namespace Go.Proofs.YtckfcpiedainfaaGreatDoor
open Go Go.RowKit Go.ChangeShapes Go.WideShapes Go.ChangeAt Go.Deep Go.Sort
set_option linter.unusedVariables false
/-- what the row's list gives -/
theorem env_expr {W : World} (h : laidMetH Tryz.prog Rows.exprParsesRow.laid W) : ExprEnv W ∧ ScanEnv W := by
  have h1 := laidMet.tail (laidMet.tail h)
  have h2 := laidMet.tail h1
  have h3 := laidMet.tail h2
  have h4 := laidMet.tail h3
  have h5 := laidMet.tail h4
  have h6 := laidMet.tail h5
  have htab : Lib.TabIs Tryz.prog W "internal/strconv.uint64pow10" .u64 Lib.pow10Tab := Lib.tabIs_of_head (zs := Lib.pow10Tab) gTab gTabType Tryz.underlying168 Tryz.underlying37 cellsU64 cellsTab h1
  have hlex : LexEnv W := ⟨htab, strs_of_head (l := wordsL) gWords gWordsType Tryz.underlying138 Tryz.underlying9 cellsStr cellsWords h4, strs_of_head (l := marksL) gMarks gMarksType Tryz.underlying127 Tryz.underlying9 cellsStr cellsMarks h5⟩
  refine ⟨⟨hlex, ?_⟩, ⟨⟨?_, ?_, htab⟩, hlex⟩⟩
  · obtain ⟨cs, t2, fr, enc, base, sp, held, fuel, p, hh, hd⟩ := laid_head (d := .agg (signsL.map signD)) gSigns gSignsType h6
    have := arr_cells (C := signC) Tryz.underlying94 cellsSign (by kernel_rfl) (fun fu cs a q _ h => sign_elem fu cs a q h) hd
    refine ⟨t2, fr, ?_⟩
    rw [hh]
    unfold signsV
    rw [← this]
  · obtain ⟨a, s, hv, _, _, _⟩ := laid_sentinel h3 gSyn gSynType Tryz.underlying121 rowES Tryz.underlying164 Tryz.underlying166 rfl rfl Tryz.underlying9 cellsES cellsStr
    exact ⟨_, _, hv⟩
  · obtain ⟨a, s, hv, _, _, _⟩ := laid_sentinel h2 gRng gRngType Tryz.underlying121 rowES Tryz.underlying164 Tryz.underlying166 rfl rfl Tryz.underlying9 cellsES cellsStr
    exact ⟨_, _, hv⟩
/-- a start: the settled world, the listed variables as their initialisers lay them -/
noncomputable def laidWorldE (os : Os) : World :=
  { laidWorld os with heap := (laidWorld os).heap.modify 0 (put signsV) }
theorem laid_metE (os : Os) (args : Array Value) : laidMet Tryz.prog Rows.exprParsesRow.laid ((laidWorldE os).forCall (fun _ _ => 0) ⟨#[], args, []⟩).memory :=
  laidMet_of_run' 8 (by kernel_rfl) (by kernel_rfl)
end Go.Proofs.YtckfcpiedainfaaGreatDoor

/-
  LAW KindsFree: for any expression the law answers true. Condition: the library's three tables and the packages lex's and expr's hold what the program's text lays (tied by the card).
-/
import Derived.Test.YtjlpoigcalfdlaaDoorZB23
namespace Go.Proofs.YtjlpoigcalfdlaaDoor.kindsFree
open Go Go.ChangeShapes Go.WideShapes Go.ChangeAt Go.RowKit Go.Sort
set_option linter.unusedVariables false
/-- what the row's list gives -/
theorem env_free {W : World} (h : laidMetH Tryd.prog Rows.kindsFreeRow.laid W) : ExprEnv W := by
  have h1 := laidMet.tail (laidMet.tail h)
  have h2 := laidMet.tail h1
  have h3 := laidMet.tail h2
  have h4 := laidMet.tail h3
  have htab : Lib.TabIs Tryd.prog W "internal/strconv.uint64pow10" .u64 Lib.pow10Tab := Lib.tabIs_of_head (zs := Lib.pow10Tab) gTab gTabType Tryd.underlying136 Tryd.underlying101 cellsU64 cellsTab h1
  refine ⟨⟨htab, strs_of_head (l := wordsL) gWords gWordsType Tryd.underlying123 Tryd.underlying9 cellsStr cellsWords h2, strs_of_head (l := marksL) gMarks gMarksType Tryd.underlying128 Tryd.underlying9 cellsStr cellsMarks h3⟩, ?_⟩
  obtain ⟨cs, t2, fr, enc, base, sp, held, fuel, p, hh, hd⟩ := laid_head (d := .agg (signsL.map signD)) gSigns gSignsType h4
  have := arr_cells (C := signC) Tryd.underlying81 cellsSign (by kernel_rfl) (fun fu cs a q _ h => sign_elem fu cs a q h) hd
  refine ⟨t2, fr, ?_⟩
  rw [hh]
  unfold signsV
  rw [← this]
theorem laid_metF (os : Os) (args : Array Value) : laidMet Tryd.prog Rows.kindsFreeRow.laid ((laidWorldK os).forCall (fun _ _ => 0) ⟨#[], args, []⟩).memory :=
  laidMet_of_run' 8 (by kernel_rfl) (by kernel_rfl)
theorem laid : laidOutB Tryd.prog = true := by kernel_rfl
set_option maxRecDepth 100000 in
theorem contract (H : Type) (enc : TypeId × Value → H) (W : World) (base : Nat) (args : Array Value) (ds gs : List (DataW H)) (before : List MemPlace)
    (hval : ∀ (j : Nat) t v, Tryd.f4.params[j]? = some t → args[j]? = some v → Value.okWide Tryd.prog W .any base t v)
    (hW : DataW.Whole enc Tryd.prog Tryd.f4.params.toList Rows.kindsFreeSpec.vars false W args.toList ds gs before) (hE : ExprEnv W)
    (hz : (DataW.weightsEach Tryd.prog (Tryd.f4.params.toList ++ (OpenSpec.ofChange Rows.kindsFreeSpec).bare.plain.varTypes Tryd.prog) (ds ++ gs)).all (· ≤ reachBytes) = true) :
    Calls Tryd.prog 4 args W fun e W' => ∃ v, e = .returned v ∧ Rows.kindsFreeSpec.post enc Tryd.prog Tryd.f4 false true false false W args v W' := by
  have hW' := hW
  have hlt := fun p hp => hW.lt (p := p) hp
  obtain ⟨p, q, hA0, hV, rfl, hfz, hnd⟩ := hW
  have hA : DataW.TrodAll enc Tryd.prog W 0 (fun _ => true) true Tryd.f4.params.toList args.toList ds p := hA0
  rw [Tryd.params4] at hA hval
  obtain ⟨v0, vs0, d0, ds0, p0, q0, hargs, rfl, rfl, h0, r0⟩ := trodAll_cons hA
  obtain ⟨rfl, rfl, rfl⟩ := trodAll_nil r0
  obtain rfl : args = #[v0] := by cases args; simp_all
  obtain ⟨rfl, rfl⟩ := trodVars_none hV
  obtain ⟨A0, n0, c0, l0, e0, hl0, h56, hk8⟩ := expr_open (hval 0 24 v0 rfl rfl) h0 (reach_at hz (j := 0) (t := 24) rfl rfl) (Nat.le_refl _)
  clear hA0
  simp only [List.append_nil] at hW'
  have walk := kindsFree_law W W.heap.size A0 n0 c0 l0 hl0 (Nat.le_refl _) h56 hk8 hE
  rw [← e0] at walk
  refine walk.mono fun e W' hp => ?_
  obtain ⟨he, bel⟩ := hp
  subst he
  have k0 := bel.trod laid (by kernel_rfl) (of_decide_eq_true (by kernel_rfl)) h0 (fun z hz => hlt z (by simp [hz]))
  have ka : DataW.TrodAll enc Tryd.prog W' 0 (fun b => decide (b < W.heap.size)) true Tryd.f4.params.toList #[v0].toList [d0] (p0 ++ []) := by
    rw [Tryd.params4]
    exact trodAll_cons_mk k0 trodAll_mk0
  exact ⟨_, rfl, post_read hW' (trodAll_mk1 (shut_bool Tryd.underlying4 _)) ka rfl bel⟩
theorem reads (os : Os) {H : Type} (enc : TypeId × Value → H) : ∃ places, DataW.whole enc Tryd.prog ((laidWorldK os).forCall (fun _ _ => 0) ⟨#[], #[.agg #[.slice none 0 0]], []⟩).memory Tryd.f4.params.toList Rows.kindsFreeSpec.vars false (#[.agg #[.slice none 0 0]] : Array Value).toList 8 = some ([.agg [.nil]], [], places) :=
  ⟨[], by kernel_rfl⟩
set_option maxRecDepth 100000 in
theorem lifted (os : Os) (started : os.Started) (H : Type) (enc : TypeId × Value → H) (F : Stop.Interp) :
    ReturnsInHanded {} Tryd.checked os 4 .any ((OpenSpec.ofChange Rows.kindsFreeSpec).preRow enc Tryd.prog Tryd.f4 Rows.kindsFreeRow.domain false Rows.kindsFreeRow.laid) (((OpenSpec.ofChange Rows.kindsFreeSpec).at F).post enc Tryd.prog Tryd.f4 false true false false) := by
  obtain ⟨places, hx⟩ := reads os enc
  refine returnsInHanded_of_row (C := Tryd.checked) (s := OpenSpec.ofChange Rows.kindsFreeSpec) own started (by kernel_rfl) Tryd.func4
    (witness_row_at (enc := enc) (C := Tryd.checked) false (laidWorldK os) #[.agg #[.slice none 0 0]] rfl (by kernel_rfl) (by kernel_rfl) (by kernel_rfl)
      (OpenSpec.preRow_of_cond 8 hx (by kernel_rfl) (fun k hk => by cases hk) (by kernel_rfl) (laid_metF os _))) ?_
  intro W base args ds gs before hval hW _ _ hz hL _ _
  exact contract H enc W base args ds gs before hval hW (env_free hL) hz
theorem said : Rows.KindsFreeSaid :=
  OpenClaim.holds_of_cond 4 Tryd.f4 rfl rfl rfl rfl rfl rfl rfl ⟨rfl, rfl, rfl, rfl, rfl⟩ rfl rfl rfl rfl rfl (by kernel_rfl) Tryd.func4 (by kernel_rfl)
    (of_decide_eq_true (by kernel_rfl)) (by unfold Func.isWrapper; first | (rw [if_pos (by decide +kernel)]; kernel_rfl) | (rw [if_neg (by decide +kernel)]; exact ⟨rfl, rfl⟩))
    (fun os started H enc _ F => by rw [OpenClaim.pre_eq_preRow]; exact lifted os started H enc F)
theorem plain (f : FuncId) (fn : Func) (hf : Tryd.pinned.checked.prog.funcNamed "topiary/topiarylaw09.KindsFree" = some f) (hfn : Tryd.pinned.checked.prog.funcs[f]? = some fn) :
    false = Tryd.pinned.checked.prog.looks [] ∧ ∀ (j : Nat) t, fn.params[j]? = some t → Tryd.pinned.checked.prog.wantsStandIn t = false := by
  obtain rfl : f = 4 := Option.some.inj ((show Tryd.prog.funcNamed "topiary/topiarylaw09.KindsFree" = some 4 by kernel_rfl).symm.trans hf) |>.symm
  obtain rfl : fn = Tryd.f4 := (Option.some.inj (Tryd.func4.symm.trans hfn)).symm
  refine ⟨by kernel_rfl, fun j t ht => ?_⟩
  rw [Tryd.params4] at ht
  have hm := Array.mem_of_getElem? ht
  have ht' : t = 24 := by simpa using hm
  rcases ht' with rfl
  exact (show Tryd.prog.wantsStandIn 24 = false by kernel_rfl)
/-- the card of KindsFree -/
theorem card : Rows.KindsFreeCardSaid :=
  Claim7.holds_tied_plain_at .later [] _ _ _ _ said (fun _ h => by cases h) (by kernel_rfl) (fun _ h => by cases h) kindsFree_row_tie rfl ⟨rfl, rfl⟩ (by kernel_rfl) rfl plain (by kernel_rfl)
end Go.Proofs.YtjlpoigcalfdlaaDoor.kindsFree

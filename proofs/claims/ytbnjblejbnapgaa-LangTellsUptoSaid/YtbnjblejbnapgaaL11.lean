/-
  LAW LangTells, second form: for any language, any name and any list of elements of a side, together of bulk at most 1048576, the law answers true: concepts, their names and trees are told as the document says. Condition: the bulk.
-/
import Derived.Test.YtbnjblejbnapgaaZ12
import Derived.ProofKit
import Derived.OpenShut
import Derived.JoinedOf
import Derived.Handed
namespace Go.Proofs.Ytbnjblejbnapgaa.langTells
open Go.ChangeShapes Go.WideShapes Go.ChangeAt Go.RowKit
set_option linter.unusedVariables false
theorem own : ownKnob Try.prog.godebug = none := by kernel_rfl
theorem laid : laidOutB Try.prog = true := by kernel_rfl
def types : List TypeId := [29, 9, 3, 4, 22, 80, 23, 38, 34, 45, 35, 47, 36, 49, 24, 63, 25, 53, 33, 82, 26, 56, 54, 92, 27, 59, 57, 93]
set_option maxRecDepth 20000 in
theorem types_closed : ClosedT Try.prog 1000 types := ClosedT.of (by kernel_rfl)
set_option maxRecDepth 20000 in
theorem contract (H : Type) (enc : TypeId × Value → H) (W : World) (base : Nat) (args : Array Value) (ds gs : List (DataW H)) (before : List MemPlace)
    (hval : ∀ (j : Nat) t v, Try.f4.params[j]? = some t → args[j]? = some v → Value.okWide Try.prog W .any base t v)
    (hW : DataW.Whole enc Try.prog Try.f4.params.toList Rows.langTellsSpec.vars false W args.toList ds gs before) (hk : Rows.uptoSmall H (ds ++ gs) = true) :
    Calls Try.prog 4 args W fun e W' => ∃ v, e = .returned v ∧ Rows.langTellsSpec.post enc Try.prog Try.f4 false true false false W args v W' := by
  have hW' := hW
  have hlt := fun p hp => hW.lt (p := p) hp
  obtain ⟨p, q, hA0, hV, rfl, hfz, hnd⟩ := hW
  have hA : DataW.TrodAll enc Try.prog W 0 (fun _ => true) true Try.f4.params.toList args.toList ds p := hA0
  rw [Try.params4] at hA hval
  obtain ⟨v0, vs0, d0, ds0, p0, q0, hargs, rfl, rfl, h0, r0⟩ := trodAll_cons hA
  obtain ⟨v1, vs1, d1, ds1, p1, q1, rfl, rfl, rfl, h1, r1⟩ := trodAll_cons r0
  obtain ⟨v2, vs2, d2, ds2, p2, q2, rfl, rfl, rfl, h2, r2⟩ := trodAll_cons r1
  obtain ⟨rfl, rfl, rfl⟩ := trodAll_nil r2
  obtain rfl : args = #[v0, v1, v2] := by cases args; simp_all
  obtain ⟨rfl, rfl⟩ := trodVars_none hV
  have hbk : Rows.uptoBulk d0 ≤ 1048576 ∧ Rows.uptoBulk d2 ≤ 1048576 := by
    have h : Rows.uptoBulkAll ([d0, d1, d2] ++ []) ≤ 1048576 := of_decide_eq_true hk
    simp only [List.append_nil, Rows.uptoBulkAll] at h
    omega
  have w0 : ∀ m ∈ d0.weights Try.prog 29, m ≤ 2097152000 := fun m hm => Nat.le_trans (weights_bulk (K := 1000) (L := types) (by omega) types_closed d0 _ m (by simp [types]) hm) (by omega)
  have w2 : ∀ m ∈ d2.weights Try.prog 33, m ≤ 2097152000 := fun m hm => Nat.le_trans (weights_bulk (K := 1000) (L := types) (by omega) types_closed d2 _ m (by simp [types]) hm) (by omega)
  obtain ⟨y0, e0, hl0, hr0⟩ := lang_openB (hval 0 29 v0 rfl rfl) h0 w0 (by omega)
  obtain ⟨a1, e1, hd1, hp1, z1⟩ := ChangeMaps.open_string Try.underlying9 (hval 1 9 v1 rfl rfl) h1
  obtain ⟨y2, S2, e2, hl2, hr2⟩ := sides_open (hval 2 33 v2 rfl rfl) h2 w2
  clear hA0
  simp only [List.append_nil] at hW'
  have walk := langTells_any W W.heap.size y0 a1 S2.A S2.n S2.c y2 hl0 hl2 (Nat.le_refl _) hr0 (fun g hg => by have := hr2 g hg; omega)
  replace walk : Calls Try.prog 4 #[.agg (langC y0).toArray, .string a1, .slice S2.A S2.n S2.c] W (Ret W (.bool true)) := walk
  rw [← e0, ← e1, ← e2] at walk
  refine walk.mono fun e W' ⟨he, bel⟩ => ?_
  subst he
  have k0 := bel.trod laid (by kernel_rfl) (of_decide_eq_true (by kernel_rfl)) h0 (fun z hz => hlt z (by simp [hz]))
  have k1 := bel.trod laid (by kernel_rfl) (of_decide_eq_true (by kernel_rfl)) h1 (fun z hz => hlt z (by simp [hz]))
  have k2 := bel.trod laid (by kernel_rfl) (of_decide_eq_true (by kernel_rfl)) h2 (fun z hz => hlt z (by simp [hz]))
  have ka : DataW.TrodAll enc Try.prog W' 0 (fun b => decide (b < W.heap.size)) true Try.f4.params.toList #[v0, v1, v2].toList [d0, d1, d2] (p0 ++ (p1 ++ (p2 ++ []))) := by
    rw [Try.params4]
    exact trodAll_cons_mk k0 (trodAll_cons_mk k1 (trodAll_cons_mk k2 trodAll_mk0))
  exact ⟨_, rfl, post_read hW' (trodAll_mk1 (shut_bool Try.underlying4 _)) ka rfl bel⟩
set_option maxRecDepth 100000 in
theorem lifted (os : Os) (started : os.Started) (H : Type) (enc : TypeId × Value → H) (F : Stop.Interp) :
    ReturnsInHanded {} Try.checked os 4 .any ((Rows.OpenSpec.upto Rows.langTellsSpec).pre6 enc Try.prog Try.f4 Rows.langTellsUptoRow.domain false) (((Rows.OpenSpec.upto Rows.langTellsSpec).at F).post enc Try.prog Try.f4 false true false false) := by
  refine returnsInHanded_of_cond (C := Try.checked) (s := Rows.OpenSpec.upto Rows.langTellsSpec) (k := Rows.uptoSmall) rfl own started (by kernel_rfl) Try.func4
    (OpenSpec.witness (enc := enc) (C := Try.checked) (s := Rows.OpenSpec.upto Rows.langTellsSpec) (k := Rows.uptoSmall) rfl false ⟨#[], #[.agg #[.string .empty, .int .i64 0, .slice none 0 0, .slice none 0 0, .slice none 0 0, .slice none 0 0, .slice none 0 0, .slice none 0 0], .string .empty, .slice none 0 0], []⟩ 8 (by kernel_rfl) (by kernel_rfl) (by kernel_rfl)
      (x := ([.agg [.lit (.string []), .lit (.int .i64 0), .nil, .nil, .nil, .nil, .nil, .nil], .lit (.string []), .nil], [], [])) (by kernel_rfl) rfl (by kernel_rfl)) ?_
  intro W base args ds gs before hval hW _ hk _
  exact contract H enc W base args ds gs before hval hW hk
/-- LangTells, the second form -/
theorem proved : Rows.LangTellsUptoSaid :=
  OpenClaim.holds_of_cond 4 Try.f4 rfl rfl rfl rfl rfl rfl rfl ⟨rfl, rfl, rfl, rfl, rfl⟩ rfl rfl rfl rfl rfl (by kernel_rfl) Try.func4 (by kernel_rfl)
    (of_decide_eq_true (by kernel_rfl)) (by unfold Func.isWrapper; first | (rw [if_pos (by decide +kernel)]; kernel_rfl) | (rw [if_neg (by decide +kernel)]; exact ⟨rfl, rfl⟩))
    (fun os started H enc _ F => lifted os started H enc F)
end Go.Proofs.Ytbnjblejbnapgaa.langTells

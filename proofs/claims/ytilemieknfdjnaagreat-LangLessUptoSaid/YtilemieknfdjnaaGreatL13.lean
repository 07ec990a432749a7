/-
  LAW LangLess, second form: for any language and three numbers, together of bulk at most 1048576, the law answers true: a definition that may be, with one element less, is one that may be
-/
import Derived.Test.YtilemieknfdjnaaGreatZ24
import Derived.ProofKit
import Derived.OpenShut
import Derived.JoinedCond
namespace Go.Proofs.YtilemieknfdjnaaGreat.langLess
open Go.ChangeShapes Go.WideShapes Go.ChangeAt Go.RowKit
set_option linter.unusedVariables false
theorem own : ownKnob Tryz.prog.godebug = none := by kernel_rfl
theorem laid : laidOutB Tryz.prog = true := by kernel_rfl
def types : List TypeId := [29, 9, 3, 4, 22, 79, 23, 47, 43, 85, 44, 62, 45, 87, 24, 49, 25, 52, 50, 141, 26, 55, 53, 74, 27, 58, 56, 77]
set_option maxRecDepth 20000 in
theorem types_closed : ClosedT Tryz.prog 1000 types := ClosedT.of (by kernel_rfl)
theorem fit_of {x : LangM} (h : Sized 2097152000 x) : Fit x :=
  ⟨fun g hg => ⟨fun y hy => by have := (h.q g hg).1 y hy; omega, fun y hy => by have := (h.q g hg).2 y hy; omega⟩, fun g hg y hy => by have := h.e g hg y hy; unfold CellFit; omega, fun g hg y hy => by have := h.t g hg y hy; unfold CellFit; omega⟩
set_option maxRecDepth 20000 in
theorem contract (H : Type) (enc : TypeId × Value → H) (W : World) (base : Nat) (args : Array Value) (ds gs : List (DataW H)) (before : List MemPlace)
    (hval : ∀ (j : Nat) t v, Tryz.f3.params[j]? = some t → args[j]? = some v → Value.okWide Tryz.prog W .any base t v)
    (hW : DataW.Whole enc Tryz.prog Tryz.f3.params.toList Rows.langLessSpec.vars false W args.toList ds gs before) (hk : Rows.uptoSmall H (ds ++ gs) = true) :
    Calls Tryz.prog 3 args W fun e W' => ∃ v, e = .returned v ∧ Rows.langLessSpec.post enc Tryz.prog Tryz.f3 false true false false W args v W' := by
  have hW' := hW
  have hlt := fun p hp => hW.lt (p := p) hp
  obtain ⟨p, q, hA0, hV, rfl, hfz, hnd⟩ := hW
  have hA : DataW.TrodAll enc Tryz.prog W 0 (fun _ => true) true Tryz.f3.params.toList args.toList ds p := hA0
  rw [Tryz.params3] at hA hval
  obtain ⟨v0, vs0, d0, ds0, p0, q0, hargs, rfl, rfl, h0, r0⟩ := trodAll_cons hA
  obtain ⟨v1, vs1, d1, ds1, p1, q1, rfl, rfl, rfl, h1, r1⟩ := trodAll_cons r0
  obtain ⟨v2, vs2, d2, ds2, p2, q2, rfl, rfl, rfl, h2, r2⟩ := trodAll_cons r1
  obtain ⟨v3, vs3, d3, ds3, p3, q3, rfl, rfl, rfl, h3, r3⟩ := trodAll_cons r2
  obtain ⟨rfl, rfl, rfl⟩ := trodAll_nil r3
  obtain rfl : args = #[v0, v1, v2, v3] := by cases args; simp_all
  obtain ⟨rfl, rfl⟩ := trodVars_none hV
  have hbk : Rows.uptoBulk d0 ≤ 1048576 := by
    have h : Rows.uptoBulkAll ([d0, d1, d2, d3] ++ []) ≤ 1048576 := of_decide_eq_true hk
    simp only [List.append_nil, Rows.uptoBulkAll] at h
    omega
  have w0 : ∀ m ∈ d0.weights Tryz.prog 29, m ≤ 2097152000 := fun m hm => Nat.le_trans (weights_bulk (K := 1000) (L := types) (by omega) types_closed d0 _ m (by simp [types]) hm) (by omega)
  obtain ⟨y0, e0, hl0, hr0, hs0⟩ := lang_openC (hval 0 29 v0 rfl rfl) h0 w0 (by omega)
  obtain ⟨a1, rfl, rfl, rfl, w1⟩ := open_int Tryz.underlying3 (hval 1 3 v1 rfl rfl) h1
  obtain ⟨a2, rfl, rfl, rfl, w2⟩ := open_int Tryz.underlying3 (hval 2 3 v2 rfl rfl) h2
  obtain ⟨a3, rfl, rfl, rfl, w3⟩ := open_int Tryz.underlying3 (hval 3 3 v3 rfl rfl) h3
  clear hA0
  simp only [List.append_nil] at hW'
  have walk := lessLaw_any W W.heap.size y0 a1 a2 a3 hl0 (Nat.le_refl _) hr0 (fit_of hs0) (fun Y fg hb => less_any Y W.heap.size y0 a1 a2 a3 (langK.below hl0 hb) hb.size fg (fit_of hs0))
  replace walk : Calls Tryz.prog 3 #[.agg (langC y0).toArray, .int .i64 a1, .int .i64 a2, .int .i64 a3] W (Ret W (.bool true)) := walk
  rw [← e0] at walk
  refine walk.mono fun e W' ⟨he, bel⟩ => ?_
  subst he
  have k0 := bel.trod laid (by kernel_rfl) (of_decide_eq_true (by kernel_rfl)) h0 (fun z hz => hlt z (by simp [hz]))
  have ka : DataW.TrodAll enc Tryz.prog W' 0 (fun b => decide (b < W.heap.size)) true Tryz.f3.params.toList #[v0, Value.int .i64 a1, Value.int .i64 a2, Value.int .i64 a3].toList [d0, .lit (.int .i64 a1), .lit (.int .i64 a2), .lit (.int .i64 a3)] (p0 ++ ([] ++ ([] ++ ([] ++ [])))) := by
    rw [Tryz.params3]
    exact (trodAll_cons_mk k0 (trodAll_cons_mk (shut_int Tryz.underlying3 w1) (trodAll_cons_mk (shut_int Tryz.underlying3 w2) (trodAll_cons_mk (shut_int Tryz.underlying3 w3) trodAll_mk0))))
  exact ⟨_, rfl, post_read hW' (trodAll_mk1 (shut_bool Tryz.underlying4 _)) ka rfl bel⟩
set_option maxRecDepth 100000 in
theorem lifted (os : Os) (started : os.Started) (H : Type) (enc : TypeId × Value → H) (F : Stop.Interp) :
    ReturnsInHanded {} Tryz.checked os 3 .any ((Rows.OpenSpec.upto Rows.langLessSpec).pre6 enc Tryz.prog Tryz.f3 Rows.langLessUptoRow.domain false) (((Rows.OpenSpec.upto Rows.langLessSpec).at F).post enc Tryz.prog Tryz.f3 false true false false) := by
  refine returnsInHanded_of_cond (C := Tryz.checked) (s := Rows.OpenSpec.upto Rows.langLessSpec) (k := Rows.uptoSmall) rfl own started (by kernel_rfl) Tryz.func3
    (OpenSpec.witness (enc := enc) (C := Tryz.checked) (s := Rows.OpenSpec.upto Rows.langLessSpec) (k := Rows.uptoSmall) rfl false ⟨#[], #[.agg #[.string .empty, .int .i64 0, .slice none 0 0, .slice none 0 0, .slice none 0 0, .slice none 0 0, .slice none 0 0, .slice none 0 0], .int .i64 0, .int .i64 0, .int .i64 0], []⟩ 8 (by kernel_rfl) (by kernel_rfl) (by kernel_rfl)
      (x := ([.agg [.lit (.string []), .lit (.int .i64 0), .nil, .nil, .nil, .nil, .nil, .nil], .lit (.int .i64 0), .lit (.int .i64 0), .lit (.int .i64 0)], [], [])) (by kernel_rfl) rfl (by kernel_rfl)) ?_
  intro W base args ds gs before hval hW _ hk _
  exact contract H enc W base args ds gs before hval hW hk
/-- LangLess, the second form -/
theorem proved : Rows.LangLessUptoSaid :=
  OpenClaim.holds_of_cond 3 Tryz.f3 rfl rfl rfl rfl rfl rfl rfl ⟨rfl, rfl, rfl, rfl, rfl⟩ rfl rfl rfl rfl rfl (by kernel_rfl) Tryz.func3 (by kernel_rfl)
    (of_decide_eq_true (by kernel_rfl)) (by unfold Func.isWrapper; first | (rw [if_pos (by decide +kernel)]; kernel_rfl) | (rw [if_neg (by decide +kernel)]; exact ⟨rfl, rfl⟩))
    (fun os started H enc _ F => lifted os started H enc F)
end Go.Proofs.YtilemieknfdjnaaGreat.langLess

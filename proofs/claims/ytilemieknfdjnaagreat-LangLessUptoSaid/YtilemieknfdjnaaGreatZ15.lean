/-
  WALKS: the program's Check: the fault that is thrown first is caught and told.
-/
import Derived.Test.YtilemieknfdjnaaGreatZ14
import Derived.Tactics2
import Derived.Defers
import Derived.Recover
import Derived.Laws.Pointers
namespace Go.Proofs.YtilemieknfdjnaaGreat
open Go Go.RowKit Go.Sort
set_option linter.unusedVariables false
attribute [local go_sem ↓] Go.wp_at_zero Go.wp_at_succ
theorem as_wrong (v : Value) (w : World) : (Instr.typeAssert (.iface 66 v) 20 66 true).run Tryz.prog w = .ok (.tuple #[v, .bool true]) w := by kernel_rfl
theorem as_nil (w : World) : (Instr.typeAssert .nilIface 20 66 true).run Tryz.prog w = .ok (.tuple #[.agg #[.int .i64 0, .int .i64 0, .int .i64 0, .int .i64 0], .bool false]) w := by kernel_rfl
/-- what was not below stays so, but for one block -/
def Kept (g : Nat) (w w' : World) : Prop := ∀ W : World, W.heap.size ≤ g → Below W.heap.size W w → Below W.heap.size W w'
set_option maxRecDepth 20000 in
set_option maxHeartbeats 800000 in
theorem catch_some (g : Nat) (f : Fa) (w : World) (hg : Blk w g 34 #[.int .i64 0, .int .i64 0, .int .i64 0, .int .i64 0]) :
    CallsD Tryz.prog 16 #[.pointer (some ⟨g, 0, none⟩)] (.panicking [{ v := .iface 66 (faV f), recovered := false }]) w fun e u' w' =>
      e = .returned (.tuple #[]) ∧ u' = .panicking [{ v := .iface 66 (faV f), recovered := true }] ∧ Blk w' g 34 #[.int .i64 f.lst, .int .i64 f.pos, .int .i64 f.part, .int .i64 f.err] ∧ Kept g w w' := by
  unfold faV
  have h0 : ∀ o, (w.alloc o).cell? ⟨g, 0, none⟩ = some (.int .i64 0) := fun o => ((hg.alloc o).cell 0).trans rfl
  have z0 : ∀ o, (w.alloc o).frozen? ⟨g, 0, none⟩ = false := fun o => (hg.alloc o).frozen 0
  have h1 : ∀ o, (w.alloc o).cell? ⟨g, 1, none⟩ = some (.int .i64 0) := fun o => ((hg.alloc o).cell 1).trans rfl
  have z1 : ∀ o, (w.alloc o).frozen? ⟨g, 1, none⟩ = false := fun o => (hg.alloc o).frozen 1
  have h2 : ∀ o, (w.alloc o).cell? ⟨g, 2, none⟩ = some (.int .i64 0) := fun o => ((hg.alloc o).cell 2).trans rfl
  have z2 : ∀ o, (w.alloc o).frozen? ⟨g, 2, none⟩ = false := fun o => (hg.alloc o).frozen 2
  have h3 : ∀ o, (w.alloc o).cell? ⟨g, 3, none⟩ = some (.int .i64 0) := fun o => ((hg.alloc o).cell 3).trans rfl
  have z3 : ∀ o, (w.alloc o).frozen? ⟨g, 3, none⟩ = false := fun o => (hg.alloc o).frozen 3
  have hne : g ≠ w.heap.size := by have := hg.lt; omega
  refine callsD_of_wpS Tryz.func16 rfl fun c₀ cs hu => ?_
  apply wpS_seq
  apply wpS_region
  simp [wpOpsS, go_sem, recoverD, hu, Tryz.ntmps16, Exit.thenS, as_wrong, as_nil, show Array.replicate 9 undef = #[undef, undef, undef, undef, undef, undef, undef, undef, undef] from rfl]
  refine wpS_of_wp ?_
  go_wp2
  simp [bodyPostS, results, Tryz.results16]
  exact ⟨by have := ((((hg.alloc (.cells #[.int .i64 f.lst, .int .i64 f.pos, .int .i64 f.part, .int .i64 f.err] 66)).set_ 0 (.int .i64 f.lst)).set_ 1 (.int .i64 f.pos)).set_ 2 (.int .i64 f.part)).set_ 3 (.int .i64 f.err); simpa using this, fun W hW hb => below_set (below_set (below_set (below_set (below_more hb _) hW) hW) hW) hW⟩
set_option maxRecDepth 20000 in
set_option maxHeartbeats 800000 in
theorem catch_none (g : Nat) (w : World) :
    CallsD Tryz.prog 16 #[.pointer (some ⟨g, 0, none⟩)] .returning w fun e u' w' => e = .returned (.tuple #[]) ∧ u' = .returning ∧ Below w.heap.size w w' := by
  refine callsD_of_wpS Tryz.func16 rfl fun c₀ cs hu => ?_
  apply wpS_seq
  apply wpS_region
  simp [wpOpsS, go_sem, recoverD, hu, Tryz.ntmps16, Exit.thenS, as_wrong, as_nil, show Array.replicate 9 undef = #[undef, undef, undef, undef, undef, undef, undef, undef, undef] from rfl]
  refine wpS_of_wp ?_
  go_wp2
  simp [bodyPostS, results, Tryz.results16]
  exact ⟨.returning, by cases c₀; simp_all, rfl, below_of_alloc _⟩
/-- what the checks ask of sizes -/
structure Fit (x : LangM) : Prop where
  q : ∀ g ∈ x.qs, (∀ y ∈ g.ls, y.1.args.length ≤ 268435456) ∧ ∀ y ∈ g.rs, y.1.args.length ≤ 268435456
  e : ∀ g ∈ x.es, ∀ y ∈ g.1.cells, CellFit y
  t : ∀ g ∈ x.ts, ∀ y ∈ g.1.cells, CellFit y
/-- the fault that is told, or none -/
def tellF : Option Fa → Fa
  | some f => f
  | none => ⟨0, 0, 0, 0⟩
def Told (w : World) (v : Option Fa) (e : Ending) (w' : World) : Prop := e = .returned (faV (tellF v)) ∧ Below w.heap.size w w'
set_option maxRecDepth 20000 in
set_option maxHeartbeats 1600000 in
theorem check_at0 (w : World) (x : LangM) (v0 v1 v2 v3 v4 v5 v6 : Option Fa)
    (HC0 : Hid (∀ Y, Below w.heap.size w Y → Calls Tryz.prog 17 #[.agg #[.string x.name, .int .i64 x.ver, .slice x.U.A x.U.n x.U.c, .slice x.C.A x.C.n x.C.c, .slice x.N.A x.N.n x.N.c, .slice x.Q.A x.Q.n x.Q.c, .slice x.E.A x.E.n x.E.c, .slice x.T.A x.T.n x.T.c]] Y (Comes' Y v0)))
    (HC1 : Hid (∀ Y, Below w.heap.size w Y → Calls Tryz.prog 18 #[.agg #[.string x.name, .int .i64 x.ver, .slice x.U.A x.U.n x.U.c, .slice x.C.A x.C.n x.C.c, .slice x.N.A x.N.n x.N.c, .slice x.Q.A x.Q.n x.Q.c, .slice x.E.A x.E.n x.E.c, .slice x.T.A x.T.n x.T.c]] Y (Comes' Y v1)))
    (HC2 : Hid (∀ Y, Below w.heap.size w Y → Calls Tryz.prog 19 #[.slice x.C.A x.C.n x.C.c] Y (Comes' Y v2)))
    (HC3 : Hid (∀ Y, Below w.heap.size w Y → Calls Tryz.prog 20 #[.slice x.N.A x.N.n x.N.c] Y (Comes' Y v3)))
    (HC4 : Hid (∀ Y, Below w.heap.size w Y → Calls Tryz.prog 21 #[.slice x.Q.A x.Q.n x.Q.c] Y (Comes' Y v4)))
    (HC5 : Hid (∀ Y, Below w.heap.size w Y → Calls Tryz.prog 22 #[.int .i64 5, .int .i64 6, .slice x.E.A x.E.n x.E.c, .func (.func 23) #[] #[]] Y (Comes' Y v5)))
    (HC6 : Hid (∀ Y, Below w.heap.size w Y → Calls Tryz.prog 24 #[.int .i64 6, .int .i64 5, .slice x.T.A x.T.n x.T.c, .func (.func 25) #[] #[]] Y (Comes' Y v6)))
     (f : Fa) (hf : v0 = some f) : Calls Tryz.prog 7 #[.agg #[.string x.name, .int .i64 x.ver, .slice x.U.A x.U.n x.U.c, .slice x.C.A x.C.n x.C.c, .slice x.N.A x.N.n x.N.c, .slice x.Q.A x.Q.n x.Q.c, .slice x.E.A x.E.n x.E.c, .slice x.T.A x.T.n x.T.c]] w (Told w (some f)) := by
  have HBs : Hid (Below w.heap.size w ((w.alloc (.cells #[.string x.name, .int .i64 x.ver, .slice x.U.A x.U.n x.U.c, .slice x.C.A x.C.n x.C.c, .slice x.N.A x.N.n x.N.c, .slice x.Q.A x.Q.n x.Q.c, .slice x.E.A x.E.n x.E.c, .slice x.T.A x.T.n x.T.c] 29)).alloc (.cells #[.int .i64 0, .int .i64 0, .int .i64 0, .int .i64 0] 34))) := Lib.hid (below_more (below_of_alloc _) _)
  have HXs : Hid (Blk ((w.alloc (.cells #[.string x.name, .int .i64 x.ver, .slice x.U.A x.U.n x.U.c, .slice x.C.A x.C.n x.C.c, .slice x.N.A x.N.n x.N.c, .slice x.Q.A x.Q.n x.Q.c, .slice x.E.A x.E.n x.E.c, .slice x.T.A x.T.n x.T.c] 29)).alloc (.cells #[.int .i64 0, .int .i64 0, .int .i64 0, .int .i64 0] 34)) w.heap.size 29 #[.string x.name, .int .i64 x.ver, .slice x.U.A x.U.n x.U.c, .slice x.C.A x.C.n x.C.c, .slice x.N.A x.N.n x.N.c, .slice x.Q.A x.Q.n x.Q.c, .slice x.E.A x.E.n x.E.c, .slice x.T.A x.T.n x.T.c]) := Lib.hid (Blk.alloc (Blk.new _ _ _) _)
  have HGs : Hid (Blk ((w.alloc (.cells #[.string x.name, .int .i64 x.ver, .slice x.U.A x.U.n x.U.c, .slice x.C.A x.C.n x.C.c, .slice x.N.A x.N.n x.N.c, .slice x.Q.A x.Q.n x.Q.c, .slice x.E.A x.E.n x.E.c, .slice x.T.A x.T.n x.T.c] 29)).alloc (.cells #[.int .i64 0, .int .i64 0, .int .i64 0, .int .i64 0] 34)) (w.heap.size + 1) 34 #[.int .i64 0, .int .i64 0, .int .i64 0, .int .i64 0]) := Lib.hid (Blk.new' (by simp))
  have hmf : ∀ (fn : Fn) (first cap : Array Value) (w : World), (Instr.makeFunc fn first cap).run Tryz.prog w = .ok (.func fn first cap) w := fun _ _ _ _ => rfl
  subst hf
  go_enter_defers Tryz.func7, Tryz.ntmps7
  go_wp2_with (first | (go_at_call 17; (with_reducible refine (HC0.out _ HBs.out).mono ?_); go_must (rintro e0 Y0 ⟨rfl, hb0⟩; have HB0 := Lib.hid (HBs.out.trans (hb0.mono HBs.out.size)); have HX0 := Lib.hid (HXs.out.after hb0); have HG0 := Lib.hid (HGs.out.after hb0); have y0_0 := (HX0.out.cell 0).trans (show _ = some (.string x.name) from rfl); have y0_1 := (HX0.out.cell 1).trans (show _ = some (.int .i64 x.ver) from rfl); have y0_2 := (HX0.out.cell 2).trans (show _ = some (.slice x.U.A x.U.n x.U.c) from rfl); have y0_3 := (HX0.out.cell 3).trans (show _ = some (.slice x.C.A x.C.n x.C.c) from rfl); have y0_4 := (HX0.out.cell 4).trans (show _ = some (.slice x.N.A x.N.n x.N.c) from rfl); have y0_5 := (HX0.out.cell 5).trans (show _ = some (.slice x.Q.A x.Q.n x.Q.c) from rfl); have y0_6 := (HX0.out.cell 6).trans (show _ = some (.slice x.E.A x.E.n x.E.c) from rfl); have y0_7 := (HX0.out.cell 7).trans (show _ = some (.slice x.T.A x.T.n x.T.c) from rfl); clear hb0)))
  refine leaves_cons (f := 16) (args := #[.pointer (some ⟨w.heap.size + 1, 0, none⟩)]) (by simp) (by simp [go_sem]) ?_
  refine (catch_some (w.heap.size + 1) f Y0 HG0.out).mono ?_
  rintro e u' w'' ⟨rfl, rfl, hbk, hkp⟩
  have c0 := hbk.cell 0
  have c1 := hbk.cell 1
  have c2 := hbk.cell 2
  have c3 := hbk.cell 3
  simp at c0 c1 c2 c3
  have HEnd := hkp w (by omega) HB0.out
  simp [Leaves, settle, results, Tryz.results7, go_sem, c0, c1, c2, c3, Told, tellF, faV, HEnd]
set_option maxRecDepth 20000 in
set_option maxHeartbeats 1600000 in
theorem check_at1 (w : World) (x : LangM) (v0 v1 v2 v3 v4 v5 v6 : Option Fa)
    (HC0 : Hid (∀ Y, Below w.heap.size w Y → Calls Tryz.prog 17 #[.agg #[.string x.name, .int .i64 x.ver, .slice x.U.A x.U.n x.U.c, .slice x.C.A x.C.n x.C.c, .slice x.N.A x.N.n x.N.c, .slice x.Q.A x.Q.n x.Q.c, .slice x.E.A x.E.n x.E.c, .slice x.T.A x.T.n x.T.c]] Y (Comes' Y v0)))
    (HC1 : Hid (∀ Y, Below w.heap.size w Y → Calls Tryz.prog 18 #[.agg #[.string x.name, .int .i64 x.ver, .slice x.U.A x.U.n x.U.c, .slice x.C.A x.C.n x.C.c, .slice x.N.A x.N.n x.N.c, .slice x.Q.A x.Q.n x.Q.c, .slice x.E.A x.E.n x.E.c, .slice x.T.A x.T.n x.T.c]] Y (Comes' Y v1)))
    (HC2 : Hid (∀ Y, Below w.heap.size w Y → Calls Tryz.prog 19 #[.slice x.C.A x.C.n x.C.c] Y (Comes' Y v2)))
    (HC3 : Hid (∀ Y, Below w.heap.size w Y → Calls Tryz.prog 20 #[.slice x.N.A x.N.n x.N.c] Y (Comes' Y v3)))
    (HC4 : Hid (∀ Y, Below w.heap.size w Y → Calls Tryz.prog 21 #[.slice x.Q.A x.Q.n x.Q.c] Y (Comes' Y v4)))
    (HC5 : Hid (∀ Y, Below w.heap.size w Y → Calls Tryz.prog 22 #[.int .i64 5, .int .i64 6, .slice x.E.A x.E.n x.E.c, .func (.func 23) #[] #[]] Y (Comes' Y v5)))
    (HC6 : Hid (∀ Y, Below w.heap.size w Y → Calls Tryz.prog 24 #[.int .i64 6, .int .i64 5, .slice x.T.A x.T.n x.T.c, .func (.func 25) #[] #[]] Y (Comes' Y v6)))
    (h0 : v0 = none) (f : Fa) (hf : v1 = some f) : Calls Tryz.prog 7 #[.agg #[.string x.name, .int .i64 x.ver, .slice x.U.A x.U.n x.U.c, .slice x.C.A x.C.n x.C.c, .slice x.N.A x.N.n x.N.c, .slice x.Q.A x.Q.n x.Q.c, .slice x.E.A x.E.n x.E.c, .slice x.T.A x.T.n x.T.c]] w (Told w (some f)) := by
  have HBs : Hid (Below w.heap.size w ((w.alloc (.cells #[.string x.name, .int .i64 x.ver, .slice x.U.A x.U.n x.U.c, .slice x.C.A x.C.n x.C.c, .slice x.N.A x.N.n x.N.c, .slice x.Q.A x.Q.n x.Q.c, .slice x.E.A x.E.n x.E.c, .slice x.T.A x.T.n x.T.c] 29)).alloc (.cells #[.int .i64 0, .int .i64 0, .int .i64 0, .int .i64 0] 34))) := Lib.hid (below_more (below_of_alloc _) _)
  have HXs : Hid (Blk ((w.alloc (.cells #[.string x.name, .int .i64 x.ver, .slice x.U.A x.U.n x.U.c, .slice x.C.A x.C.n x.C.c, .slice x.N.A x.N.n x.N.c, .slice x.Q.A x.Q.n x.Q.c, .slice x.E.A x.E.n x.E.c, .slice x.T.A x.T.n x.T.c] 29)).alloc (.cells #[.int .i64 0, .int .i64 0, .int .i64 0, .int .i64 0] 34)) w.heap.size 29 #[.string x.name, .int .i64 x.ver, .slice x.U.A x.U.n x.U.c, .slice x.C.A x.C.n x.C.c, .slice x.N.A x.N.n x.N.c, .slice x.Q.A x.Q.n x.Q.c, .slice x.E.A x.E.n x.E.c, .slice x.T.A x.T.n x.T.c]) := Lib.hid (Blk.alloc (Blk.new _ _ _) _)
  have HGs : Hid (Blk ((w.alloc (.cells #[.string x.name, .int .i64 x.ver, .slice x.U.A x.U.n x.U.c, .slice x.C.A x.C.n x.C.c, .slice x.N.A x.N.n x.N.c, .slice x.Q.A x.Q.n x.Q.c, .slice x.E.A x.E.n x.E.c, .slice x.T.A x.T.n x.T.c] 29)).alloc (.cells #[.int .i64 0, .int .i64 0, .int .i64 0, .int .i64 0] 34)) (w.heap.size + 1) 34 #[.int .i64 0, .int .i64 0, .int .i64 0, .int .i64 0]) := Lib.hid (Blk.new' (by simp))
  have hmf : ∀ (fn : Fn) (first cap : Array Value) (w : World), (Instr.makeFunc fn first cap).run Tryz.prog w = .ok (.func fn first cap) w := fun _ _ _ _ => rfl
  subst h0; subst hf
  go_enter_defers Tryz.func7, Tryz.ntmps7
  go_wp2_with (first | (go_at_call 17; (with_reducible refine (HC0.out _ HBs.out).mono ?_); go_must (rintro e0 Y0 ⟨rfl, hb0⟩; have HB0 := Lib.hid (HBs.out.trans (hb0.mono HBs.out.size)); have HX0 := Lib.hid (HXs.out.after hb0); have HG0 := Lib.hid (HGs.out.after hb0); have y0_0 := (HX0.out.cell 0).trans (show _ = some (.string x.name) from rfl); have y0_1 := (HX0.out.cell 1).trans (show _ = some (.int .i64 x.ver) from rfl); have y0_2 := (HX0.out.cell 2).trans (show _ = some (.slice x.U.A x.U.n x.U.c) from rfl); have y0_3 := (HX0.out.cell 3).trans (show _ = some (.slice x.C.A x.C.n x.C.c) from rfl); have y0_4 := (HX0.out.cell 4).trans (show _ = some (.slice x.N.A x.N.n x.N.c) from rfl); have y0_5 := (HX0.out.cell 5).trans (show _ = some (.slice x.Q.A x.Q.n x.Q.c) from rfl); have y0_6 := (HX0.out.cell 6).trans (show _ = some (.slice x.E.A x.E.n x.E.c) from rfl); have y0_7 := (HX0.out.cell 7).trans (show _ = some (.slice x.T.A x.T.n x.T.c) from rfl); clear hb0)) | (go_at_call 18; (with_reducible refine (HC1.out _ HB0.out).mono ?_); go_must (rintro e1 Y1 ⟨rfl, hb1⟩; have HB1 := Lib.hid (HB0.out.trans (hb1.mono HB0.out.size)); have HX1 := Lib.hid (HX0.out.after hb1); have HG1 := Lib.hid (HG0.out.after hb1); have y1_3 := (HX1.out.cell 3).trans (show _ = some (.slice x.C.A x.C.n x.C.c) from rfl); clear hb1)))
  refine leaves_cons (f := 16) (args := #[.pointer (some ⟨w.heap.size + 1, 0, none⟩)]) (by simp) (by simp [go_sem]) ?_
  refine (catch_some (w.heap.size + 1) f Y1 HG1.out).mono ?_
  rintro e u' w'' ⟨rfl, rfl, hbk, hkp⟩
  have c0 := hbk.cell 0
  have c1 := hbk.cell 1
  have c2 := hbk.cell 2
  have c3 := hbk.cell 3
  simp at c0 c1 c2 c3
  have HEnd := hkp w (by omega) HB1.out
  simp [Leaves, settle, results, Tryz.results7, go_sem, c0, c1, c2, c3, Told, tellF, faV, HEnd]
set_option maxRecDepth 20000 in
set_option maxHeartbeats 1600000 in
theorem check_at2 (w : World) (x : LangM) (v0 v1 v2 v3 v4 v5 v6 : Option Fa)
    (HC0 : Hid (∀ Y, Below w.heap.size w Y → Calls Tryz.prog 17 #[.agg #[.string x.name, .int .i64 x.ver, .slice x.U.A x.U.n x.U.c, .slice x.C.A x.C.n x.C.c, .slice x.N.A x.N.n x.N.c, .slice x.Q.A x.Q.n x.Q.c, .slice x.E.A x.E.n x.E.c, .slice x.T.A x.T.n x.T.c]] Y (Comes' Y v0)))
    (HC1 : Hid (∀ Y, Below w.heap.size w Y → Calls Tryz.prog 18 #[.agg #[.string x.name, .int .i64 x.ver, .slice x.U.A x.U.n x.U.c, .slice x.C.A x.C.n x.C.c, .slice x.N.A x.N.n x.N.c, .slice x.Q.A x.Q.n x.Q.c, .slice x.E.A x.E.n x.E.c, .slice x.T.A x.T.n x.T.c]] Y (Comes' Y v1)))
    (HC2 : Hid (∀ Y, Below w.heap.size w Y → Calls Tryz.prog 19 #[.slice x.C.A x.C.n x.C.c] Y (Comes' Y v2)))
    (HC3 : Hid (∀ Y, Below w.heap.size w Y → Calls Tryz.prog 20 #[.slice x.N.A x.N.n x.N.c] Y (Comes' Y v3)))
    (HC4 : Hid (∀ Y, Below w.heap.size w Y → Calls Tryz.prog 21 #[.slice x.Q.A x.Q.n x.Q.c] Y (Comes' Y v4)))
    (HC5 : Hid (∀ Y, Below w.heap.size w Y → Calls Tryz.prog 22 #[.int .i64 5, .int .i64 6, .slice x.E.A x.E.n x.E.c, .func (.func 23) #[] #[]] Y (Comes' Y v5)))
    (HC6 : Hid (∀ Y, Below w.heap.size w Y → Calls Tryz.prog 24 #[.int .i64 6, .int .i64 5, .slice x.T.A x.T.n x.T.c, .func (.func 25) #[] #[]] Y (Comes' Y v6)))
    (h0 : v0 = none) (h1 : v1 = none) (f : Fa) (hf : v2 = some f) : Calls Tryz.prog 7 #[.agg #[.string x.name, .int .i64 x.ver, .slice x.U.A x.U.n x.U.c, .slice x.C.A x.C.n x.C.c, .slice x.N.A x.N.n x.N.c, .slice x.Q.A x.Q.n x.Q.c, .slice x.E.A x.E.n x.E.c, .slice x.T.A x.T.n x.T.c]] w (Told w (some f)) := by
  have HBs : Hid (Below w.heap.size w ((w.alloc (.cells #[.string x.name, .int .i64 x.ver, .slice x.U.A x.U.n x.U.c, .slice x.C.A x.C.n x.C.c, .slice x.N.A x.N.n x.N.c, .slice x.Q.A x.Q.n x.Q.c, .slice x.E.A x.E.n x.E.c, .slice x.T.A x.T.n x.T.c] 29)).alloc (.cells #[.int .i64 0, .int .i64 0, .int .i64 0, .int .i64 0] 34))) := Lib.hid (below_more (below_of_alloc _) _)
  have HXs : Hid (Blk ((w.alloc (.cells #[.string x.name, .int .i64 x.ver, .slice x.U.A x.U.n x.U.c, .slice x.C.A x.C.n x.C.c, .slice x.N.A x.N.n x.N.c, .slice x.Q.A x.Q.n x.Q.c, .slice x.E.A x.E.n x.E.c, .slice x.T.A x.T.n x.T.c] 29)).alloc (.cells #[.int .i64 0, .int .i64 0, .int .i64 0, .int .i64 0] 34)) w.heap.size 29 #[.string x.name, .int .i64 x.ver, .slice x.U.A x.U.n x.U.c, .slice x.C.A x.C.n x.C.c, .slice x.N.A x.N.n x.N.c, .slice x.Q.A x.Q.n x.Q.c, .slice x.E.A x.E.n x.E.c, .slice x.T.A x.T.n x.T.c]) := Lib.hid (Blk.alloc (Blk.new _ _ _) _)
  have HGs : Hid (Blk ((w.alloc (.cells #[.string x.name, .int .i64 x.ver, .slice x.U.A x.U.n x.U.c, .slice x.C.A x.C.n x.C.c, .slice x.N.A x.N.n x.N.c, .slice x.Q.A x.Q.n x.Q.c, .slice x.E.A x.E.n x.E.c, .slice x.T.A x.T.n x.T.c] 29)).alloc (.cells #[.int .i64 0, .int .i64 0, .int .i64 0, .int .i64 0] 34)) (w.heap.size + 1) 34 #[.int .i64 0, .int .i64 0, .int .i64 0, .int .i64 0]) := Lib.hid (Blk.new' (by simp))
  have hmf : ∀ (fn : Fn) (first cap : Array Value) (w : World), (Instr.makeFunc fn first cap).run Tryz.prog w = .ok (.func fn first cap) w := fun _ _ _ _ => rfl
  subst h0; subst h1; subst hf
  go_enter_defers Tryz.func7, Tryz.ntmps7
  go_wp2_with (first | (go_at_call 17; (with_reducible refine (HC0.out _ HBs.out).mono ?_); go_must (rintro e0 Y0 ⟨rfl, hb0⟩; have HB0 := Lib.hid (HBs.out.trans (hb0.mono HBs.out.size)); have HX0 := Lib.hid (HXs.out.after hb0); have HG0 := Lib.hid (HGs.out.after hb0); have y0_0 := (HX0.out.cell 0).trans (show _ = some (.string x.name) from rfl); have y0_1 := (HX0.out.cell 1).trans (show _ = some (.int .i64 x.ver) from rfl); have y0_2 := (HX0.out.cell 2).trans (show _ = some (.slice x.U.A x.U.n x.U.c) from rfl); have y0_3 := (HX0.out.cell 3).trans (show _ = some (.slice x.C.A x.C.n x.C.c) from rfl); have y0_4 := (HX0.out.cell 4).trans (show _ = some (.slice x.N.A x.N.n x.N.c) from rfl); have y0_5 := (HX0.out.cell 5).trans (show _ = some (.slice x.Q.A x.Q.n x.Q.c) from rfl); have y0_6 := (HX0.out.cell 6).trans (show _ = some (.slice x.E.A x.E.n x.E.c) from rfl); have y0_7 := (HX0.out.cell 7).trans (show _ = some (.slice x.T.A x.T.n x.T.c) from rfl); clear hb0)) | (go_at_call 18; (with_reducible refine (HC1.out _ HB0.out).mono ?_); go_must (rintro e1 Y1 ⟨rfl, hb1⟩; have HB1 := Lib.hid (HB0.out.trans (hb1.mono HB0.out.size)); have HX1 := Lib.hid (HX0.out.after hb1); have HG1 := Lib.hid (HG0.out.after hb1); have y1_3 := (HX1.out.cell 3).trans (show _ = some (.slice x.C.A x.C.n x.C.c) from rfl); clear hb1)) | (go_at_call 19; (with_reducible refine (HC2.out _ HB1.out).mono ?_); go_must (rintro e2 Y2 ⟨rfl, hb2⟩; have HB2 := Lib.hid (HB1.out.trans (hb2.mono HB1.out.size)); have HX2 := Lib.hid (HX1.out.after hb2); have HG2 := Lib.hid (HG1.out.after hb2); have y2_4 := (HX2.out.cell 4).trans (show _ = some (.slice x.N.A x.N.n x.N.c) from rfl); clear hb2)))
  refine leaves_cons (f := 16) (args := #[.pointer (some ⟨w.heap.size + 1, 0, none⟩)]) (by simp) (by simp [go_sem]) ?_
  refine (catch_some (w.heap.size + 1) f Y2 HG2.out).mono ?_
  rintro e u' w'' ⟨rfl, rfl, hbk, hkp⟩
  have c0 := hbk.cell 0
  have c1 := hbk.cell 1
  have c2 := hbk.cell 2
  have c3 := hbk.cell 3
  simp at c0 c1 c2 c3
  have HEnd := hkp w (by omega) HB2.out
  simp [Leaves, settle, results, Tryz.results7, go_sem, c0, c1, c2, c3, Told, tellF, faV, HEnd]
set_option maxRecDepth 20000 in
set_option maxHeartbeats 1600000 in
theorem check_at3 (w : World) (x : LangM) (v0 v1 v2 v3 v4 v5 v6 : Option Fa)
    (HC0 : Hid (∀ Y, Below w.heap.size w Y → Calls Tryz.prog 17 #[.agg #[.string x.name, .int .i64 x.ver, .slice x.U.A x.U.n x.U.c, .slice x.C.A x.C.n x.C.c, .slice x.N.A x.N.n x.N.c, .slice x.Q.A x.Q.n x.Q.c, .slice x.E.A x.E.n x.E.c, .slice x.T.A x.T.n x.T.c]] Y (Comes' Y v0)))
    (HC1 : Hid (∀ Y, Below w.heap.size w Y → Calls Tryz.prog 18 #[.agg #[.string x.name, .int .i64 x.ver, .slice x.U.A x.U.n x.U.c, .slice x.C.A x.C.n x.C.c, .slice x.N.A x.N.n x.N.c, .slice x.Q.A x.Q.n x.Q.c, .slice x.E.A x.E.n x.E.c, .slice x.T.A x.T.n x.T.c]] Y (Comes' Y v1)))
    (HC2 : Hid (∀ Y, Below w.heap.size w Y → Calls Tryz.prog 19 #[.slice x.C.A x.C.n x.C.c] Y (Comes' Y v2)))
    (HC3 : Hid (∀ Y, Below w.heap.size w Y → Calls Tryz.prog 20 #[.slice x.N.A x.N.n x.N.c] Y (Comes' Y v3)))
    (HC4 : Hid (∀ Y, Below w.heap.size w Y → Calls Tryz.prog 21 #[.slice x.Q.A x.Q.n x.Q.c] Y (Comes' Y v4)))
    (HC5 : Hid (∀ Y, Below w.heap.size w Y → Calls Tryz.prog 22 #[.int .i64 5, .int .i64 6, .slice x.E.A x.E.n x.E.c, .func (.func 23) #[] #[]] Y (Comes' Y v5)))
    (HC6 : Hid (∀ Y, Below w.heap.size w Y → Calls Tryz.prog 24 #[.int .i64 6, .int .i64 5, .slice x.T.A x.T.n x.T.c, .func (.func 25) #[] #[]] Y (Comes' Y v6)))
    (h0 : v0 = none) (h1 : v1 = none) (h2 : v2 = none) (f : Fa) (hf : v3 = some f) : Calls Tryz.prog 7 #[.agg #[.string x.name, .int .i64 x.ver, .slice x.U.A x.U.n x.U.c, .slice x.C.A x.C.n x.C.c, .slice x.N.A x.N.n x.N.c, .slice x.Q.A x.Q.n x.Q.c, .slice x.E.A x.E.n x.E.c, .slice x.T.A x.T.n x.T.c]] w (Told w (some f)) := by
  have HBs : Hid (Below w.heap.size w ((w.alloc (.cells #[.string x.name, .int .i64 x.ver, .slice x.U.A x.U.n x.U.c, .slice x.C.A x.C.n x.C.c, .slice x.N.A x.N.n x.N.c, .slice x.Q.A x.Q.n x.Q.c, .slice x.E.A x.E.n x.E.c, .slice x.T.A x.T.n x.T.c] 29)).alloc (.cells #[.int .i64 0, .int .i64 0, .int .i64 0, .int .i64 0] 34))) := Lib.hid (below_more (below_of_alloc _) _)
  have HXs : Hid (Blk ((w.alloc (.cells #[.string x.name, .int .i64 x.ver, .slice x.U.A x.U.n x.U.c, .slice x.C.A x.C.n x.C.c, .slice x.N.A x.N.n x.N.c, .slice x.Q.A x.Q.n x.Q.c, .slice x.E.A x.E.n x.E.c, .slice x.T.A x.T.n x.T.c] 29)).alloc (.cells #[.int .i64 0, .int .i64 0, .int .i64 0, .int .i64 0] 34)) w.heap.size 29 #[.string x.name, .int .i64 x.ver, .slice x.U.A x.U.n x.U.c, .slice x.C.A x.C.n x.C.c, .slice x.N.A x.N.n x.N.c, .slice x.Q.A x.Q.n x.Q.c, .slice x.E.A x.E.n x.E.c, .slice x.T.A x.T.n x.T.c]) := Lib.hid (Blk.alloc (Blk.new _ _ _) _)
  have HGs : Hid (Blk ((w.alloc (.cells #[.string x.name, .int .i64 x.ver, .slice x.U.A x.U.n x.U.c, .slice x.C.A x.C.n x.C.c, .slice x.N.A x.N.n x.N.c, .slice x.Q.A x.Q.n x.Q.c, .slice x.E.A x.E.n x.E.c, .slice x.T.A x.T.n x.T.c] 29)).alloc (.cells #[.int .i64 0, .int .i64 0, .int .i64 0, .int .i64 0] 34)) (w.heap.size + 1) 34 #[.int .i64 0, .int .i64 0, .int .i64 0, .int .i64 0]) := Lib.hid (Blk.new' (by simp))
  have hmf : ∀ (fn : Fn) (first cap : Array Value) (w : World), (Instr.makeFunc fn first cap).run Tryz.prog w = .ok (.func fn first cap) w := fun _ _ _ _ => rfl
  subst h0; subst h1; subst h2; subst hf
  go_enter_defers Tryz.func7, Tryz.ntmps7
  go_wp2_with (first | (go_at_call 17; (with_reducible refine (HC0.out _ HBs.out).mono ?_); go_must (rintro e0 Y0 ⟨rfl, hb0⟩; have HB0 := Lib.hid (HBs.out.trans (hb0.mono HBs.out.size)); have HX0 := Lib.hid (HXs.out.after hb0); have HG0 := Lib.hid (HGs.out.after hb0); have y0_0 := (HX0.out.cell 0).trans (show _ = some (.string x.name) from rfl); have y0_1 := (HX0.out.cell 1).trans (show _ = some (.int .i64 x.ver) from rfl); have y0_2 := (HX0.out.cell 2).trans (show _ = some (.slice x.U.A x.U.n x.U.c) from rfl); have y0_3 := (HX0.out.cell 3).trans (show _ = some (.slice x.C.A x.C.n x.C.c) from rfl); have y0_4 := (HX0.out.cell 4).trans (show _ = some (.slice x.N.A x.N.n x.N.c) from rfl); have y0_5 := (HX0.out.cell 5).trans (show _ = some (.slice x.Q.A x.Q.n x.Q.c) from rfl); have y0_6 := (HX0.out.cell 6).trans (show _ = some (.slice x.E.A x.E.n x.E.c) from rfl); have y0_7 := (HX0.out.cell 7).trans (show _ = some (.slice x.T.A x.T.n x.T.c) from rfl); clear hb0)) | (go_at_call 18; (with_reducible refine (HC1.out _ HB0.out).mono ?_); go_must (rintro e1 Y1 ⟨rfl, hb1⟩; have HB1 := Lib.hid (HB0.out.trans (hb1.mono HB0.out.size)); have HX1 := Lib.hid (HX0.out.after hb1); have HG1 := Lib.hid (HG0.out.after hb1); have y1_3 := (HX1.out.cell 3).trans (show _ = some (.slice x.C.A x.C.n x.C.c) from rfl); clear hb1)) | (go_at_call 19; (with_reducible refine (HC2.out _ HB1.out).mono ?_); go_must (rintro e2 Y2 ⟨rfl, hb2⟩; have HB2 := Lib.hid (HB1.out.trans (hb2.mono HB1.out.size)); have HX2 := Lib.hid (HX1.out.after hb2); have HG2 := Lib.hid (HG1.out.after hb2); have y2_4 := (HX2.out.cell 4).trans (show _ = some (.slice x.N.A x.N.n x.N.c) from rfl); clear hb2)) | (go_at_call 20; (with_reducible refine (HC3.out _ HB2.out).mono ?_); go_must (rintro e3 Y3 ⟨rfl, hb3⟩; have HB3 := Lib.hid (HB2.out.trans (hb3.mono HB2.out.size)); have HX3 := Lib.hid (HX2.out.after hb3); have HG3 := Lib.hid (HG2.out.after hb3); have y3_5 := (HX3.out.cell 5).trans (show _ = some (.slice x.Q.A x.Q.n x.Q.c) from rfl); clear hb3)))
  refine leaves_cons (f := 16) (args := #[.pointer (some ⟨w.heap.size + 1, 0, none⟩)]) (by simp) (by simp [go_sem]) ?_
  refine (catch_some (w.heap.size + 1) f Y3 HG3.out).mono ?_
  rintro e u' w'' ⟨rfl, rfl, hbk, hkp⟩
  have c0 := hbk.cell 0
  have c1 := hbk.cell 1
  have c2 := hbk.cell 2
  have c3 := hbk.cell 3
  simp at c0 c1 c2 c3
  have HEnd := hkp w (by omega) HB3.out
  simp [Leaves, settle, results, Tryz.results7, go_sem, c0, c1, c2, c3, Told, tellF, faV, HEnd]
set_option maxRecDepth 20000 in
set_option maxHeartbeats 1600000 in
theorem check_at4 (w : World) (x : LangM) (v0 v1 v2 v3 v4 v5 v6 : Option Fa)
    (HC0 : Hid (∀ Y, Below w.heap.size w Y → Calls Tryz.prog 17 #[.agg #[.string x.name, .int .i64 x.ver, .slice x.U.A x.U.n x.U.c, .slice x.C.A x.C.n x.C.c, .slice x.N.A x.N.n x.N.c, .slice x.Q.A x.Q.n x.Q.c, .slice x.E.A x.E.n x.E.c, .slice x.T.A x.T.n x.T.c]] Y (Comes' Y v0)))
    (HC1 : Hid (∀ Y, Below w.heap.size w Y → Calls Tryz.prog 18 #[.agg #[.string x.name, .int .i64 x.ver, .slice x.U.A x.U.n x.U.c, .slice x.C.A x.C.n x.C.c, .slice x.N.A x.N.n x.N.c, .slice x.Q.A x.Q.n x.Q.c, .slice x.E.A x.E.n x.E.c, .slice x.T.A x.T.n x.T.c]] Y (Comes' Y v1)))
    (HC2 : Hid (∀ Y, Below w.heap.size w Y → Calls Tryz.prog 19 #[.slice x.C.A x.C.n x.C.c] Y (Comes' Y v2)))
    (HC3 : Hid (∀ Y, Below w.heap.size w Y → Calls Tryz.prog 20 #[.slice x.N.A x.N.n x.N.c] Y (Comes' Y v3)))
    (HC4 : Hid (∀ Y, Below w.heap.size w Y → Calls Tryz.prog 21 #[.slice x.Q.A x.Q.n x.Q.c] Y (Comes' Y v4)))
    (HC5 : Hid (∀ Y, Below w.heap.size w Y → Calls Tryz.prog 22 #[.int .i64 5, .int .i64 6, .slice x.E.A x.E.n x.E.c, .func (.func 23) #[] #[]] Y (Comes' Y v5)))
    (HC6 : Hid (∀ Y, Below w.heap.size w Y → Calls Tryz.prog 24 #[.int .i64 6, .int .i64 5, .slice x.T.A x.T.n x.T.c, .func (.func 25) #[] #[]] Y (Comes' Y v6)))
    (h0 : v0 = none) (h1 : v1 = none) (h2 : v2 = none) (h3 : v3 = none) (f : Fa) (hf : v4 = some f) : Calls Tryz.prog 7 #[.agg #[.string x.name, .int .i64 x.ver, .slice x.U.A x.U.n x.U.c, .slice x.C.A x.C.n x.C.c, .slice x.N.A x.N.n x.N.c, .slice x.Q.A x.Q.n x.Q.c, .slice x.E.A x.E.n x.E.c, .slice x.T.A x.T.n x.T.c]] w (Told w (some f)) := by
  have HBs : Hid (Below w.heap.size w ((w.alloc (.cells #[.string x.name, .int .i64 x.ver, .slice x.U.A x.U.n x.U.c, .slice x.C.A x.C.n x.C.c, .slice x.N.A x.N.n x.N.c, .slice x.Q.A x.Q.n x.Q.c, .slice x.E.A x.E.n x.E.c, .slice x.T.A x.T.n x.T.c] 29)).alloc (.cells #[.int .i64 0, .int .i64 0, .int .i64 0, .int .i64 0] 34))) := Lib.hid (below_more (below_of_alloc _) _)
  have HXs : Hid (Blk ((w.alloc (.cells #[.string x.name, .int .i64 x.ver, .slice x.U.A x.U.n x.U.c, .slice x.C.A x.C.n x.C.c, .slice x.N.A x.N.n x.N.c, .slice x.Q.A x.Q.n x.Q.c, .slice x.E.A x.E.n x.E.c, .slice x.T.A x.T.n x.T.c] 29)).alloc (.cells #[.int .i64 0, .int .i64 0, .int .i64 0, .int .i64 0] 34)) w.heap.size 29 #[.string x.name, .int .i64 x.ver, .slice x.U.A x.U.n x.U.c, .slice x.C.A x.C.n x.C.c, .slice x.N.A x.N.n x.N.c, .slice x.Q.A x.Q.n x.Q.c, .slice x.E.A x.E.n x.E.c, .slice x.T.A x.T.n x.T.c]) := Lib.hid (Blk.alloc (Blk.new _ _ _) _)
  have HGs : Hid (Blk ((w.alloc (.cells #[.string x.name, .int .i64 x.ver, .slice x.U.A x.U.n x.U.c, .slice x.C.A x.C.n x.C.c, .slice x.N.A x.N.n x.N.c, .slice x.Q.A x.Q.n x.Q.c, .slice x.E.A x.E.n x.E.c, .slice x.T.A x.T.n x.T.c] 29)).alloc (.cells #[.int .i64 0, .int .i64 0, .int .i64 0, .int .i64 0] 34)) (w.heap.size + 1) 34 #[.int .i64 0, .int .i64 0, .int .i64 0, .int .i64 0]) := Lib.hid (Blk.new' (by simp))
  have hmf : ∀ (fn : Fn) (first cap : Array Value) (w : World), (Instr.makeFunc fn first cap).run Tryz.prog w = .ok (.func fn first cap) w := fun _ _ _ _ => rfl
  subst h0; subst h1; subst h2; subst h3; subst hf
  go_enter_defers Tryz.func7, Tryz.ntmps7
  go_wp2_with (first | (go_at_call 17; (with_reducible refine (HC0.out _ HBs.out).mono ?_); go_must (rintro e0 Y0 ⟨rfl, hb0⟩; have HB0 := Lib.hid (HBs.out.trans (hb0.mono HBs.out.size)); have HX0 := Lib.hid (HXs.out.after hb0); have HG0 := Lib.hid (HGs.out.after hb0); have y0_0 := (HX0.out.cell 0).trans (show _ = some (.string x.name) from rfl); have y0_1 := (HX0.out.cell 1).trans (show _ = some (.int .i64 x.ver) from rfl); have y0_2 := (HX0.out.cell 2).trans (show _ = some (.slice x.U.A x.U.n x.U.c) from rfl); have y0_3 := (HX0.out.cell 3).trans (show _ = some (.slice x.C.A x.C.n x.C.c) from rfl); have y0_4 := (HX0.out.cell 4).trans (show _ = some (.slice x.N.A x.N.n x.N.c) from rfl); have y0_5 := (HX0.out.cell 5).trans (show _ = some (.slice x.Q.A x.Q.n x.Q.c) from rfl); have y0_6 := (HX0.out.cell 6).trans (show _ = some (.slice x.E.A x.E.n x.E.c) from rfl); have y0_7 := (HX0.out.cell 7).trans (show _ = some (.slice x.T.A x.T.n x.T.c) from rfl); clear hb0)) | (go_at_call 18; (with_reducible refine (HC1.out _ HB0.out).mono ?_); go_must (rintro e1 Y1 ⟨rfl, hb1⟩; have HB1 := Lib.hid (HB0.out.trans (hb1.mono HB0.out.size)); have HX1 := Lib.hid (HX0.out.after hb1); have HG1 := Lib.hid (HG0.out.after hb1); have y1_3 := (HX1.out.cell 3).trans (show _ = some (.slice x.C.A x.C.n x.C.c) from rfl); clear hb1)) | (go_at_call 19; (with_reducible refine (HC2.out _ HB1.out).mono ?_); go_must (rintro e2 Y2 ⟨rfl, hb2⟩; have HB2 := Lib.hid (HB1.out.trans (hb2.mono HB1.out.size)); have HX2 := Lib.hid (HX1.out.after hb2); have HG2 := Lib.hid (HG1.out.after hb2); have y2_4 := (HX2.out.cell 4).trans (show _ = some (.slice x.N.A x.N.n x.N.c) from rfl); clear hb2)) | (go_at_call 20; (with_reducible refine (HC3.out _ HB2.out).mono ?_); go_must (rintro e3 Y3 ⟨rfl, hb3⟩; have HB3 := Lib.hid (HB2.out.trans (hb3.mono HB2.out.size)); have HX3 := Lib.hid (HX2.out.after hb3); have HG3 := Lib.hid (HG2.out.after hb3); have y3_5 := (HX3.out.cell 5).trans (show _ = some (.slice x.Q.A x.Q.n x.Q.c) from rfl); clear hb3)) | (go_at_call 21; (with_reducible refine (HC4.out _ HB3.out).mono ?_); go_must (rintro e4 Y4 ⟨rfl, hb4⟩; have HB4 := Lib.hid (HB3.out.trans (hb4.mono HB3.out.size)); have HX4 := Lib.hid (HX3.out.after hb4); have HG4 := Lib.hid (HG3.out.after hb4); have y4_6 := (HX4.out.cell 6).trans (show _ = some (.slice x.E.A x.E.n x.E.c) from rfl); clear hb4)))
  refine leaves_cons (f := 16) (args := #[.pointer (some ⟨w.heap.size + 1, 0, none⟩)]) (by simp) (by simp [go_sem]) ?_
  refine (catch_some (w.heap.size + 1) f Y4 HG4.out).mono ?_
  rintro e u' w'' ⟨rfl, rfl, hbk, hkp⟩
  have c0 := hbk.cell 0
  have c1 := hbk.cell 1
  have c2 := hbk.cell 2
  have c3 := hbk.cell 3
  simp at c0 c1 c2 c3
  have HEnd := hkp w (by omega) HB4.out
  simp [Leaves, settle, results, Tryz.results7, go_sem, c0, c1, c2, c3, Told, tellF, faV, HEnd]
set_option maxRecDepth 20000 in
set_option maxHeartbeats 1600000 in
theorem check_at5 (w : World) (x : LangM) (v0 v1 v2 v3 v4 v5 v6 : Option Fa)
    (HC0 : Hid (∀ Y, Below w.heap.size w Y → Calls Tryz.prog 17 #[.agg #[.string x.name, .int .i64 x.ver, .slice x.U.A x.U.n x.U.c, .slice x.C.A x.C.n x.C.c, .slice x.N.A x.N.n x.N.c, .slice x.Q.A x.Q.n x.Q.c, .slice x.E.A x.E.n x.E.c, .slice x.T.A x.T.n x.T.c]] Y (Comes' Y v0)))
    (HC1 : Hid (∀ Y, Below w.heap.size w Y → Calls Tryz.prog 18 #[.agg #[.string x.name, .int .i64 x.ver, .slice x.U.A x.U.n x.U.c, .slice x.C.A x.C.n x.C.c, .slice x.N.A x.N.n x.N.c, .slice x.Q.A x.Q.n x.Q.c, .slice x.E.A x.E.n x.E.c, .slice x.T.A x.T.n x.T.c]] Y (Comes' Y v1)))
    (HC2 : Hid (∀ Y, Below w.heap.size w Y → Calls Tryz.prog 19 #[.slice x.C.A x.C.n x.C.c] Y (Comes' Y v2)))
    (HC3 : Hid (∀ Y, Below w.heap.size w Y → Calls Tryz.prog 20 #[.slice x.N.A x.N.n x.N.c] Y (Comes' Y v3)))
    (HC4 : Hid (∀ Y, Below w.heap.size w Y → Calls Tryz.prog 21 #[.slice x.Q.A x.Q.n x.Q.c] Y (Comes' Y v4)))
    (HC5 : Hid (∀ Y, Below w.heap.size w Y → Calls Tryz.prog 22 #[.int .i64 5, .int .i64 6, .slice x.E.A x.E.n x.E.c, .func (.func 23) #[] #[]] Y (Comes' Y v5)))
    (HC6 : Hid (∀ Y, Below w.heap.size w Y → Calls Tryz.prog 24 #[.int .i64 6, .int .i64 5, .slice x.T.A x.T.n x.T.c, .func (.func 25) #[] #[]] Y (Comes' Y v6)))
    (h0 : v0 = none) (h1 : v1 = none) (h2 : v2 = none) (h3 : v3 = none) (h4 : v4 = none) (f : Fa) (hf : v5 = some f) : Calls Tryz.prog 7 #[.agg #[.string x.name, .int .i64 x.ver, .slice x.U.A x.U.n x.U.c, .slice x.C.A x.C.n x.C.c, .slice x.N.A x.N.n x.N.c, .slice x.Q.A x.Q.n x.Q.c, .slice x.E.A x.E.n x.E.c, .slice x.T.A x.T.n x.T.c]] w (Told w (some f)) := by
  have HBs : Hid (Below w.heap.size w ((w.alloc (.cells #[.string x.name, .int .i64 x.ver, .slice x.U.A x.U.n x.U.c, .slice x.C.A x.C.n x.C.c, .slice x.N.A x.N.n x.N.c, .slice x.Q.A x.Q.n x.Q.c, .slice x.E.A x.E.n x.E.c, .slice x.T.A x.T.n x.T.c] 29)).alloc (.cells #[.int .i64 0, .int .i64 0, .int .i64 0, .int .i64 0] 34))) := Lib.hid (below_more (below_of_alloc _) _)
  have HXs : Hid (Blk ((w.alloc (.cells #[.string x.name, .int .i64 x.ver, .slice x.U.A x.U.n x.U.c, .slice x.C.A x.C.n x.C.c, .slice x.N.A x.N.n x.N.c, .slice x.Q.A x.Q.n x.Q.c, .slice x.E.A x.E.n x.E.c, .slice x.T.A x.T.n x.T.c] 29)).alloc (.cells #[.int .i64 0, .int .i64 0, .int .i64 0, .int .i64 0] 34)) w.heap.size 29 #[.string x.name, .int .i64 x.ver, .slice x.U.A x.U.n x.U.c, .slice x.C.A x.C.n x.C.c, .slice x.N.A x.N.n x.N.c, .slice x.Q.A x.Q.n x.Q.c, .slice x.E.A x.E.n x.E.c, .slice x.T.A x.T.n x.T.c]) := Lib.hid (Blk.alloc (Blk.new _ _ _) _)
  have HGs : Hid (Blk ((w.alloc (.cells #[.string x.name, .int .i64 x.ver, .slice x.U.A x.U.n x.U.c, .slice x.C.A x.C.n x.C.c, .slice x.N.A x.N.n x.N.c, .slice x.Q.A x.Q.n x.Q.c, .slice x.E.A x.E.n x.E.c, .slice x.T.A x.T.n x.T.c] 29)).alloc (.cells #[.int .i64 0, .int .i64 0, .int .i64 0, .int .i64 0] 34)) (w.heap.size + 1) 34 #[.int .i64 0, .int .i64 0, .int .i64 0, .int .i64 0]) := Lib.hid (Blk.new' (by simp))
  have hmf : ∀ (fn : Fn) (first cap : Array Value) (w : World), (Instr.makeFunc fn first cap).run Tryz.prog w = .ok (.func fn first cap) w := fun _ _ _ _ => rfl
  subst h0; subst h1; subst h2; subst h3; subst h4; subst hf
  go_enter_defers Tryz.func7, Tryz.ntmps7
  go_wp2_with (first | (go_at_call 17; (with_reducible refine (HC0.out _ HBs.out).mono ?_); go_must (rintro e0 Y0 ⟨rfl, hb0⟩; have HB0 := Lib.hid (HBs.out.trans (hb0.mono HBs.out.size)); have HX0 := Lib.hid (HXs.out.after hb0); have HG0 := Lib.hid (HGs.out.after hb0); have y0_0 := (HX0.out.cell 0).trans (show _ = some (.string x.name) from rfl); have y0_1 := (HX0.out.cell 1).trans (show _ = some (.int .i64 x.ver) from rfl); have y0_2 := (HX0.out.cell 2).trans (show _ = some (.slice x.U.A x.U.n x.U.c) from rfl); have y0_3 := (HX0.out.cell 3).trans (show _ = some (.slice x.C.A x.C.n x.C.c) from rfl); have y0_4 := (HX0.out.cell 4).trans (show _ = some (.slice x.N.A x.N.n x.N.c) from rfl); have y0_5 := (HX0.out.cell 5).trans (show _ = some (.slice x.Q.A x.Q.n x.Q.c) from rfl); have y0_6 := (HX0.out.cell 6).trans (show _ = some (.slice x.E.A x.E.n x.E.c) from rfl); have y0_7 := (HX0.out.cell 7).trans (show _ = some (.slice x.T.A x.T.n x.T.c) from rfl); clear hb0)) | (go_at_call 18; (with_reducible refine (HC1.out _ HB0.out).mono ?_); go_must (rintro e1 Y1 ⟨rfl, hb1⟩; have HB1 := Lib.hid (HB0.out.trans (hb1.mono HB0.out.size)); have HX1 := Lib.hid (HX0.out.after hb1); have HG1 := Lib.hid (HG0.out.after hb1); have y1_3 := (HX1.out.cell 3).trans (show _ = some (.slice x.C.A x.C.n x.C.c) from rfl); clear hb1)) | (go_at_call 19; (with_reducible refine (HC2.out _ HB1.out).mono ?_); go_must (rintro e2 Y2 ⟨rfl, hb2⟩; have HB2 := Lib.hid (HB1.out.trans (hb2.mono HB1.out.size)); have HX2 := Lib.hid (HX1.out.after hb2); have HG2 := Lib.hid (HG1.out.after hb2); have y2_4 := (HX2.out.cell 4).trans (show _ = some (.slice x.N.A x.N.n x.N.c) from rfl); clear hb2)) | (go_at_call 20; (with_reducible refine (HC3.out _ HB2.out).mono ?_); go_must (rintro e3 Y3 ⟨rfl, hb3⟩; have HB3 := Lib.hid (HB2.out.trans (hb3.mono HB2.out.size)); have HX3 := Lib.hid (HX2.out.after hb3); have HG3 := Lib.hid (HG2.out.after hb3); have y3_5 := (HX3.out.cell 5).trans (show _ = some (.slice x.Q.A x.Q.n x.Q.c) from rfl); clear hb3)) | (go_at_call 21; (with_reducible refine (HC4.out _ HB3.out).mono ?_); go_must (rintro e4 Y4 ⟨rfl, hb4⟩; have HB4 := Lib.hid (HB3.out.trans (hb4.mono HB3.out.size)); have HX4 := Lib.hid (HX3.out.after hb4); have HG4 := Lib.hid (HG3.out.after hb4); have y4_6 := (HX4.out.cell 6).trans (show _ = some (.slice x.E.A x.E.n x.E.c) from rfl); clear hb4)) | (go_at_call 22; (with_reducible refine (HC5.out _ HB4.out).mono ?_); go_must (rintro e5 Y5 ⟨rfl, hb5⟩; have HB5 := Lib.hid (HB4.out.trans (hb5.mono HB4.out.size)); have HX5 := Lib.hid (HX4.out.after hb5); have HG5 := Lib.hid (HG4.out.after hb5); have y5_7 := (HX5.out.cell 7).trans (show _ = some (.slice x.T.A x.T.n x.T.c) from rfl); clear hb5)))
  refine leaves_cons (f := 16) (args := #[.pointer (some ⟨w.heap.size + 1, 0, none⟩)]) (by simp) (by simp [go_sem]) ?_
  refine (catch_some (w.heap.size + 1) f Y5 HG5.out).mono ?_
  rintro e u' w'' ⟨rfl, rfl, hbk, hkp⟩
  have c0 := hbk.cell 0
  have c1 := hbk.cell 1
  have c2 := hbk.cell 2
  have c3 := hbk.cell 3
  simp at c0 c1 c2 c3
  have HEnd := hkp w (by omega) HB5.out
  simp [Leaves, settle, results, Tryz.results7, go_sem, c0, c1, c2, c3, Told, tellF, faV, HEnd]
set_option maxRecDepth 20000 in
set_option maxHeartbeats 1600000 in
theorem check_at6 (w : World) (x : LangM) (v0 v1 v2 v3 v4 v5 v6 : Option Fa)
    (HC0 : Hid (∀ Y, Below w.heap.size w Y → Calls Tryz.prog 17 #[.agg #[.string x.name, .int .i64 x.ver, .slice x.U.A x.U.n x.U.c, .slice x.C.A x.C.n x.C.c, .slice x.N.A x.N.n x.N.c, .slice x.Q.A x.Q.n x.Q.c, .slice x.E.A x.E.n x.E.c, .slice x.T.A x.T.n x.T.c]] Y (Comes' Y v0)))
    (HC1 : Hid (∀ Y, Below w.heap.size w Y → Calls Tryz.prog 18 #[.agg #[.string x.name, .int .i64 x.ver, .slice x.U.A x.U.n x.U.c, .slice x.C.A x.C.n x.C.c, .slice x.N.A x.N.n x.N.c, .slice x.Q.A x.Q.n x.Q.c, .slice x.E.A x.E.n x.E.c, .slice x.T.A x.T.n x.T.c]] Y (Comes' Y v1)))
    (HC2 : Hid (∀ Y, Below w.heap.size w Y → Calls Tryz.prog 19 #[.slice x.C.A x.C.n x.C.c] Y (Comes' Y v2)))
    (HC3 : Hid (∀ Y, Below w.heap.size w Y → Calls Tryz.prog 20 #[.slice x.N.A x.N.n x.N.c] Y (Comes' Y v3)))
    (HC4 : Hid (∀ Y, Below w.heap.size w Y → Calls Tryz.prog 21 #[.slice x.Q.A x.Q.n x.Q.c] Y (Comes' Y v4)))
    (HC5 : Hid (∀ Y, Below w.heap.size w Y → Calls Tryz.prog 22 #[.int .i64 5, .int .i64 6, .slice x.E.A x.E.n x.E.c, .func (.func 23) #[] #[]] Y (Comes' Y v5)))
    (HC6 : Hid (∀ Y, Below w.heap.size w Y → Calls Tryz.prog 24 #[.int .i64 6, .int .i64 5, .slice x.T.A x.T.n x.T.c, .func (.func 25) #[] #[]] Y (Comes' Y v6)))
    (h0 : v0 = none) (h1 : v1 = none) (h2 : v2 = none) (h3 : v3 = none) (h4 : v4 = none) (h5 : v5 = none) (f : Fa) (hf : v6 = some f) : Calls Tryz.prog 7 #[.agg #[.string x.name, .int .i64 x.ver, .slice x.U.A x.U.n x.U.c, .slice x.C.A x.C.n x.C.c, .slice x.N.A x.N.n x.N.c, .slice x.Q.A x.Q.n x.Q.c, .slice x.E.A x.E.n x.E.c, .slice x.T.A x.T.n x.T.c]] w (Told w (some f)) := by
  have HBs : Hid (Below w.heap.size w ((w.alloc (.cells #[.string x.name, .int .i64 x.ver, .slice x.U.A x.U.n x.U.c, .slice x.C.A x.C.n x.C.c, .slice x.N.A x.N.n x.N.c, .slice x.Q.A x.Q.n x.Q.c, .slice x.E.A x.E.n x.E.c, .slice x.T.A x.T.n x.T.c] 29)).alloc (.cells #[.int .i64 0, .int .i64 0, .int .i64 0, .int .i64 0] 34))) := Lib.hid (below_more (below_of_alloc _) _)
  have HXs : Hid (Blk ((w.alloc (.cells #[.string x.name, .int .i64 x.ver, .slice x.U.A x.U.n x.U.c, .slice x.C.A x.C.n x.C.c, .slice x.N.A x.N.n x.N.c, .slice x.Q.A x.Q.n x.Q.c, .slice x.E.A x.E.n x.E.c, .slice x.T.A x.T.n x.T.c] 29)).alloc (.cells #[.int .i64 0, .int .i64 0, .int .i64 0, .int .i64 0] 34)) w.heap.size 29 #[.string x.name, .int .i64 x.ver, .slice x.U.A x.U.n x.U.c, .slice x.C.A x.C.n x.C.c, .slice x.N.A x.N.n x.N.c, .slice x.Q.A x.Q.n x.Q.c, .slice x.E.A x.E.n x.E.c, .slice x.T.A x.T.n x.T.c]) := Lib.hid (Blk.alloc (Blk.new _ _ _) _)
  have HGs : Hid (Blk ((w.alloc (.cells #[.string x.name, .int .i64 x.ver, .slice x.U.A x.U.n x.U.c, .slice x.C.A x.C.n x.C.c, .slice x.N.A x.N.n x.N.c, .slice x.Q.A x.Q.n x.Q.c, .slice x.E.A x.E.n x.E.c, .slice x.T.A x.T.n x.T.c] 29)).alloc (.cells #[.int .i64 0, .int .i64 0, .int .i64 0, .int .i64 0] 34)) (w.heap.size + 1) 34 #[.int .i64 0, .int .i64 0, .int .i64 0, .int .i64 0]) := Lib.hid (Blk.new' (by simp))
  have hmf : ∀ (fn : Fn) (first cap : Array Value) (w : World), (Instr.makeFunc fn first cap).run Tryz.prog w = .ok (.func fn first cap) w := fun _ _ _ _ => rfl
  subst h0; subst h1; subst h2; subst h3; subst h4; subst h5; subst hf
  go_enter_defers Tryz.func7, Tryz.ntmps7
  go_wp2_with (first | (go_at_call 17; (with_reducible refine (HC0.out _ HBs.out).mono ?_); go_must (rintro e0 Y0 ⟨rfl, hb0⟩; have HB0 := Lib.hid (HBs.out.trans (hb0.mono HBs.out.size)); have HX0 := Lib.hid (HXs.out.after hb0); have HG0 := Lib.hid (HGs.out.after hb0); have y0_0 := (HX0.out.cell 0).trans (show _ = some (.string x.name) from rfl); have y0_1 := (HX0.out.cell 1).trans (show _ = some (.int .i64 x.ver) from rfl); have y0_2 := (HX0.out.cell 2).trans (show _ = some (.slice x.U.A x.U.n x.U.c) from rfl); have y0_3 := (HX0.out.cell 3).trans (show _ = some (.slice x.C.A x.C.n x.C.c) from rfl); have y0_4 := (HX0.out.cell 4).trans (show _ = some (.slice x.N.A x.N.n x.N.c) from rfl); have y0_5 := (HX0.out.cell 5).trans (show _ = some (.slice x.Q.A x.Q.n x.Q.c) from rfl); have y0_6 := (HX0.out.cell 6).trans (show _ = some (.slice x.E.A x.E.n x.E.c) from rfl); have y0_7 := (HX0.out.cell 7).trans (show _ = some (.slice x.T.A x.T.n x.T.c) from rfl); clear hb0)) | (go_at_call 18; (with_reducible refine (HC1.out _ HB0.out).mono ?_); go_must (rintro e1 Y1 ⟨rfl, hb1⟩; have HB1 := Lib.hid (HB0.out.trans (hb1.mono HB0.out.size)); have HX1 := Lib.hid (HX0.out.after hb1); have HG1 := Lib.hid (HG0.out.after hb1); have y1_3 := (HX1.out.cell 3).trans (show _ = some (.slice x.C.A x.C.n x.C.c) from rfl); clear hb1)) | (go_at_call 19; (with_reducible refine (HC2.out _ HB1.out).mono ?_); go_must (rintro e2 Y2 ⟨rfl, hb2⟩; have HB2 := Lib.hid (HB1.out.trans (hb2.mono HB1.out.size)); have HX2 := Lib.hid (HX1.out.after hb2); have HG2 := Lib.hid (HG1.out.after hb2); have y2_4 := (HX2.out.cell 4).trans (show _ = some (.slice x.N.A x.N.n x.N.c) from rfl); clear hb2)) | (go_at_call 20; (with_reducible refine (HC3.out _ HB2.out).mono ?_); go_must (rintro e3 Y3 ⟨rfl, hb3⟩; have HB3 := Lib.hid (HB2.out.trans (hb3.mono HB2.out.size)); have HX3 := Lib.hid (HX2.out.after hb3); have HG3 := Lib.hid (HG2.out.after hb3); have y3_5 := (HX3.out.cell 5).trans (show _ = some (.slice x.Q.A x.Q.n x.Q.c) from rfl); clear hb3)) | (go_at_call 21; (with_reducible refine (HC4.out _ HB3.out).mono ?_); go_must (rintro e4 Y4 ⟨rfl, hb4⟩; have HB4 := Lib.hid (HB3.out.trans (hb4.mono HB3.out.size)); have HX4 := Lib.hid (HX3.out.after hb4); have HG4 := Lib.hid (HG3.out.after hb4); have y4_6 := (HX4.out.cell 6).trans (show _ = some (.slice x.E.A x.E.n x.E.c) from rfl); clear hb4)) | (go_at_call 22; (with_reducible refine (HC5.out _ HB4.out).mono ?_); go_must (rintro e5 Y5 ⟨rfl, hb5⟩; have HB5 := Lib.hid (HB4.out.trans (hb5.mono HB4.out.size)); have HX5 := Lib.hid (HX4.out.after hb5); have HG5 := Lib.hid (HG4.out.after hb5); have y5_7 := (HX5.out.cell 7).trans (show _ = some (.slice x.T.A x.T.n x.T.c) from rfl); clear hb5)) | (go_at_call 24; (with_reducible refine (HC6.out _ HB5.out).mono ?_); go_must (rintro e6 Y6 ⟨rfl, hb6⟩; have HB6 := Lib.hid (HB5.out.trans (hb6.mono HB5.out.size)); have HX6 := Lib.hid (HX5.out.after hb6); have HG6 := Lib.hid (HG5.out.after hb6); have g6_0 := (HG6.out.cell 0).trans (show _ = some (.int .i64 0) from rfl); have z6_0 := HG6.out.frozen 0; have g6_1 := (HG6.out.cell 1).trans (show _ = some (.int .i64 0) from rfl); have z6_1 := HG6.out.frozen 1; have g6_2 := (HG6.out.cell 2).trans (show _ = some (.int .i64 0) from rfl); have z6_2 := HG6.out.frozen 2; have g6_3 := (HG6.out.cell 3).trans (show _ = some (.int .i64 0) from rfl); have z6_3 := HG6.out.frozen 3; clear hb6)))
  refine leaves_cons (f := 16) (args := #[.pointer (some ⟨w.heap.size + 1, 0, none⟩)]) (by simp) (by simp [go_sem]) ?_
  refine (catch_some (w.heap.size + 1) f Y6 HG6.out).mono ?_
  rintro e u' w'' ⟨rfl, rfl, hbk, hkp⟩
  have c0 := hbk.cell 0
  have c1 := hbk.cell 1
  have c2 := hbk.cell 2
  have c3 := hbk.cell 3
  simp at c0 c1 c2 c3
  have HEnd := hkp w (by omega) HB6.out
  simp [Leaves, settle, results, Tryz.results7, go_sem, c0, c1, c2, c3, Told, tellF, faV, HEnd]
set_option maxRecDepth 20000 in
set_option maxHeartbeats 1600000 in
theorem check_at7 (w : World) (x : LangM) (v0 v1 v2 v3 v4 v5 v6 : Option Fa)
    (HC0 : Hid (∀ Y, Below w.heap.size w Y → Calls Tryz.prog 17 #[.agg #[.string x.name, .int .i64 x.ver, .slice x.U.A x.U.n x.U.c, .slice x.C.A x.C.n x.C.c, .slice x.N.A x.N.n x.N.c, .slice x.Q.A x.Q.n x.Q.c, .slice x.E.A x.E.n x.E.c, .slice x.T.A x.T.n x.T.c]] Y (Comes' Y v0)))
    (HC1 : Hid (∀ Y, Below w.heap.size w Y → Calls Tryz.prog 18 #[.agg #[.string x.name, .int .i64 x.ver, .slice x.U.A x.U.n x.U.c, .slice x.C.A x.C.n x.C.c, .slice x.N.A x.N.n x.N.c, .slice x.Q.A x.Q.n x.Q.c, .slice x.E.A x.E.n x.E.c, .slice x.T.A x.T.n x.T.c]] Y (Comes' Y v1)))
    (HC2 : Hid (∀ Y, Below w.heap.size w Y → Calls Tryz.prog 19 #[.slice x.C.A x.C.n x.C.c] Y (Comes' Y v2)))
    (HC3 : Hid (∀ Y, Below w.heap.size w Y → Calls Tryz.prog 20 #[.slice x.N.A x.N.n x.N.c] Y (Comes' Y v3)))
    (HC4 : Hid (∀ Y, Below w.heap.size w Y → Calls Tryz.prog 21 #[.slice x.Q.A x.Q.n x.Q.c] Y (Comes' Y v4)))
    (HC5 : Hid (∀ Y, Below w.heap.size w Y → Calls Tryz.prog 22 #[.int .i64 5, .int .i64 6, .slice x.E.A x.E.n x.E.c, .func (.func 23) #[] #[]] Y (Comes' Y v5)))
    (HC6 : Hid (∀ Y, Below w.heap.size w Y → Calls Tryz.prog 24 #[.int .i64 6, .int .i64 5, .slice x.T.A x.T.n x.T.c, .func (.func 25) #[] #[]] Y (Comes' Y v6)))
    (h0 : v0 = none) (h1 : v1 = none) (h2 : v2 = none) (h3 : v3 = none) (h4 : v4 = none) (h5 : v5 = none) (h6 : v6 = none) : Calls Tryz.prog 7 #[.agg #[.string x.name, .int .i64 x.ver, .slice x.U.A x.U.n x.U.c, .slice x.C.A x.C.n x.C.c, .slice x.N.A x.N.n x.N.c, .slice x.Q.A x.Q.n x.Q.c, .slice x.E.A x.E.n x.E.c, .slice x.T.A x.T.n x.T.c]] w (Told w none) := by
  have HBs : Hid (Below w.heap.size w ((w.alloc (.cells #[.string x.name, .int .i64 x.ver, .slice x.U.A x.U.n x.U.c, .slice x.C.A x.C.n x.C.c, .slice x.N.A x.N.n x.N.c, .slice x.Q.A x.Q.n x.Q.c, .slice x.E.A x.E.n x.E.c, .slice x.T.A x.T.n x.T.c] 29)).alloc (.cells #[.int .i64 0, .int .i64 0, .int .i64 0, .int .i64 0] 34))) := Lib.hid (below_more (below_of_alloc _) _)
  have HXs : Hid (Blk ((w.alloc (.cells #[.string x.name, .int .i64 x.ver, .slice x.U.A x.U.n x.U.c, .slice x.C.A x.C.n x.C.c, .slice x.N.A x.N.n x.N.c, .slice x.Q.A x.Q.n x.Q.c, .slice x.E.A x.E.n x.E.c, .slice x.T.A x.T.n x.T.c] 29)).alloc (.cells #[.int .i64 0, .int .i64 0, .int .i64 0, .int .i64 0] 34)) w.heap.size 29 #[.string x.name, .int .i64 x.ver, .slice x.U.A x.U.n x.U.c, .slice x.C.A x.C.n x.C.c, .slice x.N.A x.N.n x.N.c, .slice x.Q.A x.Q.n x.Q.c, .slice x.E.A x.E.n x.E.c, .slice x.T.A x.T.n x.T.c]) := Lib.hid (Blk.alloc (Blk.new _ _ _) _)
  have HGs : Hid (Blk ((w.alloc (.cells #[.string x.name, .int .i64 x.ver, .slice x.U.A x.U.n x.U.c, .slice x.C.A x.C.n x.C.c, .slice x.N.A x.N.n x.N.c, .slice x.Q.A x.Q.n x.Q.c, .slice x.E.A x.E.n x.E.c, .slice x.T.A x.T.n x.T.c] 29)).alloc (.cells #[.int .i64 0, .int .i64 0, .int .i64 0, .int .i64 0] 34)) (w.heap.size + 1) 34 #[.int .i64 0, .int .i64 0, .int .i64 0, .int .i64 0]) := Lib.hid (Blk.new' (by simp))
  have hmf : ∀ (fn : Fn) (first cap : Array Value) (w : World), (Instr.makeFunc fn first cap).run Tryz.prog w = .ok (.func fn first cap) w := fun _ _ _ _ => rfl
  subst h0; subst h1; subst h2; subst h3; subst h4; subst h5; subst h6
  go_enter_defers Tryz.func7, Tryz.ntmps7
  go_wp2_with (first | (go_at_call 17; (with_reducible refine (HC0.out _ HBs.out).mono ?_); go_must (rintro e0 Y0 ⟨rfl, hb0⟩; have HB0 := Lib.hid (HBs.out.trans (hb0.mono HBs.out.size)); have HX0 := Lib.hid (HXs.out.after hb0); have HG0 := Lib.hid (HGs.out.after hb0); have y0_0 := (HX0.out.cell 0).trans (show _ = some (.string x.name) from rfl); have y0_1 := (HX0.out.cell 1).trans (show _ = some (.int .i64 x.ver) from rfl); have y0_2 := (HX0.out.cell 2).trans (show _ = some (.slice x.U.A x.U.n x.U.c) from rfl); have y0_3 := (HX0.out.cell 3).trans (show _ = some (.slice x.C.A x.C.n x.C.c) from rfl); have y0_4 := (HX0.out.cell 4).trans (show _ = some (.slice x.N.A x.N.n x.N.c) from rfl); have y0_5 := (HX0.out.cell 5).trans (show _ = some (.slice x.Q.A x.Q.n x.Q.c) from rfl); have y0_6 := (HX0.out.cell 6).trans (show _ = some (.slice x.E.A x.E.n x.E.c) from rfl); have y0_7 := (HX0.out.cell 7).trans (show _ = some (.slice x.T.A x.T.n x.T.c) from rfl); clear hb0)) | (go_at_call 18; (with_reducible refine (HC1.out _ HB0.out).mono ?_); go_must (rintro e1 Y1 ⟨rfl, hb1⟩; have HB1 := Lib.hid (HB0.out.trans (hb1.mono HB0.out.size)); have HX1 := Lib.hid (HX0.out.after hb1); have HG1 := Lib.hid (HG0.out.after hb1); have y1_3 := (HX1.out.cell 3).trans (show _ = some (.slice x.C.A x.C.n x.C.c) from rfl); clear hb1)) | (go_at_call 19; (with_reducible refine (HC2.out _ HB1.out).mono ?_); go_must (rintro e2 Y2 ⟨rfl, hb2⟩; have HB2 := Lib.hid (HB1.out.trans (hb2.mono HB1.out.size)); have HX2 := Lib.hid (HX1.out.after hb2); have HG2 := Lib.hid (HG1.out.after hb2); have y2_4 := (HX2.out.cell 4).trans (show _ = some (.slice x.N.A x.N.n x.N.c) from rfl); clear hb2)) | (go_at_call 20; (with_reducible refine (HC3.out _ HB2.out).mono ?_); go_must (rintro e3 Y3 ⟨rfl, hb3⟩; have HB3 := Lib.hid (HB2.out.trans (hb3.mono HB2.out.size)); have HX3 := Lib.hid (HX2.out.after hb3); have HG3 := Lib.hid (HG2.out.after hb3); have y3_5 := (HX3.out.cell 5).trans (show _ = some (.slice x.Q.A x.Q.n x.Q.c) from rfl); clear hb3)) | (go_at_call 21; (with_reducible refine (HC4.out _ HB3.out).mono ?_); go_must (rintro e4 Y4 ⟨rfl, hb4⟩; have HB4 := Lib.hid (HB3.out.trans (hb4.mono HB3.out.size)); have HX4 := Lib.hid (HX3.out.after hb4); have HG4 := Lib.hid (HG3.out.after hb4); have y4_6 := (HX4.out.cell 6).trans (show _ = some (.slice x.E.A x.E.n x.E.c) from rfl); clear hb4)) | (go_at_call 22; (with_reducible refine (HC5.out _ HB4.out).mono ?_); go_must (rintro e5 Y5 ⟨rfl, hb5⟩; have HB5 := Lib.hid (HB4.out.trans (hb5.mono HB4.out.size)); have HX5 := Lib.hid (HX4.out.after hb5); have HG5 := Lib.hid (HG4.out.after hb5); have y5_7 := (HX5.out.cell 7).trans (show _ = some (.slice x.T.A x.T.n x.T.c) from rfl); clear hb5)) | (go_at_call 24; (with_reducible refine (HC6.out _ HB5.out).mono ?_); go_must (rintro e6 Y6 ⟨rfl, hb6⟩; have HB6 := Lib.hid (HB5.out.trans (hb6.mono HB5.out.size)); have HX6 := Lib.hid (HX5.out.after hb6); have HG6 := Lib.hid (HG5.out.after hb6); have g6_0 := (HG6.out.cell 0).trans (show _ = some (.int .i64 0) from rfl); have z6_0 := HG6.out.frozen 0; have g6_1 := (HG6.out.cell 1).trans (show _ = some (.int .i64 0) from rfl); have z6_1 := HG6.out.frozen 1; have g6_2 := (HG6.out.cell 2).trans (show _ = some (.int .i64 0) from rfl); have z6_2 := HG6.out.frozen 2; have g6_3 := (HG6.out.cell 3).trans (show _ = some (.int .i64 0) from rfl); have z6_3 := HG6.out.frozen 3; clear hb6)))
  refine leaves_cons (f := 16) (args := #[.pointer (some ⟨w.heap.size + 1, 0, none⟩)]) (by simp) (by simp [go_sem]) ?_
  refine (catch_none (w.heap.size + 1) _).mono ?_
  rintro e u' w'' ⟨rfl, rfl, hb⟩
  have hbk := ((((HG6.out.set_ 0 (.int .i64 0)).set_ 1 (.int .i64 0)).set_ 2 (.int .i64 0)).set_ 3 (.int .i64 0)).after hb
  have c0 := hbk.cell 0
  have c1 := hbk.cell 1
  have c2 := hbk.cell 2
  have c3 := hbk.cell 3
  simp at c0 c1 c2 c3
  have hset := below_set (i := 3) (u := .int .i64 0) (below_set (i := 2) (u := .int .i64 0) (below_set (i := 1) (u := .int .i64 0) (below_set (i := 0) (u := .int .i64 0) HB6.out (Nat.le_succ _)) (Nat.le_succ _)) (Nat.le_succ _)) (Nat.le_succ w.heap.size)
  have HEnd := hset.trans (hb.mono hset.size)
  simp [Leaves, settle, results, Tryz.results7, go_sem, c0, c1, c2, c3, Told, tellF, faV, HEnd]
theorem flat_strC (l : List ByteArray) : strCells l = l.flatMap strC := by
  induction l with
  | nil => rfl
  | cons a l ih => simp only [List.flatMap_cons, strC] at ih ⊢; rw [← ih]; rfl
theorem langF_eq (x : LangM) : langF x = firstF [ownV x.name x.ver, eachV 8 (elemF 1) (useO x.name x.us) 0 x.us, eachV 128 (elemF 2) (conO' x.cs) 0 x.cs, eachV 256 (elemF 3) (ruleO x.ru) 0 x.ru, eachV 256 (elemF 4) eqO 0 x.qs, eachV 256 (elemF 5) (rowO 5 6 x.es) 0 x.es, eachV 256 (elemF 6) (rowO 6 5 x.ts) 0 x.ts] := rfl
theorem check_any (w : World) (hi : Nat) (x : LangM) (h : LangIn w 0 hi x) (hh : hi ≤ w.heap.size) (hf : Fit x) : Calls Tryz.prog 7 #[.agg #[.string x.name, .int .i64 x.ver, .slice x.U.A x.U.n x.U.c, .slice x.C.A x.C.n x.C.c, .slice x.N.A x.N.n x.N.c, .slice x.Q.A x.Q.n x.Q.c, .slice x.E.A x.E.n x.E.c, .slice x.T.A x.T.n x.T.c]] w (Told w (langF x)) := by
  have HC0 : Hid (∀ Y, Below w.heap.size w Y → Calls Tryz.prog 17 #[.agg #[.string x.name, .int .i64 x.ver, .slice x.U.A x.U.n x.U.c, .slice x.C.A x.C.n x.C.c, .slice x.N.A x.N.n x.N.c, .slice x.Q.A x.Q.n x.Q.c, .slice x.E.A x.E.n x.E.c, .slice x.T.A x.T.n x.T.c]] Y (Comes' Y (ownV x.name x.ver))) := Lib.hid fun Y hY => check_own Y _ _ _ _ _ _ _ _
  have HC1 : Hid (∀ Y, Below w.heap.size w Y → Calls Tryz.prog 18 #[.agg #[.string x.name, .int .i64 x.ver, .slice x.U.A x.U.n x.U.c, .slice x.C.A x.C.n x.C.c, .slice x.N.A x.N.n x.N.c, .slice x.Q.A x.Q.n x.Q.c, .slice x.E.A x.E.n x.E.c, .slice x.T.A x.T.n x.T.c]] Y (Comes' Y (eachV 8 (elemF 1) (useO x.name x.us) 0 x.us))) := Lib.hid fun Y hY => check_str Y hi _ _ _ x.us (by have := h.u; rw [flat_strC] at this; exact Row.below this (hY.mono hh)) (Nat.le_trans hh hY.size) x.name _ _ _ _ _ _
  have HC2 : Hid (∀ Y, Below w.heap.size w Y → Calls Tryz.prog 19 #[.slice x.C.A x.C.n x.C.c] Y (Comes' Y (eachV 128 (elemF 2) (conO' x.cs) 0 x.cs))) := Lib.hid fun Y hY => check_con Y hi _ _ _ x.cs (Row.below h.c.row (hY.mono hh)) (Nat.le_trans hh hY.size) (fun g hg => conK.below (h.c.all g hg) (hY.mono hh))
  have HC3 : Hid (∀ Y, Below w.heap.size w Y → Calls Tryz.prog 20 #[.slice x.N.A x.N.n x.N.c] Y (Comes' Y (eachV 256 (elemF 3) (ruleO x.ru) 0 x.ru))) := Lib.hid fun Y hY => check_ru Y hi _ _ _ x.ru (Row.below h.n (hY.mono hh)) (Nat.le_trans hh hY.size)
  have HC4 : Hid (∀ Y, Below w.heap.size w Y → Calls Tryz.prog 21 #[.slice x.Q.A x.Q.n x.Q.c] Y (Comes' Y (eachV 256 (elemF 4) eqO 0 x.qs))) := Lib.hid fun Y hY => check_eq Y hi _ _ _ x.qs (Row.below h.q.row (hY.mono hh)) (Nat.le_trans hh hY.size) (fun g hg => ⟨eqK.below (h.q.all g hg) (hY.mono hh), hf.q g hg⟩)
  have HC5 : Hid (∀ Y, Below w.heap.size w Y → Calls Tryz.prog 22 #[.int .i64 5, .int .i64 6, .slice x.E.A x.E.n x.E.c, .func (.func 23) #[] #[]] Y (Comes' Y (eachV 256 (elemF 5) (rowO 5 6 x.es) 0 x.es))) := Lib.hid fun Y hY => check_ed Y hi _ _ _ x.es (Row.below h.e.row (hY.mono hh)) (Nat.le_trans hh hY.size) (fun g hg => ⟨rowK.below (h.e.all g hg) (hY.mono hh), hf.e g hg⟩)
  have HC6 : Hid (∀ Y, Below w.heap.size w Y → Calls Tryz.prog 24 #[.int .i64 6, .int .i64 5, .slice x.T.A x.T.n x.T.c, .func (.func 25) #[] #[]] Y (Comes' Y (eachV 256 (elemF 6) (rowO 6 5 x.ts) 0 x.ts))) := Lib.hid fun Y hY => check_te Y hi _ _ _ x.ts (Row.below h.t.row (hY.mono hh)) (Nat.le_trans hh hY.size) (fun g hg => ⟨rowK.below (h.t.all g hg) (hY.mono hh), hf.t g hg⟩)
  rw [langF_eq]
  generalize ownV x.name x.ver = v0 at HC0
  generalize eachV 8 (elemF 1) (useO x.name x.us) 0 x.us = v1 at HC1
  generalize eachV 128 (elemF 2) (conO' x.cs) 0 x.cs = v2 at HC2
  generalize eachV 256 (elemF 3) (ruleO x.ru) 0 x.ru = v3 at HC3
  generalize eachV 256 (elemF 4) eqO 0 x.qs = v4 at HC4
  generalize eachV 256 (elemF 5) (rowO 5 6 x.es) 0 x.es = v5 at HC5
  generalize eachV 256 (elemF 6) (rowO 6 5 x.ts) 0 x.ts = v6 at HC6
  cases v0 with
  | some f => exact check_at0 w x (some f) v1 v2 v3 v4 v5 v6 HC0 HC1 HC2 HC3 HC4 HC5 HC6  f rfl
  | none =>
    cases v1 with
    | some f => exact check_at1 w x none (some f) v2 v3 v4 v5 v6 HC0 HC1 HC2 HC3 HC4 HC5 HC6 rfl f rfl
    | none =>
      cases v2 with
      | some f => exact check_at2 w x none none (some f) v3 v4 v5 v6 HC0 HC1 HC2 HC3 HC4 HC5 HC6 rfl rfl f rfl
      | none =>
        cases v3 with
        | some f => exact check_at3 w x none none none (some f) v4 v5 v6 HC0 HC1 HC2 HC3 HC4 HC5 HC6 rfl rfl rfl f rfl
        | none =>
          cases v4 with
          | some f => exact check_at4 w x none none none none (some f) v5 v6 HC0 HC1 HC2 HC3 HC4 HC5 HC6 rfl rfl rfl rfl f rfl
          | none =>
            cases v5 with
            | some f => exact check_at5 w x none none none none none (some f) v6 HC0 HC1 HC2 HC3 HC4 HC5 HC6 rfl rfl rfl rfl rfl f rfl
            | none =>
              cases v6 with
              | some f => exact check_at6 w x none none none none none none (some f) HC0 HC1 HC2 HC3 HC4 HC5 HC6 rfl rfl rfl rfl rfl rfl f rfl
              | none =>
                exact check_at7 w x none none none none none none none HC0 HC1 HC2 HC3 HC4 HC5 HC6 rfl rfl rfl rfl rfl rfl rfl
end Go.Proofs.YtilemieknfdjnaaGreat

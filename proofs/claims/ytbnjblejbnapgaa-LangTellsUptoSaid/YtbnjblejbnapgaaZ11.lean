/-
  WALKS: the law LangTells.
  A MODEL AS AN ARGUMENT: what the reading of it tells of the cells, and how long its lists are.
-/
import Derived.Test.YtbnjblejbnapgaaZ10
import Derived.Test.YtbnjblejbnapgaaRows
import Derived.Deep.Slices
import Derived.Deep.SlicePairs
import Derived.Deep.Fields
import Derived.ChangeSame
import Derived.ChangeSlices
import Derived.Lib.SmallJoins
import Derived.Carry
namespace Go.Proofs.Ytbnjblejbnapgaa
open Go Go.RowKit Go.Sort
set_option linter.unusedVariables false
/-- the two languages' boxes, and all that lay as the turns begin -/
structure TB (w W2 : World) (gz : Nat) (x z : LangM) (Y : World) : Prop where
  a : Blk Y w.heap.size 29 #[.string x.name, .int .i64 x.ver, .slice x.U.A x.U.n x.U.c, .slice x.C.A x.C.n x.C.c, .slice x.N.A x.N.n x.N.c, .slice x.Q.A x.Q.n x.Q.c, .slice x.E.A x.E.n x.E.c, .slice x.T.A x.T.n x.T.c]
  b : Blk Y gz 29 #[.string z.name, .int .i64 z.ver, .slice z.U.A z.U.n z.U.c, .slice z.C.A z.C.n z.C.c, .slice z.N.A z.N.n z.N.c, .slice z.Q.A z.Q.n z.Q.c, .slice z.E.A z.E.n z.E.c, .slice z.T.A z.T.n z.T.c]
  bel : Below W2.heap.size W2 Y
theorem eqL_mem {α : Type} {e : α → α → Bool} : ∀ {l m : List α}, eqL e l m = true → ∀ {y : α}, y ∈ m → ∃ x ∈ l, e x y = true
  | [], [], _, y, h => by simp at h
  | [], _ :: _, h, _, _ => by simp [eqL] at h
  | _ :: _, [], h, _, _ => by simp [eqL] at h
  | a :: l, b :: m, h, y, hy => by
    rw [eqL, Bool.and_eq_true] at h
    rcases List.mem_cons.1 hy with rfl | hy
    · exact ⟨a, List.mem_cons_self, h.1⟩
    · obtain ⟨x, hx, he⟩ := eqL_mem h.2 hy
      exact ⟨x, List.mem_cons_of_mem _ hx, he⟩
theorem TB.after {w W2 Y Y' : World} {gz : Nat} {x z : LangM} (h : TB w W2 gz x z Y) (hb : Below Y.heap.size Y Y') : TB w W2 gz x z Y' := ⟨h.a.after hb, h.b.after hb, h.bel.trans (hb.mono h.bel.size)⟩
/-- what is kept while a turn's answers are spoilt -/
structure SP (w W2 : World) (gz g9 : Nat) (x z : LangM) (YV : Array Value) (Ap : Option Addr) (np cp : Nat) (Ak : Option Addr) (nk ck : Nat) (Ar : Option Addr) (nr cr : Nat) (Nv : Option Addr) (NL cv : Nat) (Y : World) : Prop where
  t : TB w W2 gz x z Y
  c : Blk Y g9 38 YV
  p : OwnAny Y W2.heap.size 45 2 Ap np cp
  k : OwnAny Y W2.heap.size 47 4 Ak nk ck
  r : OwnAny Y W2.heap.size 49 3 Ar nr cr
  n : OwnAny Y W2.heap.size 9 1 Nv NL cv
theorem TB.grown {w W2 Y Y' : World} {gz g : Nat} {x z : LangM} {size n c : Nat} {T : TypeId} (h : TB w W2 gz x z Y) (ho : OwnAny Y W2.heap.size T size (some ⟨g, 0, none⟩) n c) (hn : 0 < n) (hne : T ≠ 29) (hg : Y.grownBy Y' (some g)) : TB w W2 gz x z Y' :=
  ⟨ho.box h.a hne hg, ho.box h.b hne hg, h.bel.grown hg h.bel.size (fun k e => by
    obtain ⟨g', e', hb, _⟩ := ho.some_ hn
    injection e with e
    injection e' with e'; injection e' with e'
    omega)⟩
section
variable {w W2 Y : World} {gz g9 g k : Nat} {x z : LangM} {YV : Array Value} {Ap Ak Ar Nv : Option Addr} {np cp nk ck nr cr NL cv : Nat}
theorem SP.p_ (h : SP w W2 gz g9 x z YV (some ⟨g, 0, none⟩) np cp Ak nk ck Ar nr cr Nv NL cv Y) (hk : k < np) (u : Value) : (∃ v, Y.cell? ⟨g, k * 2, none⟩ = some v) ∧ Y.frozen? ⟨g, k * 2, none⟩ = false ∧ SP w W2 gz g9 x z YV (some ⟨g, 0, none⟩) np cp Ak nk ck Ar nr cr Nv NL cv (Y.setCell ⟨g, k * 2, none⟩ u) := by
  obtain ⟨h1, h2, h3, h4⟩ := h.p.spoil (by decide) hk u
  exact ⟨h1, h2, h.t.grown h.p (by omega) (by decide) h4, h.p.box h.c (by decide) h4, h3, h.k.kept h.p (by decide) h4, h.r.kept h.p (by decide) h4, h.n.kept h.p (by decide) h4⟩
theorem SP.k_ (h : SP w W2 gz g9 x z YV Ap np cp (some ⟨g, 0, none⟩) nk ck Ar nr cr Nv NL cv Y) (hk : k < nk) (u : Value) : (∃ v, Y.cell? ⟨g, k * 4, none⟩ = some v) ∧ Y.frozen? ⟨g, k * 4, none⟩ = false ∧ SP w W2 gz g9 x z YV Ap np cp (some ⟨g, 0, none⟩) nk ck Ar nr cr Nv NL cv (Y.setCell ⟨g, k * 4, none⟩ u) := by
  obtain ⟨h1, h2, h3, h4⟩ := h.k.spoil (by decide) hk u
  exact ⟨h1, h2, h.t.grown h.k (by omega) (by decide) h4, h.k.box h.c (by decide) h4, h.p.kept h.k (by decide) h4, h3, h.r.kept h.k (by decide) h4, h.n.kept h.k (by decide) h4⟩
theorem SP.r_ (h : SP w W2 gz g9 x z YV Ap np cp Ak nk ck (some ⟨g, 0, none⟩) nr cr Nv NL cv Y) (hk : k < nr) (u : Value) : (∃ v, Y.cell? ⟨g, k * 3, none⟩ = some v) ∧ Y.frozen? ⟨g, k * 3, none⟩ = false ∧ SP w W2 gz g9 x z YV Ap np cp Ak nk ck (some ⟨g, 0, none⟩) nr cr Nv NL cv (Y.setCell ⟨g, k * 3, none⟩ u) := by
  obtain ⟨h1, h2, h3, h4⟩ := h.r.spoil (by decide) hk u
  exact ⟨h1, h2, h.t.grown h.r (by omega) (by decide) h4, h.r.box h.c (by decide) h4, h.p.kept h.r (by decide) h4, h.k.kept h.r (by decide) h4, h3, h.n.kept h.r (by decide) h4⟩
theorem SP.n_ (h : SP w W2 gz g9 x z YV Ap np cp Ak nk ck Ar nr cr (some ⟨g, 0, none⟩) NL cv Y) (hk : k < NL) (u : Value) : (∃ v, Y.cell? ⟨g, k * 1, none⟩ = some v) ∧ Y.frozen? ⟨g, k * 1, none⟩ = false ∧ SP w W2 gz g9 x z YV Ap np cp Ak nk ck Ar nr cr (some ⟨g, 0, none⟩) NL cv (Y.setCell ⟨g, k * 1, none⟩ u) := by
  obtain ⟨h1, h2, h3, h4⟩ := h.n.spoil (by decide) hk u
  exact ⟨h1, h2, h.t.grown h.n (by omega) (by decide) h4, h.n.box h.c (by decide) h4, h.p.kept h.n (by decide) h4, h.k.kept h.n (by decide) h4, h.r.kept h.n (by decide) h4, h3⟩
end
set_option maxRecDepth 100000 in
set_option maxHeartbeats 12800000 in
theorem langTells_any (w : World) (hi : Nat) (x : LangM) (s : ByteArray) (A : Option Addr) (n c : Nat) (l : List (SideD × Sl)) (hx : LangIn w 0 hi x) (ht : GRow sideC SideIn 4 w 0 hi ⟨A, n, c⟩ l) (hh : hi ≤ w.heap.size) (hr : Room4 x) (ha : ∀ g ∈ l, g.1.args.length ≤ 268435456) :
    Calls Try.prog 4 #[.agg #[.string x.name, .int .i64 x.ver, .slice x.U.A x.U.n x.U.c, .slice x.C.A x.C.n x.C.c, .slice x.N.A x.N.n x.N.c, .slice x.Q.A x.Q.n x.Q.c, .slice x.E.A x.E.n x.E.c, .slice x.T.A x.T.n x.T.c], .string s, .slice A n c] w (Ret w (.bool true)) := by
  have HI : Hid (∀ Y, Below w.heap.size w Y → LangIn Y 0 Y.heap.size x ∧ GRow sideC SideIn 4 Y 0 Y.heap.size ⟨A, n, c⟩ l) := Lib.hid fun Y hb => ⟨langK.mono (langK.below hx (hb.mono hh)) (Nat.le_refl _) (Nat.le_trans hh hb.size), (ht.below sideK (hb.mono hh)).mono sideK (Nat.le_refl _) (Nat.le_trans hh hb.size)⟩
  have HG : Hid (∀ Y, Below w.heap.size w Y → Calls Try.prog 5 #[.agg #[.string x.name, .int .i64 x.ver, .slice x.U.A x.U.n x.U.c, .slice x.C.A x.C.n x.C.c, .slice x.N.A x.N.n x.N.c, .slice x.Q.A x.Q.n x.Q.c, .slice x.E.A x.E.n x.E.c, .slice x.T.A x.T.n x.T.c]] Y (GreatPost Y x)) := Lib.hid fun Y hb => great_any Y _ x (HI.out Y hb).1 (Nat.le_refl _) hr
  have HT : FitG x → Hid (∀ Y, Below w.heap.size w Y → Calls Try.prog 8 #[.agg #[.string x.name, .int .i64 x.ver, .slice x.U.A x.U.n x.U.c, .slice x.C.A x.C.n x.C.c, .slice x.N.A x.N.n x.N.c, .slice x.Q.A x.Q.n x.Q.c, .slice x.E.A x.E.n x.E.c, .slice x.T.A x.T.n x.T.c]] Y (TwinPost4 Y x)) := fun hf => Lib.hid fun Y hb => twin4_any Y _ x (HI.out Y hb).1 (Nat.le_refl _) (Fit4.of hf hr)
  have hcn : x.C.n = x.cs.length := hx.c.n
  have hnl : n = l.length := ht.n
  have z1 : n ≤ c := ht.row.2.1
  have y1 : c ≤ maxLen := ht.row.2.2.1
  unfold maxLen at y1
  have HHA := Lib.hid ha
  clear hx ht hh hr ha
  have HX0 : Hid (Blk (w.alloc (.cells #[.string x.name, .int .i64 x.ver, .slice x.U.A x.U.n x.U.c, .slice x.C.A x.C.n x.C.c, .slice x.N.A x.N.n x.N.c, .slice x.Q.A x.Q.n x.Q.c, .slice x.E.A x.E.n x.E.c, .slice x.T.A x.T.n x.T.c] 29)) w.heap.size 29 #[.string x.name, .int .i64 x.ver, .slice x.U.A x.U.n x.U.c, .slice x.C.A x.C.n x.C.c, .slice x.N.A x.N.n x.N.c, .slice x.Q.A x.Q.n x.Q.c, .slice x.E.A x.E.n x.E.c, .slice x.T.A x.T.n x.T.c]) := Lib.hid (Blk.new _ _ _)
  have HB0 : Hid (Below w.heap.size w (w.alloc (.cells #[.string x.name, .int .i64 x.ver, .slice x.U.A x.U.n x.U.c, .slice x.C.A x.C.n x.C.c, .slice x.N.A x.N.n x.N.c, .slice x.Q.A x.Q.n x.Q.c, .slice x.E.A x.E.n x.E.c, .slice x.T.A x.T.n x.T.c] 29))) := Lib.hid (below_more (Below.refl _ _) _)
  have HCN := Lib.hid hcn
  clear hcn hnl
  go_enter Try.func4, Try.ntmps4
  go_wp2_with fail
  refine (HG.out _ HB0.out).mono ?_
  rintro e w1 ⟨b1, rfl, hb1, hf1⟩
  have HX1 := Lib.hid (HX0.out.after hb1)
  have HB1 := Lib.hid (HB0.out.trans (hb1.mono HB0.out.size))
  clear hb1
  cases b1 with
  | true =>
    go_wp2_with fail
    go_ret
    exact ⟨rfl, HB1.out⟩
  | false =>
    by_cases hbig : (2000 : Int) < (n : Int)
    · go_wp2_with fail
      go_ret
      exact ⟨rfl, HB1.out⟩
    · have hf := hf1 (by simp)
      replace HT := HT hf
      have HF := Lib.hid hf
      clear hf hf1 HG
      have c0 := (HX1.out.cell 0).trans (show _ = some (Value.string x.name) from rfl)
      have c1 := (HX1.out.cell 1).trans (show _ = some (.int .i64 x.ver) from rfl)
      have c2 := (HX1.out.cell 2).trans (show _ = some (.slice x.U.A x.U.n x.U.c) from rfl)
      have c3 := (HX1.out.cell 3).trans (show _ = some (.slice x.C.A x.C.n x.C.c) from rfl)
      have c4 := (HX1.out.cell 4).trans (show _ = some (.slice x.N.A x.N.n x.N.c) from rfl)
      have c5 := (HX1.out.cell 5).trans (show _ = some (.slice x.Q.A x.Q.n x.Q.c) from rfl)
      have c6 := (HX1.out.cell 6).trans (show _ = some (.slice x.E.A x.E.n x.E.c) from rfl)
      have c7 := (HX1.out.cell 7).trans (show _ = some (.slice x.T.A x.T.n x.T.c) from rfl)
      go_wp2_with fail
      clear c0 c1 c2 c3 c4 c5 c6 c7
      refine (HT.out _ HB1.out).mono ?_
      rintro e w2 ⟨z, rfl, hz, he, hb2⟩
      have HX2 := Lib.hid (HX1.out.after hb2)
      have HB2 := Lib.hid (HB1.out.trans (hb2.mono HB1.out.size))
      have HZ := Lib.hid hz
      have HE := Lib.hid he
      clear hb2 hz he HT
      go_wp2_with fail
      obtain ⟨W2, hW2⟩ : ∃ W2, w2.alloc (.cells #[.string z.name, .int .i64 z.ver, .slice z.U.A z.U.n z.U.c, .slice z.C.A z.C.n z.C.c, .slice z.N.A z.N.n z.N.c, .slice z.Q.A z.Q.n z.Q.c, .slice z.E.A z.E.n z.E.c, .slice z.T.A z.T.n z.T.c] 29) = W2 := ⟨_, rfl⟩
      have HTB : Hid (TB w W2 w2.heap.size x z W2) := Lib.hid (by rw [← hW2]; exact ⟨HX2.out.alloc _, Blk.new _ _ _, Below.refl _ _⟩)
      have hb3 : Below w2.heap.size w2 W2 := by rw [← hW2]; exact below_more (Below.refl _ _) _
      have HBW : Hid (Below w.heap.size w W2) := Lib.hid (HB2.out.trans (hb3.mono HB2.out.size))
      have HL : Hid (∀ Y, Below W2.heap.size W2 Y → LangIn Y 0 Y.heap.size x ∧ LangIn Y 0 Y.heap.size z ∧ GRow sideC SideIn 4 Y 0 Y.heap.size ⟨A, n, c⟩ l ∧ Below w.heap.size w Y) := Lib.hid fun Y hb => by
        have hwY := HBW.out.trans (hb.mono HBW.out.size)
        have h4 := HI.out Y hwY
        have hz2 : Below w2.heap.size w2 Y := hb3.trans (hb.mono hb3.size)
        exact ⟨h4.1, langK.mono (langK.below HZ.out hz2) (Nat.le_refl _) hz2.size, h4.2, hwY⟩
      have HS : Hid (∀ Y, Below W2.heap.size W2 Y → Calls Try.prog 7 #[.agg #[.string z.name, .int .i64 z.ver, .slice z.U.A z.U.n z.U.c, .slice z.C.A z.C.n z.C.c, .slice z.N.A z.N.n z.N.c, .slice z.Q.A z.Q.n z.Q.c, .slice z.E.A z.E.n z.E.c, .slice z.T.A z.T.n z.T.c], .agg #[.string x.name, .int .i64 x.ver, .slice x.U.A x.U.n x.U.c, .slice x.C.A x.C.n x.C.c, .slice x.N.A x.N.n x.N.c, .slice x.Q.A x.Q.n x.Q.c, .slice x.E.A x.E.n x.E.c, .slice x.T.A x.T.n x.T.c]] Y (Ret Y (.bool true))) := Lib.hid fun Y hb => by
        rw [show true = langEM z x by rw [langEM_symm]; exact HE.out.symm]
        exact refSame4_any Y _ z x (HL.out Y hb).2.1 (HL.out Y hb).1 (Nat.le_refl _)
      obtain ⟨V, hV⟩ : ∃ V, treeD n (l.map (·.1.args)) 0 [0] = V := ⟨_, rfl⟩
      have HP : Hid (∀ Y, Below W2.heap.size W2 Y → Calls Try.prog 15 #[.slice A n c] Y (Ret Y (.bool V))) := Lib.hid fun Y hb => by rw [← hV]; exact tree_any Y _ A n c l (HL.out Y hb).2.2.1 (Nat.le_refl _) (by omega) HHA.out
      have HR : Hid (∀ Y, Below W2.heap.size W2 Y → Calls Try.prog 16 #[.slice A n c] Y (Ret Y (.bool V))) := Lib.hid fun Y hb => by rw [← hV]; exact refTree_any Y _ A n c l (HL.out Y hb).2.2.1 (Nat.le_refl _) (by omega)
      have HZn : Hid (z.C.n ≤ 1048576 ∧ ∀ g ∈ z.cs, g.1.props.length ≤ 1048576 ∧ g.1.kids.length ≤ 1048576 ∧ g.1.refs.length ≤ 1048576) := Lib.hid (by
        have h1 := langEM_cs HE.out
        have h2 := eqL_length h1
        have h3 := HZ.out.c.n
        have h4 := HF.out.n
        refine ⟨by omega, fun g hg => ?_⟩
        obtain ⟨g', hg', hgg⟩ := eqL_mem h1 hg
        have h5 := HF.out.cs g' hg'
        unfold conEM at hgg
        simp only [Bool.and_eq_true] at hgg
        have l1 := eqL_length hgg.1.1.2
        have l2 := eqL_length hgg.1.2
        have l3 := eqL_length hgg.2
        omega)
      have HC1 : Hid (∀ Y, Below W2.heap.size W2 Y → Calls Try.prog 9 #[.agg #[.string z.name, .int .i64 z.ver, .slice z.U.A z.U.n z.U.c, .slice z.C.A z.C.n z.C.c, .slice z.N.A z.N.n z.N.c, .slice z.Q.A z.Q.n z.Q.c, .slice z.E.A z.E.n z.E.c, .slice z.T.A z.T.n z.T.c], .string s] Y (ConO Y z s)) := Lib.hid fun Y hb => conceptO_any Y _ z s (HL.out Y hb).2.1 (Nat.le_refl _) HZn.out.1 HZn.out.2
      have HC2 : Hid (∀ Y, Below W2.heap.size W2 Y → Calls Try.prog 10 #[.agg #[.string x.name, .int .i64 x.ver, .slice x.U.A x.U.n x.U.c, .slice x.C.A x.C.n x.C.c, .slice x.N.A x.N.n x.N.c, .slice x.Q.A x.Q.n x.Q.c, .slice x.E.A x.E.n x.E.c, .slice x.T.A x.T.n x.T.c], .string s] Y (ConS Y x s)) := Lib.hid fun Y hb => conceptS_any Y _ x s (HL.out Y hb).1 (Nat.le_refl _) (by have := HF.out.n; have := HCN.out; omega)
      obtain ⟨NV, hNV⟩ : ∃ NV, namesV (x.cs.map fun g => g.1.name.data.toList) = NV := ⟨_, rfl⟩
      have HN1 : Hid (∀ Y, Below W2.heap.size W2 Y → Calls Try.prog 11 #[.agg #[.string z.name, .int .i64 z.ver, .slice z.U.A z.U.n z.U.c, .slice z.C.A z.C.n z.C.c, .slice z.N.A z.N.n z.N.c, .slice z.Q.A z.Q.n z.Q.c, .slice z.E.A z.E.n z.E.c, .slice z.T.A z.T.n z.T.c]] Y (NamesPost Y NV)) := Lib.hid fun Y hb => by rw [← hNV, names_same (langEM_cs HE.out)]; exact names_any Y _ z (HL.out Y hb).2.1 (Nat.le_refl _) HZn.out.1
      have HN2 : Hid (∀ Y, Below W2.heap.size W2 Y → Calls Try.prog 14 #[.agg #[.string x.name, .int .i64 x.ver, .slice x.U.A x.U.n x.U.c, .slice x.C.A x.C.n x.C.c, .slice x.N.A x.N.n x.N.c, .slice x.Q.A x.Q.n x.Q.c, .slice x.E.A x.E.n x.E.c, .slice x.T.A x.T.n x.T.c]] Y (NamesPost Y NV)) := Lib.hid fun Y hb => by rw [← hNV]; exact refNames_any Y _ x (HL.out Y hb).1 (Nat.le_refl _) (by have := HF.out.n; have := HCN.out; omega)
      have HSame : Hid (conEM (conV x s) (conV z s) = true ∧ (findC x.cs s).isSome = (findC z.cs s).isSome) := Lib.hid (conV_same HE.out s)
      clear hNV
      obtain ⟨d, hd⟩ : ∃ d, conV x s = d := ⟨_, rfl⟩
      obtain ⟨BB, hBB⟩ : ∃ BB, (findC x.cs s).isSome = BB := ⟨_, rfl⟩
      rw [hd, hBB] at HSame
      have HDi : Hid (∀ Y, Below W2.heap.size W2 Y → ConIn Y 0 Y.heap.size d) := Lib.hid fun Y hb => by rw [← hd]; exact conV_in (HL.out Y hb).1 s
      have HC3 : Hid (∀ Y, Below W2.heap.size W2 Y → Calls Try.prog 10 #[.agg #[.string x.name, .int .i64 x.ver, .slice x.U.A x.U.n x.U.c, .slice x.C.A x.C.n x.C.c, .slice x.N.A x.N.n x.N.c, .slice x.Q.A x.Q.n x.Q.c, .slice x.E.A x.E.n x.E.c, .slice x.T.A x.T.n x.T.c], .string s] Y (fun e w' => e = .returned (.tuple #[.agg (conC d).toArray, .bool BB]) ∧ Below Y.heap.size Y w')) := Lib.hid fun Y hb => (HC2.out Y hb).mono fun e w' h => by unfold ConS at h; rw [hd, hBB] at h; exact h
      have HC4 : Hid (∀ Y, Below W2.heap.size W2 Y → Calls Try.prog 9 #[.agg #[.string z.name, .int .i64 z.ver, .slice z.U.A z.U.n z.U.c, .slice z.C.A z.C.n z.C.c, .slice z.N.A z.N.n z.N.c, .slice z.Q.A z.Q.n z.Q.c, .slice z.E.A z.E.n z.E.c, .slice z.T.A z.T.n z.T.c], .string s] Y (fun e w' => ∃ y : ConD × Leaf, e = .returned (.tuple #[.agg (conC y).toArray, .bool BB]) ∧ conEM y d = true ∧ ConOwn w' Y.heap.size y ∧ Below Y.heap.size Y w')) := Lib.hid fun Y hb => (HC1.out Y hb).mono fun e w' ⟨y, h1, h2, h3, h4⟩ => ⟨y, by rw [h1, ← HSame.out.2], by rw [conEM_symm, conEM_fst rfl h2]; exact HSame.out.1, h3, h4⟩
      clear hd hBB HC1 HC2 HSame
      obtain ⟨⟨d1, d2, d3, dp, dk, dr⟩, ⟨⟨Dp, mp, ep⟩, ⟨Dk, mk, ek⟩, ⟨Dr, mr, er⟩⟩⟩ := d
      rw [hW2]
      clear hW2 hV hb3 HX0 HB0 HX1 HB1 HX2 HB2 HI
      obtain ⟨gz, hgz⟩ : ∃ gz, w2.heap.size = gz := ⟨_, rfl⟩
      rw [hgz] at HTB ⊢
      clear hgz HZ
      go_loopw [8] (fun i wr => ∃ k : Nat, i = .int .i64 k ∧ k ≤ 2 ∧ Hid (TB w W2 gz x z wr)) (fun i _ => 2 - (intOf i).toNat)
      case atStart => exact ⟨0, rfl, by omega, HTB⟩
      case round =>
        obtain ⟨k, rfl, hk, HB⟩ := hrel
        by_cases hlt : k < 2
        · have a0 := (HB.out.a.cell 0).trans (show _ = some (.string x.name) from rfl)
          have a1 := (HB.out.a.cell 1).trans (show _ = some (.int .i64 x.ver) from rfl)
          have a2 := (HB.out.a.cell 2).trans (show _ = some (.slice x.U.A x.U.n x.U.c) from rfl)
          have a3 := (HB.out.a.cell 3).trans (show _ = some (.slice x.C.A x.C.n x.C.c) from rfl)
          have a4 := (HB.out.a.cell 4).trans (show _ = some (.slice x.N.A x.N.n x.N.c) from rfl)
          have a5 := (HB.out.a.cell 5).trans (show _ = some (.slice x.Q.A x.Q.n x.Q.c) from rfl)
          have a6 := (HB.out.a.cell 6).trans (show _ = some (.slice x.E.A x.E.n x.E.c) from rfl)
          have a7 := (HB.out.a.cell 7).trans (show _ = some (.slice x.T.A x.T.n x.T.c) from rfl)
          have b0 := (HB.out.b.cell 0).trans (show _ = some (.string z.name) from rfl)
          have b1 := (HB.out.b.cell 1).trans (show _ = some (.int .i64 z.ver) from rfl)
          have b2 := (HB.out.b.cell 2).trans (show _ = some (.slice z.U.A z.U.n z.U.c) from rfl)
          have b3 := (HB.out.b.cell 3).trans (show _ = some (.slice z.C.A z.C.n z.C.c) from rfl)
          have b4 := (HB.out.b.cell 4).trans (show _ = some (.slice z.N.A z.N.n z.N.c) from rfl)
          have b5 := (HB.out.b.cell 5).trans (show _ = some (.slice z.Q.A z.Q.n z.Q.c) from rfl)
          have b6 := (HB.out.b.cell 6).trans (show _ = some (.slice z.E.A z.E.n z.E.c) from rfl)
          have b7 := (HB.out.b.cell 7).trans (show _ = some (.slice z.T.A z.T.n z.T.c) from rfl)
          go_wp2_with fail
          refine (HC4.out _ HB.out.bel).mono ?_
          rintro e w3 ⟨y, rfl, hy, hyo, hb3⟩
          obtain ⟨⟨y1, y2, y3, yp, yk, yr⟩, ⟨⟨Ap, np, cp⟩, ⟨Ak, nk, ck⟩, ⟨Ar, nr, cr⟩⟩⟩ := y
          have HB3 := Lib.hid (HB.out.after hb3)
          have HY3 := Lib.hid (ConOwn.mono_ hyo HB.out.bel.size)
          have HEY := Lib.hid hy
          clear hb3 hyo hy a0 a1 a2 a3 a4 a5 a6 a7 b0 b1 b2 b3 b4 b5 b6 b7
          have a0 := (HB3.out.a.cell 0).trans (show _ = some (.string x.name) from rfl)
          have a1 := (HB3.out.a.cell 1).trans (show _ = some (.int .i64 x.ver) from rfl)
          have a2 := (HB3.out.a.cell 2).trans (show _ = some (.slice x.U.A x.U.n x.U.c) from rfl)
          have a3 := (HB3.out.a.cell 3).trans (show _ = some (.slice x.C.A x.C.n x.C.c) from rfl)
          have a4 := (HB3.out.a.cell 4).trans (show _ = some (.slice x.N.A x.N.n x.N.c) from rfl)
          have a5 := (HB3.out.a.cell 5).trans (show _ = some (.slice x.Q.A x.Q.n x.Q.c) from rfl)
          have a6 := (HB3.out.a.cell 6).trans (show _ = some (.slice x.E.A x.E.n x.E.c) from rfl)
          have a7 := (HB3.out.a.cell 7).trans (show _ = some (.slice x.T.A x.T.n x.T.c) from rfl)
          have b0 := (HB3.out.b.cell 0).trans (show _ = some (.string z.name) from rfl)
          have b1 := (HB3.out.b.cell 1).trans (show _ = some (.int .i64 z.ver) from rfl)
          have b2 := (HB3.out.b.cell 2).trans (show _ = some (.slice z.U.A z.U.n z.U.c) from rfl)
          have b3 := (HB3.out.b.cell 3).trans (show _ = some (.slice z.C.A z.C.n z.C.c) from rfl)
          have b4 := (HB3.out.b.cell 4).trans (show _ = some (.slice z.N.A z.N.n z.N.c) from rfl)
          have b5 := (HB3.out.b.cell 5).trans (show _ = some (.slice z.Q.A z.Q.n z.Q.c) from rfl)
          have b6 := (HB3.out.b.cell 6).trans (show _ = some (.slice z.E.A z.E.n z.E.c) from rfl)
          have b7 := (HB3.out.b.cell 7).trans (show _ = some (.slice z.T.A z.T.n z.T.c) from rfl)
          have hx3 := HB3.out.a.lt
          have hz3 := HB3.out.b.lt
          simp only [conC]
          go_wp2_with fail
          clear a0 a1 a2 a3 a4 a5 a6 a7 b0 b1 b2 b3 b4 b5 b6 b7
          refine (HC3.out _ (HB3.out.after (below_more (Below.refl _ _) (.cells #[.string y1, .string y2, .bool y3, .slice Ap np cp, .slice Ak nk ck, .slice Ar nr cr] 38))).bel).mono ?_
          rintro e w4 ⟨rfl, hb4⟩
          have HB4 := Lib.hid ((HB3.out.after (below_more (Below.refl _ _) (.cells #[.string y1, .string y2, .bool y3, .slice Ap np cp, .slice Ak nk ck, .slice Ar nr cr] 38))).after hb4)
          have HY4 := Lib.hid (conOK.after (conOK.after HY3.out (below_more (Below.refl _ _) (.cells #[.string y1, .string y2, .bool y3, .slice Ap np cp, .slice Ak nk ck, .slice Ar nr cr] 38))) hb4)
          have H94 : Hid (Blk w4 w3.heap.size 38 #[.string y1, .string y2, .bool y3, .slice Ap np cp, .slice Ak nk ck, .slice Ar nr cr]) := Lib.hid ((Blk.new w3 _ _).after hb4)
          clear hb4 hx3 hz3 HY3 HB3
          have a0 := (HB4.out.a.cell 0).trans (show _ = some (.string x.name) from rfl)
          have a1 := (HB4.out.a.cell 1).trans (show _ = some (.int .i64 x.ver) from rfl)
          have a2 := (HB4.out.a.cell 2).trans (show _ = some (.slice x.U.A x.U.n x.U.c) from rfl)
          have a3 := (HB4.out.a.cell 3).trans (show _ = some (.slice x.C.A x.C.n x.C.c) from rfl)
          have a4 := (HB4.out.a.cell 4).trans (show _ = some (.slice x.N.A x.N.n x.N.c) from rfl)
          have a5 := (HB4.out.a.cell 5).trans (show _ = some (.slice x.Q.A x.Q.n x.Q.c) from rfl)
          have a6 := (HB4.out.a.cell 6).trans (show _ = some (.slice x.E.A x.E.n x.E.c) from rfl)
          have a7 := (HB4.out.a.cell 7).trans (show _ = some (.slice x.T.A x.T.n x.T.c) from rfl)
          have b0 := (HB4.out.b.cell 0).trans (show _ = some (.string z.name) from rfl)
          have b1 := (HB4.out.b.cell 1).trans (show _ = some (.int .i64 z.ver) from rfl)
          have b2 := (HB4.out.b.cell 2).trans (show _ = some (.slice z.U.A z.U.n z.U.c) from rfl)
          have b3 := (HB4.out.b.cell 3).trans (show _ = some (.slice z.C.A z.C.n z.C.c) from rfl)
          have b4 := (HB4.out.b.cell 4).trans (show _ = some (.slice z.N.A z.N.n z.N.c) from rfl)
          have b5 := (HB4.out.b.cell 5).trans (show _ = some (.slice z.Q.A z.Q.n z.Q.c) from rfl)
          have b6 := (HB4.out.b.cell 6).trans (show _ = some (.slice z.E.A z.E.n z.E.c) from rfl)
          have b7 := (HB4.out.b.cell 7).trans (show _ = some (.slice z.T.A z.T.n z.T.c) from rfl)
          have hx4 := HB4.out.a.lt
          have hz4 := HB4.out.b.lt
          simp only [conC]
          go_wp2_with fail
          clear a0 a1 a2 a3 a4 a5 a6 a7 b0 b1 b2 b3 b4 b5 b6 b7
          refine (HN1.out _ (HB4.out.after (below_more (Below.refl _ _) (.cells #[.string d1, .string d2, .bool d3, .slice Dp mp ep, .slice Dk mk ek, .slice Dr mr er] 38))).bel).mono ?_
          rintro e w5 ⟨v, rfl, hv, hb5⟩
          obtain ⟨Nv, cv, rfl⟩ := own_form hv
          have HB5 := Lib.hid ((HB4.out.after (below_more (Below.refl _ _) (.cells #[.string d1, .string d2, .bool d3, .slice Dp mp ep, .slice Dk mk ek, .slice Dr mr er] 38))).after hb5)
          have HY5 := Lib.hid (conOK.after (conOK.after HY4.out (below_more (Below.refl _ _) (.cells #[.string d1, .string d2, .bool d3, .slice Dp mp ep, .slice Dk mk ek, .slice Dr mr er] 38))) hb5)
          have H95 := Lib.hid ((H94.out.alloc (.cells #[.string d1, .string d2, .bool d3, .slice Dp mp ep, .slice Dk mk ek, .slice Dr mr er] 38)).after hb5)
          have H115 : Hid (Blk w5 w4.heap.size 38 #[.string d1, .string d2, .bool d3, .slice Dp mp ep, .slice Dk mk ek, .slice Dr mr er]) := Lib.hid ((Blk.new w4 _ _).after hb5)
          have HV5 : Hid (w5.ownsRow W2.heap.size 9 1 (.slice Nv NV.length cv) NV.length (encs NV)) := Lib.hid (own_mono hv (Nat.le_trans HB4.out.bel.size (by simp)))
          clear hb5 hv hx4 hz4 HY4 HB4 H94
          have HSC : Hid (Calls Try.prog 12 #[.agg #[.string y1, .string y2, .bool y3, .slice Ap np cp, .slice Ak nk ck, .slice Ar nr cr], .agg #[.string d1, .string d2, .bool d3, .slice Dp mp ep, .slice Dk mk ek, .slice Dr mr er]] w5 (Ret w5 (.bool true))) := Lib.hid (by
            have := refSameConcept_any w5 w5.heap.size _ _ (conK.mono (ConOwn.in_ HY5.out) (Nat.zero_le _) (Nat.le_refl _)) (HDi.out w5 HB5.out.bel) (Nat.le_refl _)
            rw [HEY.out] at this
            exact this)
          obtain ⟨NL, hNL⟩ : ∃ NL, NV.length = NL := ⟨_, rfl⟩
          have HNL := Lib.hid hNL
          rw [hNL] at HV5 ⊢
          clear hNL
          have s0 := (H95.out.cell 0).trans (show _ = some (.string y1) from rfl)
          have s1 := (H95.out.cell 1).trans (show _ = some (.string y2) from rfl)
          have s2 := (H95.out.cell 2).trans (show _ = some (.bool y3) from rfl)
          have s3 := (H95.out.cell 3).trans (show _ = some (.slice Ap np cp) from rfl)
          have s4 := (H95.out.cell 4).trans (show _ = some (.slice Ak nk ck) from rfl)
          have s5 := (H95.out.cell 5).trans (show _ = some (.slice Ar nr cr) from rfl)
          have r0 := (H115.out.cell 0).trans (show _ = some (.string d1) from rfl)
          have r1 := (H115.out.cell 1).trans (show _ = some (.string d2) from rfl)
          have r2 := (H115.out.cell 2).trans (show _ = some (.bool d3) from rfl)
          have r3 := (H115.out.cell 3).trans (show _ = some (.slice Dp mp ep) from rfl)
          have r4 := (H115.out.cell 4).trans (show _ = some (.slice Dk mk ek) from rfl)
          have r5 := (H115.out.cell 5).trans (show _ = some (.slice Dr mr er) from rfl)
          go_wp2_with fail
          clear s0 r0 s1 r1 s2 r2 s3 r3 s4 r4 s5 r5
          refine HSC.out.mono ?_
          rintro e w6 ⟨rfl, hb6⟩
          have HB6 := Lib.hid (HB5.out.after hb6)
          have HY6 := Lib.hid (conOK.after HY5.out hb6)
          have H96 := Lib.hid (H95.out.after hb6)
          have HV6 := Lib.hid (own_after HV5.out hb6)
          clear hb6 HB5 HY5 H95 H115 HV5 HSC
          have a0 := (HB6.out.a.cell 0).trans (show _ = some (.string x.name) from rfl)
          have a1 := (HB6.out.a.cell 1).trans (show _ = some (.int .i64 x.ver) from rfl)
          have a2 := (HB6.out.a.cell 2).trans (show _ = some (.slice x.U.A x.U.n x.U.c) from rfl)
          have a3 := (HB6.out.a.cell 3).trans (show _ = some (.slice x.C.A x.C.n x.C.c) from rfl)
          have a4 := (HB6.out.a.cell 4).trans (show _ = some (.slice x.N.A x.N.n x.N.c) from rfl)
          have a5 := (HB6.out.a.cell 5).trans (show _ = some (.slice x.Q.A x.Q.n x.Q.c) from rfl)
          have a6 := (HB6.out.a.cell 6).trans (show _ = some (.slice x.E.A x.E.n x.E.c) from rfl)
          have a7 := (HB6.out.a.cell 7).trans (show _ = some (.slice x.T.A x.T.n x.T.c) from rfl)
          have b0 := (HB6.out.b.cell 0).trans (show _ = some (.string z.name) from rfl)
          have b1 := (HB6.out.b.cell 1).trans (show _ = some (.int .i64 z.ver) from rfl)
          have b2 := (HB6.out.b.cell 2).trans (show _ = some (.slice z.U.A z.U.n z.U.c) from rfl)
          have b3 := (HB6.out.b.cell 3).trans (show _ = some (.slice z.C.A z.C.n z.C.c) from rfl)
          have b4 := (HB6.out.b.cell 4).trans (show _ = some (.slice z.N.A z.N.n z.N.c) from rfl)
          have b5 := (HB6.out.b.cell 5).trans (show _ = some (.slice z.Q.A z.Q.n z.Q.c) from rfl)
          have b6 := (HB6.out.b.cell 6).trans (show _ = some (.slice z.E.A z.E.n z.E.c) from rfl)
          have b7 := (HB6.out.b.cell 7).trans (show _ = some (.slice z.T.A z.T.n z.T.c) from rfl)
          go_wp2_with fail
          clear a0 a1 a2 a3 a4 a5 a6 a7 b0 b1 b2 b3 b4 b5 b6 b7
          refine (HN2.out _ HB6.out.bel).mono ?_
          rintro e w7 ⟨v2, rfl, hv2, hb7⟩
          obtain ⟨Nu, cu2, rfl⟩ := own_form hv2
          have HB7 := Lib.hid (HB6.out.after hb7)
          have HY7 := Lib.hid (conOK.after HY6.out hb7)
          have H97 := Lib.hid (H96.out.after hb7)
          have HV7 := Lib.hid (own_after HV6.out hb7)
          have HTx : Hid (Calls Try.prog 13 #[.slice Nv NL cv, .slice Nu NV.length cu2] w7 (Ret w7 (.bool true))) := Lib.hid (by
            have r1 := own_row HV7.out
            have r2 := own_row hv2
            rw [encs_str] at r1 r2
            have := refTexts_any w7 _ _ _ _ _ _ _ _ _ _ _ _ r1 r2
            rw [texts_refl] at this
            exact drew_ret this)
          clear hb7 HB6 HY6 H96 HV6 hv2
          go_wp2_with fail
          refine HTx.out.mono ?_
          rintro e w8 ⟨rfl, hb8⟩
          have HB8 := Lib.hid (HB7.out.after hb8)
          have HY8 := Lib.hid (conOK.after HY7.out hb8)
          have H98 := Lib.hid (H97.out.after hb8)
          have HV8 := Lib.hid (own_after HV7.out hb8)
          clear hb8 HB7 HY7 H97 HV7 HTx
          have a0 := (HB8.out.a.cell 0).trans (show _ = some (.string x.name) from rfl)
          have a1 := (HB8.out.a.cell 1).trans (show _ = some (.int .i64 x.ver) from rfl)
          have a2 := (HB8.out.a.cell 2).trans (show _ = some (.slice x.U.A x.U.n x.U.c) from rfl)
          have a3 := (HB8.out.a.cell 3).trans (show _ = some (.slice x.C.A x.C.n x.C.c) from rfl)
          have a4 := (HB8.out.a.cell 4).trans (show _ = some (.slice x.N.A x.N.n x.N.c) from rfl)
          have a5 := (HB8.out.a.cell 5).trans (show _ = some (.slice x.Q.A x.Q.n x.Q.c) from rfl)
          have a6 := (HB8.out.a.cell 6).trans (show _ = some (.slice x.E.A x.E.n x.E.c) from rfl)
          have a7 := (HB8.out.a.cell 7).trans (show _ = some (.slice x.T.A x.T.n x.T.c) from rfl)
          have b0 := (HB8.out.b.cell 0).trans (show _ = some (.string z.name) from rfl)
          have b1 := (HB8.out.b.cell 1).trans (show _ = some (.int .i64 z.ver) from rfl)
          have b2 := (HB8.out.b.cell 2).trans (show _ = some (.slice z.U.A z.U.n z.U.c) from rfl)
          have b3 := (HB8.out.b.cell 3).trans (show _ = some (.slice z.C.A z.C.n z.C.c) from rfl)
          have b4 := (HB8.out.b.cell 4).trans (show _ = some (.slice z.N.A z.N.n z.N.c) from rfl)
          have b5 := (HB8.out.b.cell 5).trans (show _ = some (.slice z.Q.A z.Q.n z.Q.c) from rfl)
          have b6 := (HB8.out.b.cell 6).trans (show _ = some (.slice z.E.A z.E.n z.E.c) from rfl)
          have b7 := (HB8.out.b.cell 7).trans (show _ = some (.slice z.T.A z.T.n z.T.c) from rfl)
          go_wp2_with fail
          clear a0 a1 a2 a3 a4 a5 a6 a7 b0 b1 b2 b3 b4 b5 b6 b7
          refine (HS.out _ HB8.out.bel).mono ?_
          rintro e w9 ⟨rfl, hb9⟩
          have HB9 := Lib.hid (HB8.out.after hb9)
          have HY9 := Lib.hid (conOK.after HY8.out hb9)
          have H99 := Lib.hid (H98.out.after hb9)
          have HV9 := Lib.hid (own_after HV8.out hb9)
          clear hb9 HB8 HY8 H98 HV8
          have HSP : Hid (SP w W2 gz w3.heap.size x z #[.string y1, .string y2, .bool y3, .slice Ap np cp, .slice Ak nk ck, .slice Ar nr cr] Ap np cp Ak nk ck Ar nr cr Nv NL cv w9) := Lib.hid ⟨HB9.out, H99.out, ⟨_, HY9.out.p⟩, ⟨_, HY9.out.k⟩, ⟨_, HY9.out.r⟩, ⟨_, HV9.out⟩⟩
          clear HB9 HY9 H99 HV9
          obtain ⟨g9, hg9⟩ : ∃ g9, w3.heap.size = g9 := ⟨_, rfl⟩
          rw [hg9] at HSP ⊢
          clear hg9
          go_wp2_with fail
          go_loopw [14] (fun i wq => ∃ k : Nat, i = .int .i64 k ∧ k ≤ np ∧ Hid (SP w W2 gz g9 x z #[.string y1, .string y2, .bool y3, .slice Ap np cp, .slice Ak nk ck, .slice Ar nr cr] Ap np cp Ak nk ck Ar nr cr Nv NL cv wq)) (fun i _ => np - (intOf i).toNat)
          case atStart => exact ⟨0, rfl, Nat.zero_le _, HSP⟩
          case round =>
            obtain ⟨j0, rfl, hj, HQ0⟩ := hrel
            have cq := (HQ0.out.c.cell 3).trans (show _ = some (Value.slice Ap np cp) from rfl)
            by_cases hlj : j0 < np
            · obtain ⟨g, rfl, _, hgl, hnc, hcm⟩ := HQ0.out.p.some_ (by omega)
              unfold maxLen at hcm
              obtain ⟨⟨v0, hv0⟩, hfz, hs2⟩ := HQ0.out.p_ hlj (.string ⟨#[115, 112, 111, 105, 108, 116]⟩)
              have HS2 := Lib.hid hs2
              clear hs2
              go_wp2_with fail
              go_roundw
              case rel => exact ⟨j0 + 1, by go_num, by omega, HS2⟩
              case measure => simp [intOf]; omega
            · have hdone := hlj
              go_wp2_with fail
              go_loopw [15] (fun i wq => ∃ k : Nat, i = .int .i64 k ∧ k ≤ nk ∧ Hid (SP w W2 gz g9 x z #[.string y1, .string y2, .bool y3, .slice Ap np cp, .slice Ak nk ck, .slice Ar nr cr] Ap np cp Ak nk ck Ar nr cr Nv NL cv wq)) (fun i _ => nk - (intOf i).toNat)
              case atStart => exact ⟨0, rfl, Nat.zero_le _, HQ0⟩
              case round =>
                obtain ⟨j1, rfl, hj, HQ1⟩ := hrel
                have cq := (HQ1.out.c.cell 4).trans (show _ = some (Value.slice Ak nk ck) from rfl)
                by_cases hlj : j1 < nk
                · obtain ⟨g, rfl, _, hgl, hnc, hcm⟩ := HQ1.out.k.some_ (by omega)
                  unfold maxLen at hcm
                  obtain ⟨⟨v0, hv0⟩, hfz, hs2⟩ := HQ1.out.k_ hlj (.string ⟨#[115, 112, 111, 105, 108, 116]⟩)
                  have HS2 := Lib.hid hs2
                  clear hs2
                  go_wp2_with fail
                  go_roundw
                  case rel => exact ⟨j1 + 1, by go_num, by omega, HS2⟩
                  case measure => simp [intOf]; omega
                · have hdone := hlj
                  go_wp2_with fail
                  go_loopw [16] (fun i wq => ∃ k : Nat, i = .int .i64 k ∧ k ≤ nr ∧ Hid (SP w W2 gz g9 x z #[.string y1, .string y2, .bool y3, .slice Ap np cp, .slice Ak nk ck, .slice Ar nr cr] Ap np cp Ak nk ck Ar nr cr Nv NL cv wq)) (fun i _ => nr - (intOf i).toNat)
                  case atStart => exact ⟨0, rfl, Nat.zero_le _, HQ1⟩
                  case round =>
                    obtain ⟨j2, rfl, hj, HQ2⟩ := hrel
                    have cq := (HQ2.out.c.cell 5).trans (show _ = some (Value.slice Ar nr cr) from rfl)
                    by_cases hlj : j2 < nr
                    · obtain ⟨g, rfl, _, hgl, hnc, hcm⟩ := HQ2.out.r.some_ (by omega)
                      unfold maxLen at hcm
                      obtain ⟨⟨v0, hv0⟩, hfz, hs2⟩ := HQ2.out.r_ hlj (.string ⟨#[115, 112, 111, 105, 108, 116]⟩)
                      have HS2 := Lib.hid hs2
                      clear hs2
                      go_wp2_with fail
                      go_roundw
                      case rel => exact ⟨j2 + 1, by go_num, by omega, HS2⟩
                      case measure => simp [intOf]; omega
                    · have hdone := hlj
                      go_wp2_with fail
                      go_loopw [17] (fun i wq => ∃ k : Nat, i = .int .i64 k ∧ k ≤ NL ∧ Hid (SP w W2 gz g9 x z #[.string y1, .string y2, .bool y3, .slice Ap np cp, .slice Ak nk ck, .slice Ar nr cr] Ap np cp Ak nk ck Ar nr cr Nv NL cv wq)) (fun i _ => NL - (intOf i).toNat)
                      case atStart => exact ⟨0, rfl, Nat.zero_le _, HQ2⟩
                      case round =>
                        obtain ⟨j3, rfl, hj, HQ3⟩ := hrel
                        by_cases hlj : j3 < NL
                        · obtain ⟨g, rfl, _, hgl, hnc, hcm⟩ := HQ3.out.n.some_ (by omega)
                          unfold maxLen at hcm
                          obtain ⟨⟨v0, hv0⟩, hfz, hs2⟩ := HQ3.out.n_ hlj (.string ⟨#[115, 112, 111, 105, 108, 116]⟩)
                          have HS2 := Lib.hid hs2
                          clear hs2
                          rw [Nat.mul_one] at hv0 hfz HS2
                          go_wp2_with fail
                          go_roundw
                          case rel => exact ⟨j3 + 1, by go_num, by omega, HS2⟩
                          case measure => simp [intOf]; omega
                        · have hdone := hlj
                          go_wp2_with fail
                          go_roundw
                          case rel => exact ⟨k + 1, by go_num, by omega, Lib.hid HQ3.out.t⟩
                          case measure => simp [intOf]; omega
        · have a0 := (HB.out.a.cell 0).trans (show _ = some (.string x.name) from rfl)
          have a1 := (HB.out.a.cell 1).trans (show _ = some (.int .i64 x.ver) from rfl)
          have a2 := (HB.out.a.cell 2).trans (show _ = some (.slice x.U.A x.U.n x.U.c) from rfl)
          have a3 := (HB.out.a.cell 3).trans (show _ = some (.slice x.C.A x.C.n x.C.c) from rfl)
          have a4 := (HB.out.a.cell 4).trans (show _ = some (.slice x.N.A x.N.n x.N.c) from rfl)
          have a5 := (HB.out.a.cell 5).trans (show _ = some (.slice x.Q.A x.Q.n x.Q.c) from rfl)
          have a6 := (HB.out.a.cell 6).trans (show _ = some (.slice x.E.A x.E.n x.E.c) from rfl)
          have a7 := (HB.out.a.cell 7).trans (show _ = some (.slice x.T.A x.T.n x.T.c) from rfl)
          have b0 := (HB.out.b.cell 0).trans (show _ = some (.string z.name) from rfl)
          have b1 := (HB.out.b.cell 1).trans (show _ = some (.int .i64 z.ver) from rfl)
          have b2 := (HB.out.b.cell 2).trans (show _ = some (.slice z.U.A z.U.n z.U.c) from rfl)
          have b3 := (HB.out.b.cell 3).trans (show _ = some (.slice z.C.A z.C.n z.C.c) from rfl)
          have b4 := (HB.out.b.cell 4).trans (show _ = some (.slice z.N.A z.N.n z.N.c) from rfl)
          have b5 := (HB.out.b.cell 5).trans (show _ = some (.slice z.Q.A z.Q.n z.Q.c) from rfl)
          have b6 := (HB.out.b.cell 6).trans (show _ = some (.slice z.E.A z.E.n z.E.c) from rfl)
          have b7 := (HB.out.b.cell 7).trans (show _ = some (.slice z.T.A z.T.n z.T.c) from rfl)
          go_wp2_with (first | (go_at_call 7; go_must (refine (HS.out _ HB.out.bel).mono ?_; rintro e w3 ⟨rfl, hb3⟩; have HB3 := Lib.hid (HB.out.after hb3); clear hb3)) | (go_at_call 15; go_must (refine (HP.out _ HB3.out.bel).mono ?_; rintro e w4 ⟨rfl, hb4⟩; have HB4 := Lib.hid (HB3.out.after hb4); clear hb4)) | (go_at_call 16; go_must (refine (HR.out _ HB4.out.bel).mono ?_; rintro e w5 ⟨rfl, hb5⟩; have HB5 := Lib.hid (HB4.out.after hb5); clear hb5)))
          go_ret
          exact ⟨by first | rfl | (simp; done), (HL.out _ HB5.out.bel).2.2.2⟩
end Go.Proofs.Ytbnjblejbnapgaa
namespace Go.Proofs.Ytbnjblejbnapgaa
open Go Go.RowKit Go.Sort Go.ChangeShapes Go.WideShapes Go.Deep Go.Joins
set_option linter.unusedVariables false
theorem cell_spot {w : World} {a : Addr} {u : Value} (h : w.cell? a = some u) : a.spot = none := by
  unfold World.cell? at h
  split at h
  · split at h
    · cases h
    · rename_i hs
      cases ha : a.spot with
      | none => rfl
      | some k => rw [ha] at hs; simp at hs
  · cases h
theorem add_zero_ (a : Addr) : a.add 0 = a := by unfold Addr.add; simp
theorem addr_plain {a : Addr} (h : a.spot = none) : a = ⟨a.block, a.off, none⟩ := by
  obtain ⟨b, o, s⟩ := a
  obtain rfl : s = none := h
  rfl
/-- cells of an own kind, by the elements' index -/
theorem flat_cells {α : Type} {w : World} {f : α → List Value} {s : Nat} (hs : ∀ a, (f a).length = s) (h0 : 0 < s) (l : List α) (a : Addr)
    (h : ∀ i p, l[i]? = some p → ∀ r u, (f p)[r]? = some u → w.cell? (a.add (i * s + r)) = some u) : ∀ j u, (l.flatMap f)[j]? = some u → w.cell? (a.add j) = some u := by
  intro j u hj
  have hl : j < l.length * s := by rw [← flatN_len hs l]; exact (List.getElem?_eq_some_iff.1 hj).1
  have hd : j / s < l.length := Nat.div_lt_of_lt_mul (by rwa [Nat.mul_comm] at hl)
  have hr : j % s < s := Nat.mod_lt _ h0
  have he : j / s * s + j % s = j := by rw [Nat.mul_comm]; exact Nat.div_add_mod j s
  have hp : l[j / s]? = some l[j / s] := List.getElem?_eq_getElem hd
  have := h (j / s) _ hp (j % s) u (by rw [← flatN_get hs l (j / s) _ hp _ hr, he]; exact hj)
  rwa [he] at this
theorem row_of {w : World} {base n c size : Nat} {a : Addr} {xs : List Value} (hlen : xs.length = n * size) (h0 : 0 < size) (hn : n ≤ c) (hm : c ≤ maxLen) (hb : base ≤ a.block)
    (hc : ∀ j u, xs[j]? = some u → w.cell? (a.add j) = some u) : Row w base w.heap.size size (some a) n c xs := by
  refine ⟨hlen, hn, hm, fun hp => ?_⟩
  have hl : 0 < xs.length := by rw [hlen]; exact Nat.mul_pos hp h0
  have h1 := hc 0 _ (List.getElem?_eq_getElem hl)
  rw [add_zero_] at h1
  have ha := addr_plain (cell_spot h1)
  have hlt := block_lt_of_cell h1
  refine ⟨a.block, a.off, by rw [← ha], hb, hlt, fun j u hu => ?_⟩
  · have := hc j u hu
    rw [ha, Addr.add_lit] at this; exact this
section
variable {H : Type}
theorem bulk_pos (d : DataW H) : 1 ≤ Rows.uptoBulk d := by unfold Rows.uptoBulk; split <;> omega
theorem bulk_len : ∀ (l : List (DataW H)), l.length ≤ Rows.uptoBulkAll l
  | [] => Nat.zero_le _
  | x :: r => by
    rw [Rows.uptoBulkAll, List.length_cons]
    have := bulk_len r
    have := bulk_pos x
    omega
end
section
variable {H : Type} {enc : TypeId × Value → H} {w : World} {base : Nat} {spare : Nat → Bool} {held : Bool}
theorem spare_le {spare : Nat → Bool} {b len cap m : Nat} (hl : len ≤ cap) (hm : m = (if spare b then cap else len)) : len ≤ m := by rw [hm]; split <;> omega
instance ndLeafInhabited : Inhabited (Nd × Leaf) := ⟨(⟨0, ByteArray.empty, 0, ByteArray.empty, [], [], []⟩, ⟨⟨none, 0, 0⟩, ⟨none, 0, 0⟩, ⟨none, 0, 0⟩⟩)⟩
end
section
variable {H : Type} {enc : TypeId × Value → H} {P : Program}
/-- what the row asks behind the call, where all that was there before lies as it lay: the same readings again -/
theorem post_read {f : Func} {s : ChangeSpec} {W W' : World} {args : Array Value} {v : Value} {ds gs : List (DataW H)} {before q : List MemPlace} (hW : DataW.Whole enc P f.params.toList s.vars false W args.toList ds gs before)
    (hres : DataW.TrodAll enc P W' W.heap.size (fun _ => false) false f.resultTypes.toList (v.resultList f.resultTypes.size) (s.fn H (ds ++ gs)).results [])
    (hargs : DataW.TrodAll enc P W' 0 (fun b => decide (b < W.heap.size)) true f.params.toList args.toList (s.fn H (ds ++ gs)).args q)
    (hvars : DataW.TrodVars enc P W' (fun b => decide (b < W.heap.size)) s.vars (s.fn H (ds ++ gs)).vars []) (hb : Below W.heap.size W W') :
    s.post enc P f false true false false W args v W' :=
  ⟨ds, gs, before, [], q, [], hW, hres, hargs, hvars, hb.frame _, fun h => by cases h⟩
end
end Go.Proofs.Ytbnjblejbnapgaa

/-
  WALKS: the document: a language in memory of its own.
-/
import Derived.Test.YtilemieknfdjnaaGreatZ7
namespace Go.Proofs.YtilemieknfdjnaaGreat
open Go Go.RowKit Go.Sort
set_option linter.unusedVariables false
attribute [local go_sem ↓] Go.wp_at_zero Go.wp_at_succ
/-- how great the parts of a language may be that is made anew -/
structure Fit4 (x : LangM) : Prop where
  u : x.us.length ≤ 20000
  n : x.ru.length ≤ 20000
  c : x.cs.length ≤ 20000
  q : x.qs.length ≤ 20000
  e : x.es.length ≤ 20000
  t : x.ts.length ≤ 20000
  cs : ∀ g ∈ x.cs, g.1.props.length ≤ 20000 ∧ g.1.kids.length ≤ 20000 ∧ g.1.refs.length ≤ 20000
  qs : ∀ g ∈ x.qs, g.ls.length ≤ 20000 ∧ g.rs.length ≤ 20000 ∧ (∀ p ∈ g.ls, p.1.args.length * 8 ≤ 140737488355328) ∧ ∀ p ∈ g.rs, p.1.args.length * 8 ≤ 140737488355328
  es : ∀ g ∈ x.es, g.1.cells.length ≤ 20000
  ts : ∀ g ∈ x.ts, g.1.cells.length ≤ 20000
theorem below_of_alloc {X : World} (o : Obj) : Below X.heap.size X (X.alloc o) := below_more (Below.refl _ _) _
/-- the blocks between two numbers are the same -/
def SameB (lo hi : Nat) (w w' : World) : Prop := ∀ g, lo ≤ g → g < hi → w'.heap[g]? = w.heap[g]?
theorem SameB.of_below {lo hi : Nat} {w w' : World} (h : Below hi w w') : SameB lo hi w w' := fun g _ hg => h.block g hg
theorem SameB.of_set {lo hi N i : Nat} {w : World} {u : Value} (h : N < lo) : SameB lo hi w (w.setCell ⟨N, i, none⟩ u) := fun g hl _ => Below.heap_setCell w ⟨N, i, none⟩ u g (by show g ≠ N; omega)
theorem SameB.trans {lo hi : Nat} {w w' w'' : World} (h : SameB lo hi w w') (h' : SameB lo hi w' w'') : SameB lo hi w w'' := fun g h1 h2 => (h' g h1 h2).trans (h g h1 h2)
theorem SameB.from_ {lo lo' hi : Nat} {w w' : World} (h : SameB lo hi w w') (hl : lo ≤ lo') : SameB lo' hi w w' := fun g h1 h2 => h g (Nat.le_trans hl h1) h2
theorem SameB.less {lo hi hi' : Nat} {w w' : World} (h : SameB lo hi w w') (hh : hi' ≤ hi) : SameB lo hi' w w' := fun g h1 h2 => h g h1 (by omega)
/-- what was so of own memory in an elder world, whose blocks are the same since -/
def OwnF (F : World → Prop) (B : Nat) (X : World) (hi : Nat) : Prop := ∃ X0 : World, X0.heap.size ≤ hi ∧ F X0 ∧ SameB B X0.heap.size X0 X
theorem OwnF.same {F : World → Prop} {B hi : Nat} {X X' : World} (h : OwnF F B X hi) (hk : SameB B hi X X') : OwnF F B X' hi := let ⟨X0, h1, h2, h3⟩ := h; ⟨X0, h1, h2, h3.trans (hk.less h1)⟩
theorem OwnF.mono {F : World → Prop} {B hi hi' : Nat} {X : World} (h : OwnF F B X hi) (_ : B ≤ B) (hh : hi ≤ hi') : OwnF F B X hi' := let ⟨X0, h1, h2, h3⟩ := h; ⟨X0, Nat.le_trans h1 hh, h2, h3⟩
theorem own_sameB {w w' : World} {B size n : Nat} {e : TypeId} {v : Value} {xs : List Value} (h : w.ownsRow B e size v n xs) (hk : SameB B w.heap.size w w') : w'.ownsRow B e size v n xs := by
  refine ⟨h.1, ?_⟩
  rcases h.2 with hn | ⟨g, cap, cur, rfl, hbg, hgg, rest⟩
  · exact .inl hn
  · refine .inr ⟨g, cap, cur, rfl, hbg, ?_, rest⟩
    rw [hk g hbg (Array.getElem?_eq_some_iff.1 hgg).1]
    exact hgg
theorem OwnF.own {B size n hi : Nat} {e : TypeId} {v : Value} {xs : List Value} {X : World} (h : OwnF (fun Z => Z.ownsRow B e size v n xs) B X hi) : X.ownsRow B e size v n xs := let ⟨_, _, h2, h3⟩ := h; own_sameB h2 h3
/-- parts that are the same as long as their blocks are -/
def OwnS2 {γ : Type} (O : World → Nat → γ → Prop) : Prop := ∀ {w w' : World} {B : Nat} {g : γ}, O w B g → SameB B w.heap.size w w' → O w' B g
theorem conS2 : OwnS2 ConOwn := fun h hk => ⟨h.pn, h.kn, h.rn, own_sameB h.p hk, own_sameB h.k hk, own_sameB h.r hk⟩
theorem eqS2 : OwnS2 EqOwn := fun h hk => ⟨⟨h.l.n, own_sameB h.l.own hk, fun p hp => ⟨(h.l.leaf p hp).1, own_sameB (h.l.leaf p hp).2 hk⟩⟩, ⟨h.r.n, own_sameB h.r.own hk, fun p hp => ⟨(h.r.leaf p hp).1, own_sameB (h.r.leaf p hp).2 hk⟩⟩⟩
theorem rowS2 {T : TypeId} : OwnS2 (RowOwn T) := fun h hk => ⟨h.qn, own_sameB h.q hk⟩
theorem OwnF.gl {γ : Type} {C : γ → List Value} {O : World → Nat → γ → Prop} {T : TypeId} {size B hi : Nat} {ov : Value} {l : List γ} {X : World} (h : OwnF (GL C O T size B ov l) B X hi) (hO : OwnS2 O) : GL C O T size B ov l X :=
  let ⟨_, _, h2, h3⟩ := h; ⟨⟨own_sameB h2.own h3, fun g hg => hO (h2.leaf g hg) h3⟩, List.Pairwise.imp (fun ⟨k, h0, h1, h4⟩ => ⟨k, h0, h1, hO h4 (h3.from_ h0)⟩) h2.ap⟩
theorem GL.monoB {γ : Type} {C : γ → List Value} {O : World → Nat → γ → Prop} {T : TypeId} {size B B' : Nat} {ov : Value} {l : List γ} {X : World} (h : GL C O T size B ov l X) (hO : OwnK O T) (hB : B' ≤ B) : GL C O T size B' ov l X := ⟨⟨own_mono h.own hB, fun g hg => hO.mono (h.leaf g hg) hB⟩, h.ap.monoB hB⟩
/-- each list of a language lies in own memory from B on, its parts' lists too -/
structure TwinOwn (X : World) (B : Nat) (y : LangM) : Prop where
  u : X.ownsRow B 9 1 (.slice y.U.A y.U.n y.U.c) y.U.n (strCells y.us)
  n : X.ownsRow B 49 4 (.slice y.N.A y.N.n y.N.c) y.N.n (ruCells y.ru)
  c : GL conC ConOwn 47 6 B (.slice y.C.A y.C.n y.C.c) y.cs X
  q : GL eqC EqOwn 52 3 B (.slice y.Q.A y.Q.n y.Q.c) y.qs X
  e : GL rowC (RowOwn 74) 55 2 B (.slice y.E.A y.E.n y.E.c) y.es X
  t : GL rowC (RowOwn 77) 58 2 B (.slice y.T.A y.T.n y.T.c) y.ts X
def TwinPost5 (w : World) (x : LangM) (e : Ending) (w' : World) : Prop := ∃ y : LangM, e = .returned (.agg #[.string y.name, .int .i64 y.ver, .slice y.U.A y.U.n y.U.c, .slice y.C.A y.C.n y.C.c, .slice y.N.A y.N.n y.N.c, .slice y.Q.A y.Q.n y.Q.c, .slice y.E.A y.E.n y.E.c, .slice y.T.A y.T.n y.T.c]) ∧ LangIn w' 0 w'.heap.size y ∧ langEM x y = true ∧ Below w.heap.size w w' ∧ TwinOwn w' (w.heap.size + 2) y
set_option maxRecDepth 100000 in
set_option maxHeartbeats 12800000 in
theorem twin5_any (w : World) (hi : Nat) (x : LangM) (h : LangIn w 0 hi x) (hh : hi ≤ w.heap.size) (hf : Fit4 x) :
    Calls Tryz.prog 11 #[.agg #[.string x.name, .int .i64 x.ver, .slice x.U.A x.U.n x.U.c, .slice x.C.A x.C.n x.C.c, .slice x.N.A x.N.n x.N.c, .slice x.Q.A x.Q.n x.Q.c, .slice x.E.A x.E.n x.E.c, .slice x.T.A x.T.n x.T.c]] w (TwinPost5 w x) := by
  obtain ⟨nm1, vr1, ⟨Au1, nu1, cu1⟩, us1, ⟨Ac1, nc1, cc1⟩, cs1, ⟨An1, nn1, cn1⟩, ru1, ⟨Aq1, nq1, cq1⟩, qs1, ⟨Ae1, ne1, ce1⟩, es1, ⟨At1, nt1, ct1⟩, ts1⟩ := x
  obtain ⟨iun1, iu1, ic1, inn1, in1, iq1, ie1, it1⟩ := h
  obtain ⟨fu, fn, fc, fq, fe, ft, fcs, fqs, fes, fts⟩ := hf
  simp only at iun1 iu1 ic1 inn1 in1 iq1 ie1 it1 fu fn fc fq fe ft fcs fqs fes fts ⊢
  have HQ0 : Hid (B2 w 29 #[.string nm1, .int .i64 vr1, .slice Au1 nu1 cu1, .slice Ac1 nc1 cc1, .slice An1 nn1 cn1, .slice Aq1 nq1 cq1, .slice Ae1 ne1 ce1, .slice At1 nt1 ct1] #[.string ⟨#[]⟩, .int .i64 0, .slice none 0 0, .slice none 0 0, .slice none 0 0, .slice none 0 0, .slice none 0 0, .slice none 0 0] ((w.alloc (.cells #[.string nm1, .int .i64 vr1, .slice Au1 nu1 cu1, .slice Ac1 nc1 cc1, .slice An1 nn1 cn1, .slice Aq1 nq1 cq1, .slice Ae1 ne1 ce1, .slice At1 nt1 ct1] 29)).alloc (.cells #[.string ⟨#[]⟩, .int .i64 0, .slice none 0 0, .slice none 0 0, .slice none 0 0, .slice none 0 0, .slice none 0 0, .slice none 0 0] 29))) := Lib.hid (B2.start _ _ _ _)
  have F1 := Lib.hid iu1
  have F2 := Lib.hid in1
  have b1 : nu1 ≤ 20000 := by omega
  have b2 : nn1 ≤ 20000 := by omega
  have HN1 := Lib.hid iun1
  have HN2 := Lib.hid inn1
  have HIc := Lib.hid ic1
  have HLc := Lib.hid ic1.n
  have zc := ic1.row.2.2.1
  have yc := ic1.row.2.1
  have bc := ic1.n
  have HSc := Lib.hid fcs
  have HIq := Lib.hid iq1
  have HLq := Lib.hid iq1.n
  have zq := iq1.row.2.2.1
  have yq := iq1.row.2.1
  have bq := iq1.n
  have HSq := Lib.hid fqs
  have HIe := Lib.hid ie1
  have HLe := Lib.hid ie1.n
  have ze := ie1.row.2.2.1
  have ye := ie1.row.2.1
  have be := ie1.n
  have HSe := Lib.hid fes
  have HIt := Lib.hid it1
  have HLt := Lib.hid it1.n
  have zt := it1.row.2.2.1
  have yt := it1.row.2.1
  have bt := it1.n
  have HSt := Lib.hid fts
  simp only at HLc zc yc bc HLq zq yq bq HLe ze ye be HLt zt yt bt
  unfold maxLen at zc zq ze zt
  have limc : nc1 ≤ 20000 := by omega
  have limq : nq1 ≤ 20000 := by omega
  have lime : ne1 ≤ 20000 := by omega
  have limt : nt1 ≤ 20000 := by omega
  clear iun1 iu1 ic1 inn1 in1 iq1 ie1 it1 fu fn fc fq fe ft fcs fqs fes fts bc bq be bt
  obtain ⟨i1, hi1, hz1, hs1, hb1⟩ := info_parts info_str
  obtain ⟨i2, hi2, hz2, hs2, hb2⟩ := info_parts info_ru
  obtain ⟨i3, hi3, hz3, hs3, hb3⟩ := info_parts info_con
  obtain ⟨i4, hi4, hz4, hs4, hb4⟩ := info_parts info_eq
  obtain ⟨i5, hi5, hz5, hs5, hb5⟩ := info_parts info_ed
  obtain ⟨i6, hi6, hz6, hs6, hb6⟩ := info_parts info_te
  obtain ⟨i7, hi7, hz7, hs7, hb7⟩ := info_parts info_ce
  obtain ⟨i8, hi8, hz8, hs8, hb8⟩ := info_parts info_pi
  go_enter Tryz.func11, Tryz.ntmps11
  go_wp2_with (first | (at_builtin; with_reducible show wpList _ _ _ (⟨some 14, _, _, _, _, _⟩ :: _) _ _; go_must (refine wpList_app (o := ⟨some 14, _, _, _, _, _⟩) _ rfl (.tmp 11) (.tmp 13) _ rfl (w.heap.size + 2) 9 i1 _ 1 16 Tryz.underlying22 hi1 hz1 hs1 hb1 rfl (by omega) _ 0 [] rfl (own_emptyB (size := 1) (e := 9) (B := w.heap.size + 2) (Blk.new' (by simp)) (Nat.le_trans HQ0.out.size (Nat.le_of_eq (by simp)))) 0 hi Au1 nu1 cu1 (strCells us1) rfl (Row.below F1.out ((HQ0.out.bel.trans ((below_more (Below.refl _ _) _).mono HQ0.out.bel.size)).mono hh)) (strCells_one _) (by unfold maxLen; omega) (by omega) (Nat.le_trans HQ0.out.size (by simp)) ?_); go_must (intro v1 w1 hown1 hgr1 _; rw [Nat.zero_add, List.nil_append] at hown1; obtain ⟨A1, c1, rfl⟩ := own_form hown1; have hR1 := (HQ0.out.after (below_more (Below.refl _ _) _)).kept (own_emptyB (size := 1) (e := 9) (B := w.heap.size) (Blk.new' (by simp)) (Nat.le_trans HQ0.out.bel.size (Nat.le_of_eq (by simp)))) (by decide) hgr1; have HO1_1 := Lib.hid (own_other hown1 hR1.a (by decide) 2 (.slice A1 nu1 c1)); have x1 := hR1.a.cell 2; have y1 := hR1.a.frozen 2; simp at x1; have hq1 := hR1.set 2 (.slice A1 nu1 c1); have p1 : ((w1.setCell ⟨w.heap.size, 2, none⟩ (.slice A1 nu1 c1)).alloc (.cells #[] 49)).cell? ⟨w.heap.size, 4, none⟩ = some (.slice An1 nn1 cn1) := ((hq1.after (below_more (Below.refl _ _) _)).a.cell 4).trans rfl; have HQ1 := Lib.hid hq1; clear hq1 hR1 hown1 hgr1)) | (at_builtin; with_reducible show wpList _ _ _ (⟨some 19, _, _, _, _, _⟩ :: _) _ _; go_must (refine wpList_app (o := ⟨some 19, _, _, _, _, _⟩) _ rfl (.tmp 16) (.tmp 18) _ rfl (w.heap.size + 2) 49 i2 _ 4 56 Tryz.underlying24 hi2 hz2 hs2 hb2 rfl (by omega) _ 0 [] rfl (own_emptyB (size := 4) (e := 49) (B := w.heap.size + 2) (Blk.new' (by simp)) (Nat.le_trans HQ1.out.size (Nat.le_of_eq (by simp)))) 0 hi An1 nn1 cn1 (ruCells ru1) rfl (Row.below F2.out ((HQ1.out.bel.trans ((below_more (Below.refl _ _) _).mono HQ1.out.bel.size)).mono hh)) (ruCells_one _) (by unfold maxLen; omega) (by omega) (Nat.le_trans HQ1.out.size (by simp)) ?_); go_must (intro v2 w2 hown2 hgr2 _; rw [Nat.zero_add, List.nil_append] at hown2; obtain ⟨A2, c2, rfl⟩ := own_form hown2; have hR2 := (HQ1.out.after (below_more (Below.refl _ _) _)).kept (own_emptyB (size := 4) (e := 49) (B := w.heap.size) (Blk.new' (by simp)) (Nat.le_trans HQ1.out.bel.size (Nat.le_of_eq (by simp)))) (by decide) hgr2; have HO1_2 := Lib.hid (own_other (own_kept (own_after HO1_1.out (below_more (Below.refl _ _) _)) (own_emptyB (size := 4) (e := 49) (B := w.heap.size + 2) (Blk.new' (by simp)) (Nat.le_trans HQ1.out.size (Nat.le_of_eq (by simp)))) (by decide) hgr2) hR2.a (by decide) 4 (.slice A2 nn1 c2)); have HO2_2 := Lib.hid (own_other hown2 hR2.a (by decide) 4 (.slice A2 nn1 c2)); have x2 := hR2.a.cell 4; have y2 := hR2.a.frozen 4; simp at x2; have hq2 := hR2.set 4 (.slice A2 nn1 c2); have p3 := (hq2.a.cell 3).trans (show _ = some (.slice Ac1 nc1 cc1) from rfl); have HQ2 := Lib.hid hq2; clear hq2 hR2 hown2 hgr2)))
  have HW : Hid (B2 w 29 #[.string nm1, .int .i64 vr1, .slice A1 nu1 c1, .slice Ac1 nc1 cc1, .slice A2 nn1 c2, .slice Aq1 nq1 cq1, .slice Ae1 ne1 ce1, .slice At1 nt1 ct1] #[.string ⟨#[]⟩, .int .i64 0, .slice none 0 0, .slice none 0 0, .slice none 0 0, .slice none 0 0, .slice none 0 0, .slice none 0 0] (w2.setCell ⟨w.heap.size, 4, none⟩ (.slice A2 nn1 c2))) := Lib.hid (by simpa using HQ2.out)
  have HF : Hid (Row (w2.setCell ⟨w.heap.size, 4, none⟩ (.slice A2 nn1 c2)) (w.heap.size + 2) (w2.setCell ⟨w.heap.size, 4, none⟩ (.slice A2 nn1 c2)).heap.size 1 A1 nu1 c1 (strCells us1) ∧ Row (w2.setCell ⟨w.heap.size, 4, none⟩ (.slice A2 nn1 c2)) (w.heap.size + 2) (w2.setCell ⟨w.heap.size, 4, none⟩ (.slice A2 nn1 c2)).heap.size 4 A2 nn1 c2 (ruCells ru1) ∧ OwnF (fun Z => Z.ownsRow (w.heap.size + 2) 9 1 (.slice A1 nu1 c1) nu1 (strCells us1)) (w.heap.size + 2) (w2.setCell ⟨w.heap.size, 4, none⟩ (.slice A2 nn1 c2)) (w2.setCell ⟨w.heap.size, 4, none⟩ (.slice A2 nn1 c2)).heap.size ∧ OwnF (fun Z => Z.ownsRow (w.heap.size + 2) 49 4 (.slice A2 nn1 c2) nn1 (ruCells ru1)) (w.heap.size + 2) (w2.setCell ⟨w.heap.size, 4, none⟩ (.slice A2 nn1 c2)) (w2.setCell ⟨w.heap.size, 4, none⟩ (.slice A2 nn1 c2)).heap.size) := Lib.hid ⟨own_row HO1_2.out, own_row HO2_2.out, ⟨_, Nat.le_refl _, HO1_2.out, fun _ _ _ => rfl⟩, ⟨_, Nat.le_refl _, HO2_2.out, fun _ _ _ => rfl⟩⟩
  clear HQ0 HQ1 HQ2 HO1_1 HO1_2 HO2_2 p1 x1 y1 x2 y2
  generalize w2.setCell ⟨w.heap.size, 4, none⟩ (.slice A2 nn1 c2) = X0 at *
  have pf0 := (HW.out.a.cell 3).trans (show _ = some (.slice Ac1 nc1 cc1) from rfl)
  clear pf0
  go_loopw [3, 4] (fun s3 i wr => ∃ (k : Nat) (m : List (ConD × Leaf)) (ov : Value), k ≤ nc1 ∧ i = .int .i64 k ∧ ov = s3 ∧ Hid (Below X0.heap.size X0 wr) ∧ Hid (GL conC ConOwn 47 6 X0.heap.size ov m wr) ∧ Hid (eqL conEM (cs1.take k) m = true)) (fun _ i _ => nc1 - (intOf i).toNat)
  case atStart => exact ⟨0, [], _, Nat.zero_le _, rfl, rfl, Lib.hid (Below.refl _ _), Lib.hid (GL.start _ _ _ _ _ _), Lib.hid rfl⟩
  case round =>
    obtain ⟨k, m, ov, hk, rfl, rfl, HB, HG, HE⟩ := hrel
    have HWr := Lib.hid (HW.out.after HB.out)
    have pf := (HWr.out.a.cell 3).trans (show _ = some (.slice Ac1 nc1 cc1) from rfl)
    have hsz := HWr.out.size
    by_cases hlt : k < nc1
    · obtain ⟨b, o, hA, _, hb, V⟩ := HIc.out.at_ (fun _ => rfl) (show 0 < nc1 by omega)
      simp only at hA
      subst hA
      obtain ⟨x, hx⟩ : ∃ x, cs1[k]? = some x := ⟨cs1[k]'(by have := HLc.out; omega), List.getElem?_eq_getElem _⟩
      obtain ⟨hlf, hat⟩ := V k x hx
      have hbel := HWr.out.bel
      have hwz := hbel.size
      have q0 : wr.cell? ⟨b, o + k * 6, none⟩ = some (.string x.1.name) := (hbel.cell (p := ⟨_, _, none⟩) (show b < w.heap.size by omega)).trans (hat 0 _ (by omega) rfl)
      have q1 : wr.cell? ⟨b, o + k * 6 + 1, none⟩ = some (.string x.1.super) := (hbel.cell (p := ⟨_, _, none⟩) (show b < w.heap.size by omega)).trans (hat 1 _ (by omega) rfl)
      have q2 : wr.cell? ⟨b, o + k * 6 + 2, none⟩ = some (.bool x.1.abs) := (hbel.cell (p := ⟨_, _, none⟩) (show b < w.heap.size by omega)).trans (hat 2 _ (by omega) rfl)
      have q3 : wr.cell? ⟨b, o + k * 6 + 3, none⟩ = some (.slice x.2.p.A x.2.p.n x.2.p.c) := (hbel.cell (p := ⟨_, _, none⟩) (show b < w.heap.size by omega)).trans (hat 3 _ (by omega) rfl)
      have q4 : wr.cell? ⟨b, o + k * 6 + 4, none⟩ = some (.slice x.2.k.A x.2.k.n x.2.k.c) := (hbel.cell (p := ⟨_, _, none⟩) (show b < w.heap.size by omega)).trans (hat 4 _ (by omega) rfl)
      have q5 : wr.cell? ⟨b, o + k * 6 + 5, none⟩ = some (.slice x.2.r.A x.2.r.n x.2.r.c) := (hbel.cell (p := ⟨_, _, none⟩) (show b < w.heap.size by omega)).trans (hat 5 _ (by omega) rfl)
      have hfit := HSc.out x (List.mem_of_getElem? hx)
      have hml : m.length = k := by have h1 := eqL_length HE.out; have h2 := HLc.out; rw [List.length_take] at h1; omega
      have HML := Lib.hid hml
      have HX := Lib.hid hx
      have hC := twinConcept_any wr hi x (conK.below hlf (hbel.mono hh)) (Nat.le_trans hh hwz) hfit.1 hfit.2.1 hfit.2.2
      obtain ⟨x, ⟨⟨Ap, np, cp⟩, ⟨Ak, nk, ck⟩, ⟨Ar, nr, cr⟩⟩⟩ := x
      simp only at hC q0 q1 q2 q3 q4 q5
      have HC := Lib.hid hC
      clear hC hfit hml hx hlf hat V hbel
      go_wp2_with (first | (go_at_call 27; (with_reducible refine HC.out.mono ?_); rintro e v1 ⟨⟨⟨Aa, na, ca⟩, ⟨Ab, nb, cb⟩, ⟨Ad, nd, cd⟩⟩, rfl, ho, hb1⟩; have HO := Lib.hid (ConOwn.mono_ ho HB.out.size); have HOx := Lib.hid ho; have HG1 := Lib.hid (HG.out.after conOK hb1); have HB1 := Lib.hid (HB.out.trans (hb1.mono HB.out.size)); clear ho hb1) | (at_builtin; with_reducible show wpList _ _ _ (⟨some 36, _, _, _, _, _⟩ :: _) _ _; go_must (refine wpList_app (o := ⟨some 36, _, _, _, _, _⟩) _ rfl (.tmp 28) (.tmp 35) _ rfl X0.heap.size 47 i3 _ 6 112 Tryz.underlying23 hi3 hz3 hs3 hb3 rfl (by omega) ov m.length (m.flatMap conC) rfl (HG1.out.after conOK (below_of_alloc _)).own v1.heap.size (v1.heap.size + 1) (some ⟨v1.heap.size, 0, none⟩) 1 1 [.string x.name, .string x.super, .bool x.abs, .slice Aa na ca, .slice Ab nb cb, .slice Ad nd cd] rfl (row_blk (heap_alloc_new v1 _) rfl (Nat.le_refl _) (by unfold maxLen; omega)) (con_one x ⟨⟨Aa, na, ca⟩, ⟨Ab, nb, cb⟩, ⟨Ad, nd, cd⟩⟩) (by have := HML.out; unfold maxLen; omega) (by have := HML.out; omega) (Nat.le_trans HB1.out.size (by simp)) ?_); go_must (intro v2 w3 hown2 hgr2 _; have HB2 := Lib.hid (below_grows (HB1.out.trans ((below_of_alloc _).mono HB1.out.size)) hgr2 (HG1.out.after conOK (below_of_alloc _)).own (Nat.le_refl _)); have HG2 := Lib.hid (GL.push (p := (x, ⟨⟨Aa, na, ca⟩, ⟨Ab, nb, cb⟩, ⟨Ad, nd, cd⟩⟩)) (HG1.out.after conOK (below_of_alloc _)) conOK hgr2 hown2 (conOK.after HO.out (below_of_alloc _)) HB.out.size (fun g hg => conLt (HG.out.leaf g hg)) (conOK.after HOx.out (below_of_alloc _))); clear hown2 hgr2)))
      go_roundw
      case rel => exact ⟨k + 1, m ++ [(x, ⟨⟨Aa, na, ca⟩, ⟨Ab, nb, cb⟩, ⟨Ad, nd, cd⟩⟩)], _, by omega, by go_num, rfl, HB2, HG2, Lib.hid (eqL_take_snoc HE.out HX.out (by simp [conEM, eqL_refl pdE_refl, eqL_refl kdE_refl, eqL_refl rdE_refl]))⟩
      case measure => simp [intOf]; omega
    · have hml : m.length = nc1 := by have h1 := eqL_length HE.out; have h2 := HLc.out; rw [List.length_take] at h1; omega
      have ho : wr.ownsRow X0.heap.size 47 6 ov nc1 (m.flatMap conC) := hml ▸ HG.out.own
      obtain ⟨Lb1, d1, rfl⟩ := own_form ho
      have HGR := Lib.hid (HG.out.toG (P := ConIn) hml.symm (fun _ hg => hg.in_))
      have HGO := Lib.hid (GL.monoB HG.out conOK HW.out.size)
      have HE1 : Hid (eqL conEM cs1 m = true) := Lib.hid (by have h1 := HE.out; rwa [List.take_of_length_le (by have := HLc.out; omega)] at h1)
      have y0 := HWr.out.a.frozen 3
      have HWn : Hid (B2 w 29 #[.string nm1, .int .i64 vr1, .slice A1 nu1 c1, .slice Lb1 nc1 d1, .slice A2 nn1 c2, .slice Aq1 nq1 cq1, .slice Ae1 ne1 ce1, .slice At1 nt1 ct1] #[.string ⟨#[]⟩, .int .i64 0, .slice none 0 0, .slice none 0 0, .slice none 0 0, .slice none 0 0, .slice none 0 0, .slice none 0 0] (wr.setCell ⟨w.heap.size, 3, none⟩ (.slice Lb1 nc1 d1))) := Lib.hid (by simpa using HWr.out.set 3 (.slice Lb1 nc1 d1))
      have HWr0 : w.heap.size + 2 ≤ X0.heap.size := HW.out.size
      generalize m = m1 at HGR HE1 HGO
      have HFn : Hid (Row (wr.setCell ⟨w.heap.size, 3, none⟩ (.slice Lb1 nc1 d1)) (w.heap.size + 2) (wr.setCell ⟨w.heap.size, 3, none⟩ (.slice Lb1 nc1 d1)).heap.size 1 A1 nu1 c1 (strCells us1) ∧ Row (wr.setCell ⟨w.heap.size, 3, none⟩ (.slice Lb1 nc1 d1)) (w.heap.size + 2) (wr.setCell ⟨w.heap.size, 3, none⟩ (.slice Lb1 nc1 d1)).heap.size 4 A2 nn1 c2 (ruCells ru1) ∧ OwnF (fun Z => Z.ownsRow (w.heap.size + 2) 9 1 (.slice A1 nu1 c1) nu1 (strCells us1)) (w.heap.size + 2) (wr.setCell ⟨w.heap.size, 3, none⟩ (.slice Lb1 nc1 d1)) (wr.setCell ⟨w.heap.size, 3, none⟩ (.slice Lb1 nc1 d1)).heap.size ∧ OwnF (fun Z => Z.ownsRow (w.heap.size + 2) 49 4 (.slice A2 nn1 c2) nn1 (ruCells ru1)) (w.heap.size + 2) (wr.setCell ⟨w.heap.size, 3, none⟩ (.slice Lb1 nc1 d1)) (wr.setCell ⟨w.heap.size, 3, none⟩ (.slice Lb1 nc1 d1)).heap.size ∧ GRow conC ConIn 6 (wr.setCell ⟨w.heap.size, 3, none⟩ (.slice Lb1 nc1 d1)) (w.heap.size + 2) (wr.setCell ⟨w.heap.size, 3, none⟩ (.slice Lb1 nc1 d1)).heap.size ⟨Lb1, nc1, d1⟩ m1 ∧ OwnF (GL conC ConOwn 47 6 (w.heap.size + 2) (.slice Lb1 nc1 d1) m1) (w.heap.size + 2) (wr.setCell ⟨w.heap.size, 3, none⟩ (.slice Lb1 nc1 d1)) (wr.setCell ⟨w.heap.size, 3, none⟩ (.slice Lb1 nc1 d1)).heap.size) := Lib.hid ⟨Row.mono (Row.same2 HF.out.1 ((Same2.of_below HB.out).trans (Same2.of_set (Nat.lt_succ_of_lt (Nat.lt_succ_self _))))) (Nat.le_refl _) (by simpa using HB.out.size), Row.mono (Row.same2 HF.out.2.1 ((Same2.of_below HB.out).trans (Same2.of_set (Nat.lt_succ_of_lt (Nat.lt_succ_self _))))) (Nat.le_refl _) (by simpa using HB.out.size), OwnF.mono (OwnF.same HF.out.2.2.1 ((SameB.of_below HB.out).trans (SameB.of_set (Nat.lt_succ_of_lt (Nat.lt_succ_self _))))) (Nat.le_refl _) (by simpa using HB.out.size), OwnF.mono (OwnF.same HF.out.2.2.2 ((SameB.of_below HB.out).trans (SameB.of_set (Nat.lt_succ_of_lt (Nat.lt_succ_self _))))) (Nat.le_refl _) (by simpa using HB.out.size), (by rw [World.size_setCell]; exact (GRow.mono (HGR.out) conK HWr0 (Nat.le_refl _)).same2 conK2 (Same2.of_set (Nat.lt_succ_of_lt (Nat.lt_succ_self w.heap.size)))), ⟨wr, by rw [World.size_setCell]; exact Nat.le_refl _, HGO.out, SameB.of_set (Nat.lt_succ_of_lt (Nat.lt_succ_self w.heap.size))⟩⟩
      clear HW HF HE HGR HGO hml HWr0 ho
      go_wp2_with fail
      have HW := HWn
      have HF := HFn
      clear HWn HFn HB HWr pf hsz hk hlt y0 HG
      generalize wr.setCell ⟨w.heap.size, 3, none⟩ (.slice Lb1 nc1 d1) = X1 at HW HF ⊢
      have pf1 := (HW.out.a.cell 5).trans (show _ = some (.slice Aq1 nq1 cq1) from rfl)
      go_wp2_with fail
      clear pf1
      go_loopw [5, 6] (fun s3 i wr => ∃ (k : Nat) (m : List (EqM)) (ov : Value), k ≤ nq1 ∧ i = .int .i64 k ∧ ov = s3 ∧ Hid (Below X1.heap.size X1 wr) ∧ Hid (GL eqC EqOwn 52 3 X1.heap.size ov m wr) ∧ Hid (eqL eqEM (qs1.take k) m = true)) (fun _ i _ => nq1 - (intOf i).toNat)
      case atStart => exact ⟨0, [], _, Nat.zero_le _, rfl, rfl, Lib.hid (Below.refl _ _), Lib.hid (GL.start _ _ _ _ _ _), Lib.hid rfl⟩
      case round =>
        obtain ⟨k, m, ov, hk, rfl, rfl, HB, HG, HE⟩ := hrel
        have HWr := Lib.hid (HW.out.after HB.out)
        have pf := (HWr.out.a.cell 5).trans (show _ = some (.slice Aq1 nq1 cq1) from rfl)
        have hsz := HWr.out.size
        by_cases hlt : k < nq1
        · obtain ⟨b, o, hA, _, hb, V⟩ := HIq.out.at_ (fun _ => rfl) (show 0 < nq1 by omega)
          simp only at hA
          subst hA
          obtain ⟨x, hx⟩ : ∃ x, qs1[k]? = some x := ⟨qs1[k]'(by have := HLq.out; omega), List.getElem?_eq_getElem _⟩
          obtain ⟨hlf, hat⟩ := V k x hx
          have hbel := HWr.out.bel
          have hwz := hbel.size
          have q0 : wr.cell? ⟨b, o + k * 3, none⟩ = some (.string x.con) := (hbel.cell (p := ⟨_, _, none⟩) (show b < w.heap.size by omega)).trans (hat 0 _ (by omega) rfl)
          have q1 : wr.cell? ⟨b, o + k * 3 + 1, none⟩ = some (.slice x.L.A x.L.n x.L.c) := (hbel.cell (p := ⟨_, _, none⟩) (show b < w.heap.size by omega)).trans (hat 1 _ (by omega) rfl)
          have q2 : wr.cell? ⟨b, o + k * 3 + 2, none⟩ = some (.slice x.R.A x.R.n x.R.c) := (hbel.cell (p := ⟨_, _, none⟩) (show b < w.heap.size by omega)).trans (hat 2 _ (by omega) rfl)
          have hfit := HSq.out x (List.mem_of_getElem? hx)
          have hml : m.length = k := by have h1 := eqL_length HE.out; have h2 := HLq.out; rw [List.length_take] at h1; omega
          have HML := Lib.hid hml
          have HX := Lib.hid hx
          have hlf1 := eqK.below hlf (hbel.mono hh)
          have hC1 : ∀ X, Below wr.heap.size wr X → Calls Tryz.prog 28 #[.slice x.L.A x.L.n x.L.c] X (TwinSidePost X x.ls) := fun X hX => twinSide_any X hi x.L x.ls (GRow.below hlf1.l sideK (hX.mono (by omega))) (by have := hX.size; omega) hfit.1 hfit.2.2.1
          have hC2 : ∀ X, Below wr.heap.size wr X → Calls Tryz.prog 28 #[.slice x.R.A x.R.n x.R.c] X (TwinSidePost X x.rs) := fun X hX => twinSide_any X hi x.R x.rs (GRow.below hlf1.r sideK (hX.mono (by omega))) (by have := hX.size; omega) hfit.2.1 hfit.2.2.2
          obtain ⟨con, ⟨Al, nl, cl⟩, ls, ⟨Ar, nr, cr⟩, rs⟩ := x
          simp only at hC1 hC2 q0 q1 q2
          have HC1 := Lib.hid hC1
          have HC2 := Lib.hid hC2
          clear hC1 hC2 hlf1
          have hbw : b < wr.heap.size := by omega
          have HSo : Hid (∀ X : World, Below wr.heap.size wr X → (X.cell? ⟨w.heap.size, 5, none⟩ = some (.slice (some ⟨b, o, none⟩) nq1 cq1) ∧ X.cell? ⟨b, o + k * 3, none⟩ = some (.string con) ∧ X.cell? ⟨b, o + k * 3 + 1, none⟩ = some (.slice Al nl cl) ∧ X.cell? ⟨b, o + k * 3 + 2, none⟩ = some (.slice Ar nr cr))) := Lib.hid fun X hX => ⟨(hX.cell (p := ⟨_, _, none⟩) (by simp only; omega)).trans pf, (hX.cell (p := ⟨_, _, none⟩) (by simp only; omega)).trans q0, (hX.cell (p := ⟨_, _, none⟩) (by simp only; omega)).trans q1, (hX.cell (p := ⟨_, _, none⟩) (by simp only; omega)).trans q2⟩
          go_upto_region 13 with (fail)
          clear pf q0 q1 q2 hfit hml hx hlf hat V hbel
          have HBz : Hid (Below wr.heap.size wr wr.drew) := Lib.hid (drew1_below _)
          refine wp_region_held_tail 23 (fun X : World => X.cell? ⟨w.heap.size, 5, none⟩ = some (.slice (some ⟨b, o, none⟩) nq1 cq1) ∧ X.cell? ⟨b, o + k * 3, none⟩ = some (.string con) ∧ X.cell? ⟨b, o + k * 3 + 1, none⟩ = some (.slice Al nl cl) ∧ X.cell? ⟨b, o + k * 3 + 2, none⟩ = some (.slice Ar nr cr)) (by kernel_rfl) (by kernel_rfl) ?hSt (fun hHeld => ?qt0)
          case hSt => exact HSo.out _ HBz.out
          case qt0 =>
            generalize wr.drew = wz at HBz hHeld ⊢
            simp only [List.take_succ_cons, List.take_zero, List.drop_succ_cons, List.drop_zero]
            refine wpAnyH_take (i := 0) (v := ov) rfl (by kernel_rfl) (by kernel_rfl) (by kernel_rfl) (fun _ _ _ h => h) (Or.inl ⟨by rfl, ?yeq_1⟩) (by assumption) ?qeq_1
            case yeq_1 => (intro w hSw; (try dsimp only at hSw); go_simp)
            case qeq_1 =>
              (try simp only [Act.put]); (try simp only [List.setIfInBounds_toArray])
              refine wpAnyH_take (i := 1) (v := (.pointer (some ⟨w.heap.size, 5, none⟩))) rfl (by kernel_rfl) (by kernel_rfl) (by kernel_rfl) (fun _ _ _ h => h) (Or.inl ⟨by rfl, ?yeq_2⟩) (by assumption) ?qeq_2
              case yeq_2 => (intro w hSw; (try dsimp only at hSw); go_simp)
              case qeq_2 =>
                (try simp only [Act.put]); (try simp only [List.setIfInBounds_toArray])
                refine wpAnyH_take (i := 2) (v := (.slice (some ⟨b, o, none⟩) nq1 cq1)) rfl (by kernel_rfl) (by kernel_rfl) (by kernel_rfl) (fun _ _ _ h => h) (Or.inl ⟨by rfl, ?yeq_3⟩) (by assumption) ?qeq_3
                case yeq_3 => (intro w hSw; (try dsimp only at hSw); go_simp)
                case qeq_3 =>
                  (try simp only [Act.put]); (try simp only [List.setIfInBounds_toArray])
                  refine wpAnyH_take (i := 3) (v := (.int .i64 k)) rfl (by kernel_rfl) (by kernel_rfl) (by kernel_rfl) (fun _ _ _ h => h) (Or.inl ⟨by rfl, ?yeq_4⟩) (by assumption) ?qeq_4
                  case yeq_4 => (intro w hSw; (try dsimp only at hSw); go_simp)
                  case qeq_4 =>
                    (try simp only [Act.put]); (try simp only [List.setIfInBounds_toArray])
                    refine wpAnyH_take (i := 4) (v := (.pointer (some ⟨b, o + k * 3, none⟩))) rfl (by kernel_rfl) (by kernel_rfl) (by kernel_rfl) (fun _ _ _ h => h) (Or.inl ⟨by rfl, ?yeq_5⟩) (by assumption) ?qeq_5
                    case yeq_5 => (intro w hSw; (try dsimp only at hSw); go_simp)
                    case qeq_5 =>
                      (try simp only [Act.put]); (try simp only [List.setIfInBounds_toArray])
                      refine wpAnyH_take (i := 5) (v := (.pointer (some ⟨b, o + k * 3, none⟩))) rfl (by kernel_rfl) (by kernel_rfl) (by kernel_rfl) (fun _ _ _ h => h) (Or.inl ⟨by rfl, ?yeq_6⟩) (by assumption) ?qeq_6
                      case yeq_6 => (intro w hSw; (try dsimp only at hSw); go_simp)
                      case qeq_6 =>
                        (try simp only [Act.put]); (try simp only [List.setIfInBounds_toArray])
                        refine wpAnyH_take (i := 6) (v := (.string con)) rfl (by kernel_rfl) (by kernel_rfl) (by kernel_rfl) (fun _ _ _ h => h) (Or.inl ⟨by rfl, ?yeq_7⟩) (by assumption) ?qeq_7
                        case yeq_7 => (intro w hSw; (try dsimp only at hSw); go_simp)
                        case qeq_7 =>
                          (try simp only [Act.put]); (try simp only [List.setIfInBounds_toArray])
                          refine wpAnyH_take (i := 7) (v := (.pointer (some ⟨w.heap.size, 5, none⟩))) rfl (by kernel_rfl) (by kernel_rfl) (by kernel_rfl) (fun _ _ _ h => h) (Or.inl ⟨by rfl, ?yeq_8⟩) (by assumption) ?qeq_8
                          case yeq_8 => (intro w hSw; (try dsimp only at hSw); go_simp)
                          case qeq_8 =>
                            (try simp only [Act.put]); (try simp only [List.setIfInBounds_toArray])
                            refine wpAnyH_take (i := 8) (v := (.slice (some ⟨b, o, none⟩) nq1 cq1)) rfl (by kernel_rfl) (by kernel_rfl) (by kernel_rfl) (fun _ _ _ h => h) (Or.inl ⟨by rfl, ?yeq_9⟩) (by assumption) ?qeq_9
                            case yeq_9 => (intro w hSw; (try dsimp only at hSw); go_simp)
                            case qeq_9 =>
                              (try simp only [Act.put]); (try simp only [List.setIfInBounds_toArray])
                              refine wpAnyH_take (i := 9) (v := (.int .i64 k)) rfl (by kernel_rfl) (by kernel_rfl) (by kernel_rfl) (fun _ _ _ h => h) (Or.inl ⟨by rfl, ?yeq_10⟩) (by assumption) ?qeq_10
                              case yeq_10 => (intro w hSw; (try dsimp only at hSw); go_simp)
                              case qeq_10 =>
                                (try simp only [Act.put]); (try simp only [List.setIfInBounds_toArray])
                                refine wpAnyH_take (i := 10) (v := (.pointer (some ⟨b, o + k * 3, none⟩))) rfl (by kernel_rfl) (by kernel_rfl) (by kernel_rfl) (fun _ _ _ h => h) (Or.inl ⟨by rfl, ?yeq_11⟩) (by assumption) ?qeq_11
                                case yeq_11 => (intro w hSw; (try dsimp only at hSw); go_simp)
                                case qeq_11 =>
                                  (try simp only [Act.put]); (try simp only [List.setIfInBounds_toArray])
                                  refine wpAnyH_take (i := 11) (v := (.pointer (some ⟨b, o + k * 3 + 1, none⟩))) rfl (by kernel_rfl) (by kernel_rfl) (by kernel_rfl) (fun _ _ _ h => h) (Or.inl ⟨by rfl, ?yeq_12⟩) (by assumption) ?qeq_12
                                  case yeq_12 => (intro w hSw; (try dsimp only at hSw); go_simp)
                                  case qeq_12 =>
                                    (try simp only [Act.put]); (try simp only [List.setIfInBounds_toArray])
                                    refine wpAnyH_take (i := 12) (v := (.slice Al nl cl)) rfl (by kernel_rfl) (by kernel_rfl) (by kernel_rfl) (fun _ _ _ h => h) (Or.inl ⟨by rfl, ?yeq_13⟩) (by assumption) ?qeq_13
                                    case yeq_13 => (intro w hSw; (try dsimp only at hSw); go_simp)
                                    case qeq_13 =>
                                      (try simp only [Act.put]); (try simp only [List.setIfInBounds_toArray])
                                      refine wpAnyH_take (i := 14) (v := (.pointer (some ⟨w.heap.size, 5, none⟩))) rfl (by kernel_rfl) (by kernel_rfl) (by kernel_rfl) (fun _ _ _ h => h) (Or.inl ⟨by rfl, ?yeq_14⟩) (by assumption) ?qeq_14
                                      case yeq_14 => (intro w hSw; (try dsimp only at hSw); go_simp)
                                      case qeq_14 =>
                                        (try simp only [Act.put]); (try simp only [List.setIfInBounds_toArray])
                                        refine wpAnyH_take (i := 15) (v := (.slice (some ⟨b, o, none⟩) nq1 cq1)) rfl (by kernel_rfl) (by kernel_rfl) (by kernel_rfl) (fun _ _ _ h => h) (Or.inl ⟨by rfl, ?yeq_15⟩) (by assumption) ?qeq_15
                                        case yeq_15 => (intro w hSw; (try dsimp only at hSw); go_simp)
                                        case qeq_15 =>
                                          (try simp only [Act.put]); (try simp only [List.setIfInBounds_toArray])
                                          refine wpAnyH_take (i := 16) (v := (.int .i64 k)) rfl (by kernel_rfl) (by kernel_rfl) (by kernel_rfl) (fun _ _ _ h => h) (Or.inl ⟨by rfl, ?yeq_16⟩) (by assumption) ?qeq_16
                                          case yeq_16 => (intro w hSw; (try dsimp only at hSw); go_simp)
                                          case qeq_16 =>
                                            (try simp only [Act.put]); (try simp only [List.setIfInBounds_toArray])
                                            refine wpAnyH_take (i := 17) (v := (.pointer (some ⟨b, o + k * 3, none⟩))) rfl (by kernel_rfl) (by kernel_rfl) (by kernel_rfl) (fun _ _ _ h => h) (Or.inl ⟨by rfl, ?yeq_17⟩) (by assumption) ?qeq_17
                                            case yeq_17 => (intro w hSw; (try dsimp only at hSw); go_simp)
                                            case qeq_17 =>
                                              (try simp only [Act.put]); (try simp only [List.setIfInBounds_toArray])
                                              refine wpAnyH_take (i := 18) (v := (.pointer (some ⟨b, o + k * 3 + 2, none⟩))) rfl (by kernel_rfl) (by kernel_rfl) (by kernel_rfl) (fun _ _ _ h => h) (Or.inl ⟨by rfl, ?yeq_18⟩) (by assumption) ?qeq_18
                                              case yeq_18 => (intro w hSw; (try dsimp only at hSw); go_simp)
                                              case qeq_18 =>
                                                (try simp only [Act.put]); (try simp only [List.setIfInBounds_toArray])
                                                refine wpAnyH_take (i := 19) (v := (.slice Ar nr cr)) rfl (by kernel_rfl) (by kernel_rfl) (by kernel_rfl) (fun _ _ _ h => h) (Or.inl ⟨by rfl, ?yeq_19⟩) (by assumption) ?qeq_19
                                                case yeq_19 => (intro w hSw; (try dsimp only at hSw); go_simp)
                                                case qeq_19 =>
                                                  (try simp only [Act.put]); (try simp only [List.setIfInBounds_toArray])
                                                  refine wpAnyH_ready (rs := [13]) (by kernel_rfl) (by simp) ?_
                                                  refine AllReadyH.cons rfl (fun K hK => ?seq_20) ?meq_20
                                                  case seq_20 =>
                                                    (refine step_call _ (by rfl) 28 #[.slice Al nl cl] (by go_simp) (HC1.out _ HBz.out) ?_; rintro e Y1 ⟨A1', n1', c1', m1', rfl, hn1', ht1', hq1'⟩; refine ⟨_, rfl, ?_⟩; have HS1 := Lib.hid ((ht1'.so hn1').mono (Nat.le_trans HB.out.size HBz.out.size)); have HT1 := Lib.hid ((ht1'.so hn1').mono HBz.out.size); have HQ1 := Lib.hid hq1'; replace HBz := Lib.hid (HBz.out.trans (ht1'.bel.mono HBz.out.size)); clear hn1' ht1' hq1')
                                                    refine hK.out _ _ ?keq_20 (fun hHeld => ?qeq_20)
                                                    case keq_20 => ((try dsimp only); exact HSo.out _ HBz.out)
                                                    case qeq_20 =>
                                                      clear hK K
                                                      (try simp only [Act.put]); (try simp only [List.setIfInBounds_toArray])
                                                      refine wpAnyH_ready (rs := [20]) (by kernel_rfl) (by simp) ?_
                                                      refine AllReadyH.cons rfl (fun K hK => ?seq_21) ?meq_21
                                                      case seq_21 =>
                                                        (refine step_call _ (by rfl) 28 #[.slice Ar nr cr] (by go_simp) (HC2.out _ HBz.out) ?_; rintro e Y2 ⟨A2', n2', c2', m2', rfl, hn2', ht2', hq2'⟩; refine ⟨_, rfl, ?_⟩; have HS2 := Lib.hid ((ht2'.so hn2').mono (Nat.le_trans HB.out.size HBz.out.size)); have HT2 := Lib.hid ((ht2'.so hn2').mono HBz.out.size); have HQ2 := Lib.hid hq2'; replace HS1 := Lib.hid (HS1.out.after ht2'.bel); replace HT1 := Lib.hid (HT1.out.after ht2'.bel); replace HBz := Lib.hid (HBz.out.trans (ht2'.bel.mono HBz.out.size)); clear hn2' ht2' hq2')
                                                        refine hK.out _ _ ?keq_21 (fun hHeld => ?qeq_21)
                                                        case keq_21 => ((try dsimp only); exact HSo.out _ HBz.out)
                                                        case qeq_21 =>
                                                          clear hK K
                                                          (try simp only [Act.put]); (try simp only [List.setIfInBounds_toArray])
                                                          refine wpAnyH_take (i := 21) (v := (.agg #[.string con, .slice A1' n1' c1', .slice A2' n2' c2'])) rfl (by kernel_rfl) (by kernel_rfl) (by kernel_rfl) (fun _ _ _ h => h) (Or.inl ⟨by rfl, ?yeq_22⟩) (by assumption) ?qeq_22
                                                          case yeq_22 => (intro w hSw; (try dsimp only at hSw); go_simp)
                                                          case qeq_22 =>
                                                            (try simp only [Act.put]); (try simp only [List.setIfInBounds_toArray])
                                                            refine wpAnyH_ready (rs := [22]) (by kernel_rfl) (by simp) ?_
                                                            refine AllReadyH.cons rfl (fun K hK => ?seq_23) ?meq_23
                                                            case seq_23 =>
                                                              (refine step_mk1 _ (by rfl) 52 #[.string con, .slice A1' n1' c1', .slice A2' n2' c2'] (by go_simp) ?_; intro g8 Y8 hx8 hb8 hs8; have HU8 := Lib.hid hx8; replace HS1 := Lib.hid (HS1.out.after hb8); replace HS2 := Lib.hid (HS2.out.after hb8); replace HT1 := Lib.hid (HT1.out.after hb8); replace HT2 := Lib.hid (HT2.out.after hb8); replace HBz := Lib.hid (HBz.out.trans (hb8.mono HBz.out.size)); clear hx8 hb8 hs8)
                                                              refine hK.out _ _ ?keq_23 (fun hHeld => ?qeq_23)
                                                              case keq_23 => ((try dsimp only); exact HSo.out _ HBz.out)
                                                              case qeq_23 =>
                                                                clear hK K
                                                                (try simp only [Act.put]); (try simp only [List.setIfInBounds_toArray])
                                                                refine wpAnyH_done (by kernel_rfl) ?_ _
                                                                clear hHeld
                                                                have HGz := Lib.hid (HG.out.after eqOK HBz.out)
                                                                have HBa := Lib.hid (HB.out.trans (HBz.out.mono HB.out.size))
                                                                have HRw : Hid (Row Y8 g8 (g8 + 1) 3 (some ⟨g8, 0, none⟩) 1 1 [.string con, .slice A1' n1' c1', .slice A2' n2' c2']) := Lib.hid (row_blk HU8.out rfl (Nat.le_refl _) (by unfold maxLen; omega))
                                                                show wpList _ _ _ _ _ _
                                                                go_wp2_with (at_builtin; with_reducible show wpList _ _ _ (⟨some 69, _, _, _, _, _⟩ :: _) _ _; go_must (refine wpList_app (o := ⟨some 69, _, _, _, _, _⟩) _ rfl (.tmp 46) (.tmp 68) _ rfl X1.heap.size 52 i4 _ 3 64 Tryz.underlying25 hi4 hz4 hs4 hb4 rfl (by omega) ov m.length (m.flatMap eqC) (by go_simp) HGz.out.own g8 (g8 + 1) (some ⟨g8, 0, none⟩) 1 1 [.string con, .slice A1' n1' c1', .slice A2' n2' c2'] (by go_simp) HRw.out (eq_one con A1' A2' n1' c1' n2' c2') (by have := HML.out; unfold maxLen; omega) (by have := HML.out; omega) HBa.out.size ?_); go_must (intro v2 w3 hown2 hgr2 _; have HB2 := Lib.hid (below_grows HBa.out hgr2 HGz.out.own (Nat.le_refl _)); have HG2 := Lib.hid (GL.push (p := ⟨con, ⟨A1', n1', c1'⟩, m1', ⟨A2', n2', c2'⟩, m2'⟩) HGz.out eqOK hgr2 hown2 ⟨HS1.out, HS2.out⟩ HB.out.size (fun g hg => eqLt (HG.out.leaf g hg)) ⟨HT1.out, HT2.out⟩); clear hown2 hgr2))
                                                                go_roundw
                                                                case rel => exact ⟨k + 1, m ++ [⟨con, ⟨A1', n1', c1'⟩, m1', ⟨A2', n2', c2'⟩, m2'⟩], _, by omega, by go_num, rfl, HB2, HG2, Lib.hid (eqL_take_snoc HE.out HX.out (by simp [eqEM, HQ1.out, HQ2.out]))⟩
                                                                case measure => simp [intOf]; omega
                                                            case meq_23 =>
                                                              exact AllReadyH.nil
                                                      case meq_21 =>
                                                        exact AllReadyH.nil
                                                  case meq_20 =>
                                                    exact AllReadyH.nil
        · have hml : m.length = nq1 := by have h1 := eqL_length HE.out; have h2 := HLq.out; rw [List.length_take] at h1; omega
          have ho : wr.ownsRow X1.heap.size 52 3 ov nq1 (m.flatMap eqC) := hml ▸ HG.out.own
          obtain ⟨Lb2, d2, rfl⟩ := own_form ho
          have HGR := Lib.hid (HG.out.toG (P := EqIn) hml.symm (fun _ hg => hg.in_))
          have HGO := Lib.hid (GL.monoB HG.out eqOK HW.out.size)
          have HE2 : Hid (eqL eqEM qs1 m = true) := Lib.hid (by have h1 := HE.out; rwa [List.take_of_length_le (by have := HLq.out; omega)] at h1)
          have y0 := HWr.out.a.frozen 5
          have HWn : Hid (B2 w 29 #[.string nm1, .int .i64 vr1, .slice A1 nu1 c1, .slice Lb1 nc1 d1, .slice A2 nn1 c2, .slice Lb2 nq1 d2, .slice Ae1 ne1 ce1, .slice At1 nt1 ct1] #[.string ⟨#[]⟩, .int .i64 0, .slice none 0 0, .slice none 0 0, .slice none 0 0, .slice none 0 0, .slice none 0 0, .slice none 0 0] (wr.setCell ⟨w.heap.size, 5, none⟩ (.slice Lb2 nq1 d2))) := Lib.hid (by simpa using HWr.out.set 5 (.slice Lb2 nq1 d2))
          have HWr0 : w.heap.size + 2 ≤ X1.heap.size := HW.out.size
          generalize m = m2 at HGR HE2 HGO
          have HFn : Hid (Row (wr.setCell ⟨w.heap.size, 5, none⟩ (.slice Lb2 nq1 d2)) (w.heap.size + 2) (wr.setCell ⟨w.heap.size, 5, none⟩ (.slice Lb2 nq1 d2)).heap.size 1 A1 nu1 c1 (strCells us1) ∧ Row (wr.setCell ⟨w.heap.size, 5, none⟩ (.slice Lb2 nq1 d2)) (w.heap.size + 2) (wr.setCell ⟨w.heap.size, 5, none⟩ (.slice Lb2 nq1 d2)).heap.size 4 A2 nn1 c2 (ruCells ru1) ∧ OwnF (fun Z => Z.ownsRow (w.heap.size + 2) 9 1 (.slice A1 nu1 c1) nu1 (strCells us1)) (w.heap.size + 2) (wr.setCell ⟨w.heap.size, 5, none⟩ (.slice Lb2 nq1 d2)) (wr.setCell ⟨w.heap.size, 5, none⟩ (.slice Lb2 nq1 d2)).heap.size ∧ OwnF (fun Z => Z.ownsRow (w.heap.size + 2) 49 4 (.slice A2 nn1 c2) nn1 (ruCells ru1)) (w.heap.size + 2) (wr.setCell ⟨w.heap.size, 5, none⟩ (.slice Lb2 nq1 d2)) (wr.setCell ⟨w.heap.size, 5, none⟩ (.slice Lb2 nq1 d2)).heap.size ∧ GRow conC ConIn 6 (wr.setCell ⟨w.heap.size, 5, none⟩ (.slice Lb2 nq1 d2)) (w.heap.size + 2) (wr.setCell ⟨w.heap.size, 5, none⟩ (.slice Lb2 nq1 d2)).heap.size ⟨Lb1, nc1, d1⟩ m1 ∧ OwnF (GL conC ConOwn 47 6 (w.heap.size + 2) (.slice Lb1 nc1 d1) m1) (w.heap.size + 2) (wr.setCell ⟨w.heap.size, 5, none⟩ (.slice Lb2 nq1 d2)) (wr.setCell ⟨w.heap.size, 5, none⟩ (.slice Lb2 nq1 d2)).heap.size ∧ GRow eqC EqIn 3 (wr.setCell ⟨w.heap.size, 5, none⟩ (.slice Lb2 nq1 d2)) (w.heap.size + 2) (wr.setCell ⟨w.heap.size, 5, none⟩ (.slice Lb2 nq1 d2)).heap.size ⟨Lb2, nq1, d2⟩ m2 ∧ OwnF (GL eqC EqOwn 52 3 (w.heap.size + 2) (.slice Lb2 nq1 d2) m2) (w.heap.size + 2) (wr.setCell ⟨w.heap.size, 5, none⟩ (.slice Lb2 nq1 d2)) (wr.setCell ⟨w.heap.size, 5, none⟩ (.slice Lb2 nq1 d2)).heap.size) := Lib.hid ⟨Row.mono (Row.same2 HF.out.1 ((Same2.of_below HB.out).trans (Same2.of_set (Nat.lt_succ_of_lt (Nat.lt_succ_self _))))) (Nat.le_refl _) (by simpa using HB.out.size), Row.mono (Row.same2 HF.out.2.1 ((Same2.of_below HB.out).trans (Same2.of_set (Nat.lt_succ_of_lt (Nat.lt_succ_self _))))) (Nat.le_refl _) (by simpa using HB.out.size), OwnF.mono (OwnF.same HF.out.2.2.1 ((SameB.of_below HB.out).trans (SameB.of_set (Nat.lt_succ_of_lt (Nat.lt_succ_self _))))) (Nat.le_refl _) (by simpa using HB.out.size), OwnF.mono (OwnF.same HF.out.2.2.2.1 ((SameB.of_below HB.out).trans (SameB.of_set (Nat.lt_succ_of_lt (Nat.lt_succ_self _))))) (Nat.le_refl _) (by simpa using HB.out.size), GRow.mono (GRow.same2 HF.out.2.2.2.2.1 conK2 ((Same2.of_below HB.out).trans (Same2.of_set (Nat.lt_succ_of_lt (Nat.lt_succ_self _))))) conK (Nat.le_refl _) (by simpa using HB.out.size), OwnF.mono (OwnF.same HF.out.2.2.2.2.2 ((SameB.of_below HB.out).trans (SameB.of_set (Nat.lt_succ_of_lt (Nat.lt_succ_self _))))) (Nat.le_refl _) (by simpa using HB.out.size), (by rw [World.size_setCell]; exact (GRow.mono (HGR.out) eqK HWr0 (Nat.le_refl _)).same2 eqK2 (Same2.of_set (Nat.lt_succ_of_lt (Nat.lt_succ_self w.heap.size)))), ⟨wr, by rw [World.size_setCell]; exact Nat.le_refl _, HGO.out, SameB.of_set (Nat.lt_succ_of_lt (Nat.lt_succ_self w.heap.size))⟩⟩
          clear HW HF HE HGR HGO hml HWr0 ho
          go_wp2_with fail
          have HW := HWn
          have HF := HFn
          clear HWn HFn HB HWr pf hsz hk hlt y0 HG
          generalize wr.setCell ⟨w.heap.size, 5, none⟩ (.slice Lb2 nq1 d2) = X2 at HW HF ⊢
          have pf2 := (HW.out.a.cell 6).trans (show _ = some (.slice Ae1 ne1 ce1) from rfl)
          go_wp2_with fail
          clear pf2
          go_loopw [7, 8] (fun s3 i wr => ∃ (k : Nat) (m : List (RowD × Sl)) (ov : Value), k ≤ ne1 ∧ i = .int .i64 k ∧ ov = s3 ∧ Hid (Below X2.heap.size X2 wr) ∧ Hid (GL rowC (RowOwn 74) 55 2 X2.heap.size ov m wr) ∧ Hid (eqL rowEM (es1.take k) m = true)) (fun _ i _ => ne1 - (intOf i).toNat)
          case atStart => exact ⟨0, [], _, Nat.zero_le _, rfl, rfl, Lib.hid (Below.refl _ _), Lib.hid (GL.start _ _ _ _ _ _), Lib.hid rfl⟩
          case round =>
            obtain ⟨k, m, ov, hk, rfl, rfl, HB, HG, HE⟩ := hrel
            have HWr := Lib.hid (HW.out.after HB.out)
            have pf := (HWr.out.a.cell 6).trans (show _ = some (.slice Ae1 ne1 ce1) from rfl)
            have hsz := HWr.out.size
            by_cases hlt : k < ne1
            · obtain ⟨b, o, hA, _, hb, V⟩ := HIe.out.at_ (fun _ => rfl) (show 0 < ne1 by omega)
              simp only at hA
              subst hA
              obtain ⟨x, hx⟩ : ∃ x, es1[k]? = some x := ⟨es1[k]'(by have := HLe.out; omega), List.getElem?_eq_getElem _⟩
              obtain ⟨hlf, hat⟩ := V k x hx
              have hbel := HWr.out.bel
              have hwz := hbel.size
              have q0 : wr.cell? ⟨b, o + k * 2, none⟩ = some (.string x.1.con) := (hbel.cell (p := ⟨_, _, none⟩) (show b < w.heap.size by omega)).trans (hat 0 _ (by omega) rfl)
              have q1 : wr.cell? ⟨b, o + k * 2 + 1, none⟩ = some (.slice x.2.A x.2.n x.2.c) := (hbel.cell (p := ⟨_, _, none⟩) (show b < w.heap.size by omega)).trans (hat 1 _ (by omega) rfl)
              have hfit := HSe.out x (List.mem_of_getElem? hx)
              have hml : m.length = k := by have h1 := eqL_length HE.out; have h2 := HLe.out; rw [List.length_take] at h1; omega
              have HML := Lib.hid hml
              have HX := Lib.hid hx
              have hlf1 := rowK.below hlf (hbel.mono hh)
              obtain ⟨⟨con, cells⟩, ⟨Aq, nq, cq⟩⟩ := x
              simp only at hfit hlf1 q0 q1
              have hRn : nq = cells.length := hlf1.qn
              have HSo : Hid (∀ X : World, Below wr.heap.size wr X → (X.cell? ⟨w.heap.size, 6, none⟩ = some (.slice (some ⟨b, o, none⟩) ne1 ce1) ∧ X.cell? ⟨b, o + k * 2, none⟩ = some (.string con) ∧ X.cell? ⟨b, o + k * 2 + 1, none⟩ = some (.slice Aq nq cq))) := Lib.hid fun X hX => ⟨(hX.cell (p := ⟨_, _, none⟩) (by simp only; omega)).trans pf, (hX.cell (p := ⟨_, _, none⟩) (by simp only; omega)).trans q0, (hX.cell (p := ⟨_, _, none⟩) (by simp only; omega)).trans q1⟩
              have HR := Lib.hid hlf1.q
              clear pf q0 q1 hml hx hat V hlf1
              refine twin_ed_round HSo.out HR.out hRn (by omega) (by omega) HB.out HG.out HML.out hlt (by omega) _ (fun _ _ _ _ h hd => And.intro (hd.symm.trans (And.left h)) (And.right h)) ?_
              clear HR HSo
              intro wx A' c' v7 v8 hv8
              intros
              rename_i hb2 hg2
              subst hv8
              have HB2 := Lib.hid hb2
              have HG2 := Lib.hid hg2
              clear hb2 hg2
              go_wp2_with fail
              go_roundw
              case rel => exact ⟨k + 1, m ++ [(⟨con, cells⟩, ⟨A', nq, c'⟩)], _, by omega, by go_num, rfl, HB2, HG2, Lib.hid (eqL_take_snoc HE.out HX.out (by simp [rowEM, eqL_refl ceE_refl]))⟩
              case measure => simp [intOf]; omega
            · have hml : m.length = ne1 := by have h1 := eqL_length HE.out; have h2 := HLe.out; rw [List.length_take] at h1; omega
              have ho : wr.ownsRow X2.heap.size 55 2 ov ne1 (m.flatMap rowC) := hml ▸ HG.out.own
              obtain ⟨Lb3, d3, rfl⟩ := own_form ho
              have HGR := Lib.hid (HG.out.toG (P := RowIn) hml.symm (fun _ hg => hg.in_))
              have HGO := Lib.hid (GL.monoB HG.out edOK HW.out.size)
              have HE3 : Hid (eqL rowEM es1 m = true) := Lib.hid (by have h1 := HE.out; rwa [List.take_of_length_le (by have := HLe.out; omega)] at h1)
              have y0 := HWr.out.a.frozen 6
              have HWn : Hid (B2 w 29 #[.string nm1, .int .i64 vr1, .slice A1 nu1 c1, .slice Lb1 nc1 d1, .slice A2 nn1 c2, .slice Lb2 nq1 d2, .slice Lb3 ne1 d3, .slice At1 nt1 ct1] #[.string ⟨#[]⟩, .int .i64 0, .slice none 0 0, .slice none 0 0, .slice none 0 0, .slice none 0 0, .slice none 0 0, .slice none 0 0] (wr.setCell ⟨w.heap.size, 6, none⟩ (.slice Lb3 ne1 d3))) := Lib.hid (by simpa using HWr.out.set 6 (.slice Lb3 ne1 d3))
              have HWr0 : w.heap.size + 2 ≤ X2.heap.size := HW.out.size
              generalize m = m3 at HGR HE3 HGO
              have HFn : Hid (Row (wr.setCell ⟨w.heap.size, 6, none⟩ (.slice Lb3 ne1 d3)) (w.heap.size + 2) (wr.setCell ⟨w.heap.size, 6, none⟩ (.slice Lb3 ne1 d3)).heap.size 1 A1 nu1 c1 (strCells us1) ∧ Row (wr.setCell ⟨w.heap.size, 6, none⟩ (.slice Lb3 ne1 d3)) (w.heap.size + 2) (wr.setCell ⟨w.heap.size, 6, none⟩ (.slice Lb3 ne1 d3)).heap.size 4 A2 nn1 c2 (ruCells ru1) ∧ OwnF (fun Z => Z.ownsRow (w.heap.size + 2) 9 1 (.slice A1 nu1 c1) nu1 (strCells us1)) (w.heap.size + 2) (wr.setCell ⟨w.heap.size, 6, none⟩ (.slice Lb3 ne1 d3)) (wr.setCell ⟨w.heap.size, 6, none⟩ (.slice Lb3 ne1 d3)).heap.size ∧ OwnF (fun Z => Z.ownsRow (w.heap.size + 2) 49 4 (.slice A2 nn1 c2) nn1 (ruCells ru1)) (w.heap.size + 2) (wr.setCell ⟨w.heap.size, 6, none⟩ (.slice Lb3 ne1 d3)) (wr.setCell ⟨w.heap.size, 6, none⟩ (.slice Lb3 ne1 d3)).heap.size ∧ GRow conC ConIn 6 (wr.setCell ⟨w.heap.size, 6, none⟩ (.slice Lb3 ne1 d3)) (w.heap.size + 2) (wr.setCell ⟨w.heap.size, 6, none⟩ (.slice Lb3 ne1 d3)).heap.size ⟨Lb1, nc1, d1⟩ m1 ∧ OwnF (GL conC ConOwn 47 6 (w.heap.size + 2) (.slice Lb1 nc1 d1) m1) (w.heap.size + 2) (wr.setCell ⟨w.heap.size, 6, none⟩ (.slice Lb3 ne1 d3)) (wr.setCell ⟨w.heap.size, 6, none⟩ (.slice Lb3 ne1 d3)).heap.size ∧ GRow eqC EqIn 3 (wr.setCell ⟨w.heap.size, 6, none⟩ (.slice Lb3 ne1 d3)) (w.heap.size + 2) (wr.setCell ⟨w.heap.size, 6, none⟩ (.slice Lb3 ne1 d3)).heap.size ⟨Lb2, nq1, d2⟩ m2 ∧ OwnF (GL eqC EqOwn 52 3 (w.heap.size + 2) (.slice Lb2 nq1 d2) m2) (w.heap.size + 2) (wr.setCell ⟨w.heap.size, 6, none⟩ (.slice Lb3 ne1 d3)) (wr.setCell ⟨w.heap.size, 6, none⟩ (.slice Lb3 ne1 d3)).heap.size ∧ GRow rowC RowIn 2 (wr.setCell ⟨w.heap.size, 6, none⟩ (.slice Lb3 ne1 d3)) (w.heap.size + 2) (wr.setCell ⟨w.heap.size, 6, none⟩ (.slice Lb3 ne1 d3)).heap.size ⟨Lb3, ne1, d3⟩ m3 ∧ OwnF (GL rowC (RowOwn 74) 55 2 (w.heap.size + 2) (.slice Lb3 ne1 d3) m3) (w.heap.size + 2) (wr.setCell ⟨w.heap.size, 6, none⟩ (.slice Lb3 ne1 d3)) (wr.setCell ⟨w.heap.size, 6, none⟩ (.slice Lb3 ne1 d3)).heap.size) := Lib.hid ⟨Row.mono (Row.same2 HF.out.1 ((Same2.of_below HB.out).trans (Same2.of_set (Nat.lt_succ_of_lt (Nat.lt_succ_self _))))) (Nat.le_refl _) (by simpa using HB.out.size), Row.mono (Row.same2 HF.out.2.1 ((Same2.of_below HB.out).trans (Same2.of_set (Nat.lt_succ_of_lt (Nat.lt_succ_self _))))) (Nat.le_refl _) (by simpa using HB.out.size), OwnF.mono (OwnF.same HF.out.2.2.1 ((SameB.of_below HB.out).trans (SameB.of_set (Nat.lt_succ_of_lt (Nat.lt_succ_self _))))) (Nat.le_refl _) (by simpa using HB.out.size), OwnF.mono (OwnF.same HF.out.2.2.2.1 ((SameB.of_below HB.out).trans (SameB.of_set (Nat.lt_succ_of_lt (Nat.lt_succ_self _))))) (Nat.le_refl _) (by simpa using HB.out.size), GRow.mono (GRow.same2 HF.out.2.2.2.2.1 conK2 ((Same2.of_below HB.out).trans (Same2.of_set (Nat.lt_succ_of_lt (Nat.lt_succ_self _))))) conK (Nat.le_refl _) (by simpa using HB.out.size), OwnF.mono (OwnF.same HF.out.2.2.2.2.2.1 ((SameB.of_below HB.out).trans (SameB.of_set (Nat.lt_succ_of_lt (Nat.lt_succ_self _))))) (Nat.le_refl _) (by simpa using HB.out.size), GRow.mono (GRow.same2 HF.out.2.2.2.2.2.2.1 eqK2 ((Same2.of_below HB.out).trans (Same2.of_set (Nat.lt_succ_of_lt (Nat.lt_succ_self _))))) eqK (Nat.le_refl _) (by simpa using HB.out.size), OwnF.mono (OwnF.same HF.out.2.2.2.2.2.2.2 ((SameB.of_below HB.out).trans (SameB.of_set (Nat.lt_succ_of_lt (Nat.lt_succ_self _))))) (Nat.le_refl _) (by simpa using HB.out.size), (by rw [World.size_setCell]; exact (GRow.mono (HGR.out) rowK HWr0 (Nat.le_refl _)).same2 rowK2 (Same2.of_set (Nat.lt_succ_of_lt (Nat.lt_succ_self w.heap.size)))), ⟨wr, by rw [World.size_setCell]; exact Nat.le_refl _, HGO.out, SameB.of_set (Nat.lt_succ_of_lt (Nat.lt_succ_self w.heap.size))⟩⟩
              clear HW HF HE HGR HGO hml HWr0 ho
              go_wp2_with fail
              have HW := HWn
              have HF := HFn
              clear HWn HFn HB HWr pf hsz hk hlt y0 HG
              generalize wr.setCell ⟨w.heap.size, 6, none⟩ (.slice Lb3 ne1 d3) = X3 at HW HF ⊢
              have pf3 := (HW.out.a.cell 7).trans (show _ = some (.slice At1 nt1 ct1) from rfl)
              go_wp2_with fail
              clear pf3
              go_loopw [9, 10] (fun s3 i wr => ∃ (k : Nat) (m : List (RowD × Sl)) (ov : Value), k ≤ nt1 ∧ i = .int .i64 k ∧ ov = s3 ∧ Hid (Below X3.heap.size X3 wr) ∧ Hid (GL rowC (RowOwn 77) 58 2 X3.heap.size ov m wr) ∧ Hid (eqL rowEM (ts1.take k) m = true)) (fun _ i _ => nt1 - (intOf i).toNat)
              case atStart => exact ⟨0, [], _, Nat.zero_le _, rfl, rfl, Lib.hid (Below.refl _ _), Lib.hid (GL.start _ _ _ _ _ _), Lib.hid rfl⟩
              case round =>
                obtain ⟨k, m, ov, hk, rfl, rfl, HB, HG, HE⟩ := hrel
                have HWr := Lib.hid (HW.out.after HB.out)
                have pf := (HWr.out.a.cell 7).trans (show _ = some (.slice At1 nt1 ct1) from rfl)
                have hsz := HWr.out.size
                by_cases hlt : k < nt1
                · obtain ⟨b, o, hA, _, hb, V⟩ := HIt.out.at_ (fun _ => rfl) (show 0 < nt1 by omega)
                  simp only at hA
                  subst hA
                  obtain ⟨x, hx⟩ : ∃ x, ts1[k]? = some x := ⟨ts1[k]'(by have := HLt.out; omega), List.getElem?_eq_getElem _⟩
                  obtain ⟨hlf, hat⟩ := V k x hx
                  have hbel := HWr.out.bel
                  have hwz := hbel.size
                  have q0 : wr.cell? ⟨b, o + k * 2, none⟩ = some (.string x.1.con) := (hbel.cell (p := ⟨_, _, none⟩) (show b < w.heap.size by omega)).trans (hat 0 _ (by omega) rfl)
                  have q1 : wr.cell? ⟨b, o + k * 2 + 1, none⟩ = some (.slice x.2.A x.2.n x.2.c) := (hbel.cell (p := ⟨_, _, none⟩) (show b < w.heap.size by omega)).trans (hat 1 _ (by omega) rfl)
                  have hfit := HSt.out x (List.mem_of_getElem? hx)
                  have hml : m.length = k := by have h1 := eqL_length HE.out; have h2 := HLt.out; rw [List.length_take] at h1; omega
                  have HML := Lib.hid hml
                  have HX := Lib.hid hx
                  have hlf1 := rowK.below hlf (hbel.mono hh)
                  obtain ⟨⟨con, cells⟩, ⟨Aq, nq, cq⟩⟩ := x
                  simp only at hfit hlf1 q0 q1
                  have hRn : nq = cells.length := hlf1.qn
                  have HSo : Hid (∀ X : World, Below wr.heap.size wr X → (X.cell? ⟨w.heap.size, 7, none⟩ = some (.slice (some ⟨b, o, none⟩) nt1 ct1) ∧ X.cell? ⟨b, o + k * 2, none⟩ = some (.string con) ∧ X.cell? ⟨b, o + k * 2 + 1, none⟩ = some (.slice Aq nq cq))) := Lib.hid fun X hX => ⟨(hX.cell (p := ⟨_, _, none⟩) (by simp only; omega)).trans pf, (hX.cell (p := ⟨_, _, none⟩) (by simp only; omega)).trans q0, (hX.cell (p := ⟨_, _, none⟩) (by simp only; omega)).trans q1⟩
                  have HR := Lib.hid hlf1.q
                  clear pf q0 q1 hml hx hat V hlf1
                  refine twin_te_round HSo.out HR.out hRn (by omega) (by omega) HB.out HG.out HML.out hlt (by omega) _ (fun _ _ _ _ h hd => And.intro (hd.symm.trans (And.left h)) (And.right h)) ?_
                  clear HR HSo
                  intro wx A' c' v7 v8 hv8
                  intros
                  rename_i hb2 hg2
                  subst hv8
                  have HB2 := Lib.hid hb2
                  have HG2 := Lib.hid hg2
                  clear hb2 hg2
                  go_wp2_with fail
                  go_roundw
                  case rel => exact ⟨k + 1, m ++ [(⟨con, cells⟩, ⟨A', nq, c'⟩)], _, by omega, by go_num, rfl, HB2, HG2, Lib.hid (eqL_take_snoc HE.out HX.out (by simp [rowEM, eqL_refl ceE_refl]))⟩
                  case measure => simp [intOf]; omega
                · have hml : m.length = nt1 := by have h1 := eqL_length HE.out; have h2 := HLt.out; rw [List.length_take] at h1; omega
                  have ho : wr.ownsRow X3.heap.size 58 2 ov nt1 (m.flatMap rowC) := hml ▸ HG.out.own
                  obtain ⟨Lb4, d4, rfl⟩ := own_form ho
                  have HGR := Lib.hid (HG.out.toG (P := RowIn) hml.symm (fun _ hg => hg.in_))
                  have HGO := Lib.hid (GL.monoB HG.out teOK HW.out.size)
                  have HE4 : Hid (eqL rowEM ts1 m = true) := Lib.hid (by have h1 := HE.out; rwa [List.take_of_length_le (by have := HLt.out; omega)] at h1)
                  have y0 := HWr.out.a.frozen 7
                  have HWn : Hid (B2 w 29 #[.string nm1, .int .i64 vr1, .slice A1 nu1 c1, .slice Lb1 nc1 d1, .slice A2 nn1 c2, .slice Lb2 nq1 d2, .slice Lb3 ne1 d3, .slice Lb4 nt1 d4] #[.string ⟨#[]⟩, .int .i64 0, .slice none 0 0, .slice none 0 0, .slice none 0 0, .slice none 0 0, .slice none 0 0, .slice none 0 0] (wr.setCell ⟨w.heap.size, 7, none⟩ (.slice Lb4 nt1 d4))) := Lib.hid (by simpa using HWr.out.set 7 (.slice Lb4 nt1 d4))
                  have HWr0 : w.heap.size + 2 ≤ X3.heap.size := HW.out.size
                  generalize m = m4 at HGR HE4 HGO
                  have HFn : Hid (Row (wr.setCell ⟨w.heap.size, 7, none⟩ (.slice Lb4 nt1 d4)) (w.heap.size + 2) (wr.setCell ⟨w.heap.size, 7, none⟩ (.slice Lb4 nt1 d4)).heap.size 1 A1 nu1 c1 (strCells us1) ∧ Row (wr.setCell ⟨w.heap.size, 7, none⟩ (.slice Lb4 nt1 d4)) (w.heap.size + 2) (wr.setCell ⟨w.heap.size, 7, none⟩ (.slice Lb4 nt1 d4)).heap.size 4 A2 nn1 c2 (ruCells ru1) ∧ OwnF (fun Z => Z.ownsRow (w.heap.size + 2) 9 1 (.slice A1 nu1 c1) nu1 (strCells us1)) (w.heap.size + 2) (wr.setCell ⟨w.heap.size, 7, none⟩ (.slice Lb4 nt1 d4)) (wr.setCell ⟨w.heap.size, 7, none⟩ (.slice Lb4 nt1 d4)).heap.size ∧ OwnF (fun Z => Z.ownsRow (w.heap.size + 2) 49 4 (.slice A2 nn1 c2) nn1 (ruCells ru1)) (w.heap.size + 2) (wr.setCell ⟨w.heap.size, 7, none⟩ (.slice Lb4 nt1 d4)) (wr.setCell ⟨w.heap.size, 7, none⟩ (.slice Lb4 nt1 d4)).heap.size ∧ GRow conC ConIn 6 (wr.setCell ⟨w.heap.size, 7, none⟩ (.slice Lb4 nt1 d4)) (w.heap.size + 2) (wr.setCell ⟨w.heap.size, 7, none⟩ (.slice Lb4 nt1 d4)).heap.size ⟨Lb1, nc1, d1⟩ m1 ∧ OwnF (GL conC ConOwn 47 6 (w.heap.size + 2) (.slice Lb1 nc1 d1) m1) (w.heap.size + 2) (wr.setCell ⟨w.heap.size, 7, none⟩ (.slice Lb4 nt1 d4)) (wr.setCell ⟨w.heap.size, 7, none⟩ (.slice Lb4 nt1 d4)).heap.size ∧ GRow eqC EqIn 3 (wr.setCell ⟨w.heap.size, 7, none⟩ (.slice Lb4 nt1 d4)) (w.heap.size + 2) (wr.setCell ⟨w.heap.size, 7, none⟩ (.slice Lb4 nt1 d4)).heap.size ⟨Lb2, nq1, d2⟩ m2 ∧ OwnF (GL eqC EqOwn 52 3 (w.heap.size + 2) (.slice Lb2 nq1 d2) m2) (w.heap.size + 2) (wr.setCell ⟨w.heap.size, 7, none⟩ (.slice Lb4 nt1 d4)) (wr.setCell ⟨w.heap.size, 7, none⟩ (.slice Lb4 nt1 d4)).heap.size ∧ GRow rowC RowIn 2 (wr.setCell ⟨w.heap.size, 7, none⟩ (.slice Lb4 nt1 d4)) (w.heap.size + 2) (wr.setCell ⟨w.heap.size, 7, none⟩ (.slice Lb4 nt1 d4)).heap.size ⟨Lb3, ne1, d3⟩ m3 ∧ OwnF (GL rowC (RowOwn 74) 55 2 (w.heap.size + 2) (.slice Lb3 ne1 d3) m3) (w.heap.size + 2) (wr.setCell ⟨w.heap.size, 7, none⟩ (.slice Lb4 nt1 d4)) (wr.setCell ⟨w.heap.size, 7, none⟩ (.slice Lb4 nt1 d4)).heap.size ∧ GRow rowC RowIn 2 (wr.setCell ⟨w.heap.size, 7, none⟩ (.slice Lb4 nt1 d4)) (w.heap.size + 2) (wr.setCell ⟨w.heap.size, 7, none⟩ (.slice Lb4 nt1 d4)).heap.size ⟨Lb4, nt1, d4⟩ m4 ∧ OwnF (GL rowC (RowOwn 77) 58 2 (w.heap.size + 2) (.slice Lb4 nt1 d4) m4) (w.heap.size + 2) (wr.setCell ⟨w.heap.size, 7, none⟩ (.slice Lb4 nt1 d4)) (wr.setCell ⟨w.heap.size, 7, none⟩ (.slice Lb4 nt1 d4)).heap.size) := Lib.hid ⟨Row.mono (Row.same2 HF.out.1 ((Same2.of_below HB.out).trans (Same2.of_set (Nat.lt_succ_of_lt (Nat.lt_succ_self _))))) (Nat.le_refl _) (by simpa using HB.out.size), Row.mono (Row.same2 HF.out.2.1 ((Same2.of_below HB.out).trans (Same2.of_set (Nat.lt_succ_of_lt (Nat.lt_succ_self _))))) (Nat.le_refl _) (by simpa using HB.out.size), OwnF.mono (OwnF.same HF.out.2.2.1 ((SameB.of_below HB.out).trans (SameB.of_set (Nat.lt_succ_of_lt (Nat.lt_succ_self _))))) (Nat.le_refl _) (by simpa using HB.out.size), OwnF.mono (OwnF.same HF.out.2.2.2.1 ((SameB.of_below HB.out).trans (SameB.of_set (Nat.lt_succ_of_lt (Nat.lt_succ_self _))))) (Nat.le_refl _) (by simpa using HB.out.size), GRow.mono (GRow.same2 HF.out.2.2.2.2.1 conK2 ((Same2.of_below HB.out).trans (Same2.of_set (Nat.lt_succ_of_lt (Nat.lt_succ_self _))))) conK (Nat.le_refl _) (by simpa using HB.out.size), OwnF.mono (OwnF.same HF.out.2.2.2.2.2.1 ((SameB.of_below HB.out).trans (SameB.of_set (Nat.lt_succ_of_lt (Nat.lt_succ_self _))))) (Nat.le_refl _) (by simpa using HB.out.size), GRow.mono (GRow.same2 HF.out.2.2.2.2.2.2.1 eqK2 ((Same2.of_below HB.out).trans (Same2.of_set (Nat.lt_succ_of_lt (Nat.lt_succ_self _))))) eqK (Nat.le_refl _) (by simpa using HB.out.size), OwnF.mono (OwnF.same HF.out.2.2.2.2.2.2.2.1 ((SameB.of_below HB.out).trans (SameB.of_set (Nat.lt_succ_of_lt (Nat.lt_succ_self _))))) (Nat.le_refl _) (by simpa using HB.out.size), GRow.mono (GRow.same2 HF.out.2.2.2.2.2.2.2.2.1 rowK2 ((Same2.of_below HB.out).trans (Same2.of_set (Nat.lt_succ_of_lt (Nat.lt_succ_self _))))) rowK (Nat.le_refl _) (by simpa using HB.out.size), OwnF.mono (OwnF.same HF.out.2.2.2.2.2.2.2.2.2 ((SameB.of_below HB.out).trans (SameB.of_set (Nat.lt_succ_of_lt (Nat.lt_succ_self _))))) (Nat.le_refl _) (by simpa using HB.out.size), (by rw [World.size_setCell]; exact (GRow.mono (HGR.out) rowK HWr0 (Nat.le_refl _)).same2 rowK2 (Same2.of_set (Nat.lt_succ_of_lt (Nat.lt_succ_self w.heap.size)))), ⟨wr, by rw [World.size_setCell]; exact Nat.le_refl _, HGO.out, SameB.of_set (Nat.lt_succ_of_lt (Nat.lt_succ_self w.heap.size))⟩⟩
                  clear HW HF HE HGR HGO hml HWr0 ho
                  have k0 := (HWn.out.a.cell 0).trans (show _ = some (.string nm1) from rfl)
                  have r0 := (HWn.out.b.cell 0).trans (show _ = some (.string ⟨#[]⟩) from rfl)
                  have l0 := HWn.out.b.frozen 0
                  have k1 := (HWn.out.a.cell 1).trans (show _ = some (.int .i64 vr1) from rfl)
                  have r1 := (HWn.out.b.cell 1).trans (show _ = some (.int .i64 0) from rfl)
                  have l1 := HWn.out.b.frozen 1
                  have k2 := (HWn.out.a.cell 2).trans (show _ = some (.slice A1 nu1 c1) from rfl)
                  have r2 := (HWn.out.b.cell 2).trans (show _ = some (.slice none 0 0) from rfl)
                  have l2 := HWn.out.b.frozen 2
                  have k3 := (HWn.out.a.cell 3).trans (show _ = some (.slice Lb1 nc1 d1) from rfl)
                  have r3 := (HWn.out.b.cell 3).trans (show _ = some (.slice none 0 0) from rfl)
                  have l3 := HWn.out.b.frozen 3
                  have k4 := (HWn.out.a.cell 4).trans (show _ = some (.slice A2 nn1 c2) from rfl)
                  have r4 := (HWn.out.b.cell 4).trans (show _ = some (.slice none 0 0) from rfl)
                  have l4 := HWn.out.b.frozen 4
                  have k5 := (HWn.out.a.cell 5).trans (show _ = some (.slice Lb2 nq1 d2) from rfl)
                  have r5 := (HWn.out.b.cell 5).trans (show _ = some (.slice none 0 0) from rfl)
                  have l5 := HWn.out.b.frozen 5
                  have k6 := (HWn.out.a.cell 6).trans (show _ = some (.slice Lb3 ne1 d3) from rfl)
                  have r6 := (HWn.out.b.cell 6).trans (show _ = some (.slice none 0 0) from rfl)
                  have l6 := HWn.out.b.frozen 6
                  have k7 := (HWn.out.a.cell 7).trans (show _ = some (.slice Lb4 nt1 d4) from rfl)
                  have r7 := (HWn.out.b.cell 7).trans (show _ = some (.slice none 0 0) from rfl)
                  have l7 := HWn.out.b.frozen 7
                  go_wp2_with fail
                  (try rw [Exit.noGoto_ret])
                  (try simp only [Exit.inBlock, Exit.then])
                  have hres : Tryz.f11.results = #[.cell 2 29] := by kernel_rfl
                  refine bodyPost_ret (v := .agg #[.string nm1, .int .i64 vr1, .slice A1 nu1 c1, .slice Lb1 nc1 d1, .slice A2 nn1 c2, .slice Lb2 nq1 d2, .slice Lb3 ne1 d3, .slice Lb4 nt1 d4]) ?hr rfl ?_
                  case hr =>
                    simp only [results, hres]
                    go_simp
                  have bb := HWn.out.bel
                  have ff := HFn.out
                  generalize wr.setCell ⟨w.heap.size, 7, none⟩ (.slice Lb4 nt1 d4) = X9 at bb ff ⊢
                  replace bb := bb.setCell (p := ⟨w.heap.size + 1, 0, none⟩) (Nat.le_succ _) (.string nm1)
                  replace bb := bb.setCell (p := ⟨w.heap.size + 1, 1, none⟩) (Nat.le_succ _) (.int .i64 vr1)
                  replace bb := bb.setCell (p := ⟨w.heap.size + 1, 2, none⟩) (Nat.le_succ _) (.slice A1 nu1 c1)
                  replace bb := bb.setCell (p := ⟨w.heap.size + 1, 3, none⟩) (Nat.le_succ _) (.slice Lb1 nc1 d1)
                  replace bb := bb.setCell (p := ⟨w.heap.size + 1, 4, none⟩) (Nat.le_succ _) (.slice A2 nn1 c2)
                  replace bb := bb.setCell (p := ⟨w.heap.size + 1, 5, none⟩) (Nat.le_succ _) (.slice Lb2 nq1 d2)
                  replace bb := bb.setCell (p := ⟨w.heap.size + 1, 6, none⟩) (Nat.le_succ _) (.slice Lb3 ne1 d3)
                  replace bb := bb.setCell (p := ⟨w.heap.size + 1, 7, none⟩) (Nat.le_succ _) (.slice Lb4 nt1 d4)
                  have sm : Same2 (w.heap.size + 2) X9.heap.size X9 ((((((((X9.setCell ⟨w.heap.size + 1, 0, none⟩ (.string nm1)).setCell ⟨w.heap.size + 1, 1, none⟩ (.int .i64 vr1)).setCell ⟨w.heap.size + 1, 2, none⟩ (.slice A1 nu1 c1)).setCell ⟨w.heap.size + 1, 3, none⟩ (.slice Lb1 nc1 d1)).setCell ⟨w.heap.size + 1, 4, none⟩ (.slice A2 nn1 c2)).setCell ⟨w.heap.size + 1, 5, none⟩ (.slice Lb2 nq1 d2)).setCell ⟨w.heap.size + 1, 6, none⟩ (.slice Lb3 ne1 d3)).setCell ⟨w.heap.size + 1, 7, none⟩ (.slice Lb4 nt1 d4)) := ((((((((Same2.of_set (Nat.lt_succ_self _)).trans (Same2.of_set (Nat.lt_succ_self _))).trans (Same2.of_set (Nat.lt_succ_self _))).trans (Same2.of_set (Nat.lt_succ_self _))).trans (Same2.of_set (Nat.lt_succ_self _))).trans (Same2.of_set (Nat.lt_succ_self _))).trans (Same2.of_set (Nat.lt_succ_self _))).trans (Same2.of_set (Nat.lt_succ_self _)))
                  have smB : SameB (w.heap.size + 2) X9.heap.size X9 ((((((((X9.setCell ⟨w.heap.size + 1, 0, none⟩ (.string nm1)).setCell ⟨w.heap.size + 1, 1, none⟩ (.int .i64 vr1)).setCell ⟨w.heap.size + 1, 2, none⟩ (.slice A1 nu1 c1)).setCell ⟨w.heap.size + 1, 3, none⟩ (.slice Lb1 nc1 d1)).setCell ⟨w.heap.size + 1, 4, none⟩ (.slice A2 nn1 c2)).setCell ⟨w.heap.size + 1, 5, none⟩ (.slice Lb2 nq1 d2)).setCell ⟨w.heap.size + 1, 6, none⟩ (.slice Lb3 ne1 d3)).setCell ⟨w.heap.size + 1, 7, none⟩ (.slice Lb4 nt1 d4)) := ((((((((SameB.of_set (Nat.lt_succ_self _)).trans (SameB.of_set (Nat.lt_succ_self _))).trans (SameB.of_set (Nat.lt_succ_self _))).trans (SameB.of_set (Nat.lt_succ_self _))).trans (SameB.of_set (Nat.lt_succ_self _))).trans (SameB.of_set (Nat.lt_succ_self _))).trans (SameB.of_set (Nat.lt_succ_self _))).trans (SameB.of_set (Nat.lt_succ_self _)))
                  have hz9 : ((((((((X9.setCell ⟨w.heap.size + 1, 0, none⟩ (.string nm1)).setCell ⟨w.heap.size + 1, 1, none⟩ (.int .i64 vr1)).setCell ⟨w.heap.size + 1, 2, none⟩ (.slice A1 nu1 c1)).setCell ⟨w.heap.size + 1, 3, none⟩ (.slice Lb1 nc1 d1)).setCell ⟨w.heap.size + 1, 4, none⟩ (.slice A2 nn1 c2)).setCell ⟨w.heap.size + 1, 5, none⟩ (.slice Lb2 nq1 d2)).setCell ⟨w.heap.size + 1, 6, none⟩ (.slice Lb3 ne1 d3)).setCell ⟨w.heap.size + 1, 7, none⟩ (.slice Lb4 nt1 d4)).heap.size = X9.heap.size := by simp
                  exact ⟨⟨nm1, vr1, ⟨A1, nu1, c1⟩, us1, ⟨Lb1, nc1, d1⟩, m1, ⟨A2, nn1, c2⟩, ru1, ⟨Lb2, nq1, d2⟩, m2, ⟨Lb3, ne1, d3⟩, m3, ⟨Lb4, nt1, d4⟩, m4⟩, rfl, ⟨HN1.out, (by rw [hz9]; exact Row.mono (Row.same2 ff.1 sm) (Nat.zero_le _) (Nat.le_refl _)), (by rw [hz9]; exact GRow.mono (GRow.same2 ff.2.2.2.2.1 conK2 sm) conK (Nat.zero_le _) (Nat.le_refl _)), HN2.out, (by rw [hz9]; exact Row.mono (Row.same2 ff.2.1 sm) (Nat.zero_le _) (Nat.le_refl _)), (by rw [hz9]; exact GRow.mono (GRow.same2 ff.2.2.2.2.2.2.1 eqK2 sm) eqK (Nat.zero_le _) (Nat.le_refl _)), (by rw [hz9]; exact GRow.mono (GRow.same2 ff.2.2.2.2.2.2.2.2.1 rowK2 sm) rowK (Nat.zero_le _) (Nat.le_refl _)), (by rw [hz9]; exact GRow.mono (GRow.same2 ff.2.2.2.2.2.2.2.2.2.2.1 rowK2 sm) rowK (Nat.zero_le _) (Nat.le_refl _))⟩, by simp only [langEM, eqL_refl strE_refl, eqL_refl ruE_refl, HE1.out, HE2.out, HE3.out, HE4.out]; simp, bb, ⟨(OwnF.same ff.2.2.1 smB).own, (OwnF.same ff.2.2.2.1 smB).own, (OwnF.same ff.2.2.2.2.2.1 smB).gl conS2, (OwnF.same ff.2.2.2.2.2.2.2.1 smB).gl eqS2, (OwnF.same ff.2.2.2.2.2.2.2.2.2.1 smB).gl rowS2, (OwnF.same ff.2.2.2.2.2.2.2.2.2.2.2 smB).gl rowS2⟩⟩
end Go.Proofs.YtilemieknfdjnaaGreat

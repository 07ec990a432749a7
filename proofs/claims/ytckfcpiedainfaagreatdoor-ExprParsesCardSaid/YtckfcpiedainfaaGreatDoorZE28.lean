/-
  WALKS over package expr: a tree's nodes as a list.
  WALKS over package expr: list.
  PLAIN: where a text is refused it was right up to there, and something makes it right. No program stands in it.
  PLAIN: two texts with a blank between them. No program stands in it.
  WALKS over the statements' own functions: alike, same.
-/
import Derived.Test.YtckfcpiedainfaaGreatDoorZE27
import Derived.KernelRfl
import Derived.Deep.RegionHeld3
namespace Go.Proofs.YtckfcpiedainfaaGreatDoor
open Go Go.RowKit Go.Sort
set_option linter.unusedVariables false
/-- a number is put behind -/
theorem app_intE {X : World} {ops : Array Oper} {rest : List Oper} {o : Oper} {a : Act} {Q : Exit → Act → World → Prop} (hgd : o.guard = none) (s x : Operand)
    (ho : o.op = .call { callee := .builtin .append, args := #[s, x], argTypes := #[50, 50] })
    (B : Nat) (v : Value) (n : Nat) (l : List Int) (hs : a.eval s = v) (hown : OwnI X B v l) (hl : l.length = n) (g : Nat) (y : Int) (hx : a.eval x = .slice (some ⟨g, 0, none⟩) 1 1) (hg : Blk X g 3 #[.int .i64 y])
    (hroom : n ≤ 100000000) (hB : B ≤ X.heap.size)
    (h : ∀ A' c' w', OwnI w' B (.slice A' (n + 1) c') (l ++ [y]) → X.grownBy w' v.ownBlock → Below B X w' → wpList Tryz.prog ops Q rest (a.put o.dst (.slice A' (n + 1) c')) w') : wpList Tryz.prog ops Q (o :: rest) a X := by
  subst hl
  obtain ⟨i0, hi0, hz0, hz1, hz2⟩ := info_parts intInfo
  refine wpList_app X hgd s x _ ho B 3 i0 (.int .i64 0) 1 8 Tryz.underlying50 hi0 hz0 hz1 hz2 rfl (by decide) v l.length (intCells l) hs hown g (g + 1) (some ⟨g, 0, none⟩) 1 1 (intCells [y]) hx (row_blk hg rfl (Nat.le_refl _) (by unfold maxLen; omega)) (fun u hu => by simp [intCells] at hu; subst hu; rfl) (by unfold maxLen; omega) (by omega) hB ?_
  intro v' w' hown' hg' _
  obtain ⟨A', c', rfl⟩ := own_form hown'
  refine h A' c' w' ?_ hg' ((Below.refl _ _).grown hg' hB (fun k hk => (World.ownsRow.lt hown k hk).1))
  unfold OwnI
  rw [List.length_append, List.length_singleton]
  simpa [intCells] using hown'
theorem OwnI.allocE {w : World} {B : Nat} {v : Value} {l : List Int} (h : OwnI w B v l) (o : Obj) : OwnI (w.alloc o) B v l := World.ownsRow.alloc h o
theorem OwnI.neE {w : World} {B g : Nat} {v : Value} {l : List Int} {cs : Array Value} (h : OwnI w B v l) (hg : Blk w g 52 cs) : some g ≠ v.ownBlock := by
  unfold OwnI at h
  exact Ne.symm (own_blk_ne h hg (by decide))
theorem OwnI.setE {w : World} {B g : Nat} {v : Value} {l : List Int} {cs : Array Value} (h : OwnI w B v l) (hg : Blk w g 52 cs) (i : Nat) (u : Value) : OwnI (w.setCell ⟨g, i, none⟩ u) B v l := by
  unfold OwnI at *
  exact own_other h hg (by decide) i u
/-- the boxes of list, and the nodes so far -/
structure LS (w : World) (go gm : Nat) (m : List (EN × Sl)) (A : Option Addr) (c : Nat) (X : World) : Prop where
  bel : Below w.heap.size w X
  g0 : w.heap.size ≤ go
  g1 : w.heap.size ≤ gm
  ne : gm ≠ go
  o : Blk X go 22 #[.slice A m.length c]
  f : Blk X gm 84 #[.func (.func 34) #[] #[.pointer (some ⟨go, 0, none⟩), .pointer (some ⟨gm, 0, none⟩)]]
  g : GE w.heap.size (.slice A m.length c) m X
theorem LS.after {w X X' : World} {go gm c : Nat} {m : List (EN × Sl)} {A : Option Addr} (h : LS w go gm m A c X) (hb : Below X.heap.size X X') : LS w go gm m A c X' := ⟨h.bel.trans (hb.mono h.bel.size), h.g0, h.g1, h.ne, h.o.after hb, h.f.after hb, h.g.after enOK hb⟩
theorem GE.setboxL {B g i : Nat} {ov : Value} {l : List (EN × Sl)} {X : World} {cs : Array Value} (h : GE B ov l X) (hg : Blk X g 22 cs) (u : Value) : GE B ov l (X.setCell ⟨g, i, none⟩ u) :=
  ⟨⟨own_other h.own hg (by decide) i u, fun x hx => ⟨(h.leaf x hx).kn, own_other (h.leaf x hx).k hg (by decide) i u⟩⟩, List.Pairwise.imp (fun ⟨k, h0, h1, h2⟩ => ⟨k, h0, h1, h2.kn, own_other h2.k hg (by decide) i u⟩) h.ap⟩
/-- a node is put behind, and the box is written -/
theorem LS.push {w X X' : World} {go gm c c' : Nat} {m : List (EN × Sl)} {A A' : Option Addr} {p : EN × Sl} (h : LS w go gm m A c X) (hg : X.grownBy X' (Value.slice A m.length c).ownBlock) (hG : GE w.heap.size (.slice A' (m.length + 1) c') (m ++ [p]) X') :
    X'.cell? ⟨go, 0, none⟩ = some (.slice A m.length c) ∧ X'.frozen? ⟨go, 0, none⟩ = false ∧ LS w go gm (m ++ [p]) A' c' (X'.setCell ⟨go, 0, none⟩ (.slice A' (m.length + 1) c')) := by
  have ho := h.o.grown hg (Ne.symm (own_blk_ne h.g.own h.o (by decide)))
  have hf := h.f.grown hg (Ne.symm (own_blk_ne h.g.own h.f (by decide)))
  have hb := below_grows h.bel hg h.g.own (Nat.le_refl _)
  have hl : (m ++ [p]).length = m.length + 1 := by rw [List.length_append]; rfl
  refine ⟨(ho.cell 0).trans rfl, ho.frozen 0, hb.setCell (p := ⟨go, 0, none⟩) h.g0 _, h.g0, h.g1, h.ne, ?_, hf.far (p := ⟨go, 0, none⟩) h.ne _, ?_⟩
  · rw [hl]; simpa using ho.set_ 0 (.slice A' (m.length + 1) c')
  · rw [hl]; exact GE.setboxL hG ho _
theorem nodes_row (t : Tr) (p : Nat) : (row1 t).nodes p = ⟨t.k, t.s, t.i, t.a.offs (p + 1)⟩ :: t.a.nodes (p + 1) := by
  show _ :: (t.a.nodes (p + 1) ++ []) = _
  rw [List.append_nil]
theorem nodes_cons (t : Tr) (r : Fo) (p : Nat) : (Fo.cons t.k t.s t.i t.a r).nodes p = (row1 t).nodes p ++ r.nodes (p + t.size) := by
  rw [nodes_row]
  show _ :: (t.a.nodes (p + 1) ++ r.nodes (p + 1 + t.a.size)) = _
  rw [show p + t.size = p + 1 + t.a.size from by show p + (1 + t.a.size) = _; omega]
  rfl
/-- what the first loop keeps -/
structure LA (w X : World) (B : Nat) (t : Tr) (qs : List Value) (p : Nat) (j kn : Nat) (A1 : Option Addr) (c1 : Nat) (wr : World) (rest : Fo) (acc : List Int) : Prop where
  ts : TsIn w B rest (qs.drop j)
  eq : acc ++ rest.offs kn = t.a.offs (p + 1)
  sz : kn + rest.size = p + 1 + t.a.size
  len : acc.length = j
  bel : Below X.heap.size X wr
  bk : Blk wr X.heap.size 52 #[.int .i64 t.k, .string t.s, .int .i64 t.i, .slice A1 j c1]
  own : OwnI wr X.heap.size (.slice A1 j c1) acc
set_option maxHeartbeats 6400000 in
set_option maxRecDepth 20000 in
theorem listMeet_any (w : World) (go gm B : Nat) : ∀ (N : Nat) (t : Tr) (b : Nat) (X : World) (m : List (EN × Sl)) (A : Option Addr) (c : Nat), t.size ≤ N → TIn w B b t → LS w go gm m A c X → m.length + t.size ≤ 1000000 →
    Calls Tryz.prog 34 #[.pointer (some ⟨b, 0, none⟩), .pointer (some ⟨go, 0, none⟩), .pointer (some ⟨gm, 0, none⟩)] X (fun e X' => e = .returned (.tuple #[]) ∧ ∃ m' A' c', LS w go gm m' A' c' X' ∧ nodesOf m' = nodesOf m ++ (row1 t).nodes m.length) := by
  intro N
  induction N with
  | zero => intro t b X m A c hN; exact absurd hN (by show ¬ 1 + t.a.size ≤ 0; omega)
  | succ N ih =>
  intro t b X m A c hN hT hL hroom
  have hen := enters_of Tryz.func34 (by kernel_rfl) rfl
  have hts0 : t.size = 1 + t.a.size := rfl
  obtain ⟨v, qs, hBb, hbk, hpr, hts⟩ := hT
  obtain ⟨Ak, ck, rfl, hcell⟩ := prow_form hpr
  have HC := Lib.hid hcell
  have HT := Lib.hid hts
  have HL := Lib.hid hL
  have HN := Lib.hid hN
  have HIH := Lib.hid ih
  have hql : qs.length = t.a.count := hts.len
  have hcs := Fo.count_le t.a
  have hqm : qs.length ≤ 1000000 := by omega
  have HQL := Lib.hid hql
  clear hql hcs
  have c0 := (hL.bel.cell (p := ⟨b, 0, none⟩) hbk.lt).trans ((hbk.cell 0).trans (show _ = some (.int .i64 t.k) from rfl))
  have c1 := (hL.bel.cell (p := ⟨b, 1, none⟩) hbk.lt).trans ((hbk.cell 1).trans (show _ = some (.string t.s) from rfl))
  have c2 := (hL.bel.cell (p := ⟨b, 2, none⟩) hbk.lt).trans ((hbk.cell 2).trans (show _ = some (.int .i64 t.i) from rfl))
  have c3 := (hL.bel.cell (p := ⟨b, 3, none⟩) hbk.lt).trans ((hbk.cell 3).trans (show _ = some (.slice none 0 0) from rfl))
  have c4 := (hL.bel.cell (p := ⟨b, 4, none⟩) hbk.lt).trans ((hbk.cell 4).trans (show _ = some (.slice Ak qs.length ck) from rfl))
  have co := (hL.o.cell 0).trans (show _ = some (.slice A m.length c) from rfl)
  have HC4 : Hid (∀ Y, Below X.heap.size X Y → Y.cell? ⟨go, 0, none⟩ = some (.slice A m.length c) ∧ Y.cell? ⟨b, 4, none⟩ = some (.slice Ak qs.length ck)) := Lib.hid fun Y hY => ⟨(hY.cell (p := ⟨go, 0, none⟩) hL.o.lt).trans co, (hY.cell (p := ⟨b, 4, none⟩) (Nat.lt_of_lt_of_le hbk.lt hL.bel.size)).trans c4⟩
  have HC4w : Hid (w.cell? ⟨b, 4, none⟩ = some (.slice Ak qs.length ck)) := Lib.hid ((hbk.cell 4).trans rfl)
  have HBL : Hid (b < w.heap.size) := Lib.hid hbk.lt
  have hw1 : IntKind.i64.wrap ((m.length : Int) + 1) = (m.length : Int) + 1 := IntWalk.i64_in _ (by omega)
  have HB0 : Hid (Below X.heap.size X (X.alloc (.cells #[.int .i64 t.k, .string t.s, .int .i64 t.i, .slice none 0 0] 52))) := Lib.hid (below_of_alloc _)
  have HK0 : Hid (Blk (X.alloc (.cells #[.int .i64 t.k, .string t.s, .int .i64 t.i, .slice none 0 0] 52)) X.heap.size 52 #[.int .i64 t.k, .string t.s, .int .i64 t.i, .slice none 0 0]) := Lib.hid (Blk.new _ _ _)
  clear hbk hpr hts hL hcell hN ih co c4
  go_enter Tryz.func34, Tryz.ntmps34
  go_upto_region 1 with (fail)
  generalize X.alloc (.cells #[.int .i64 t.k, .string t.s, .int .i64 t.i, .slice none 0 0] 52) = Y0 at HB0 HK0 ⊢
  obtain ⟨co, c4⟩ := HC4.out Y0 HB0.out
  clear c0 c1 c2 c3
  go_wp2_with fail
  clear co c4
  go_loopw [22, 5, 7] (fun i kd kk wr => ∃ (j kn : Nat), j ≤ qs.length ∧ i = .int .i64 j ∧ kd = .int .i64 kn ∧ Hid (∃ A1 c1 rest acc, LA w X B t qs m.length j kn A1 c1 wr rest acc)) (fun i _ _ _ => qs.length - (intOf i).toNat)
  case atStart => exact ⟨0, m.length + 1, Nat.zero_le _, rfl, by simp, Lib.hid ⟨none, 0, t.a, [], by simpa using HT.out, rfl, rfl, rfl, HB0.out, HK0.out, World.ownsRow_nil _ _ _ _⟩⟩
  case round =>
    obtain ⟨j, kn, hj, rfl, rfl, HI⟩ := hrel
    rename World => wr
    obtain ⟨A1, c1, rest, acc, hI⟩ := HI.out
    by_cases hlt : j < qs.length
    · obtain ⟨q, hq⟩ : ∃ q, qs[j]? = some q := ⟨qs[j], List.getElem?_eq_getElem hlt⟩
      obtain ⟨qb, rfl, hqc⟩ := HC.out j q hq
      obtain ⟨b', t', r, rfl, rfl, hT', hR⟩ := tsIn_drop hI.ts hq
      have d0 : decide ((j : Int) < (qs.length : Int)) = true := decide_eq_true (by omega)
      obtain ⟨v', qs', hb', hbk', _, _⟩ := hT'
      have hx := HL.out.bel.trans (hI.bel.mono HL.out.bel.size)
      have q1 := (hx.cell (World.block_lt_of_cell? w _ hqc)).trans hqc
      have tb5 : w.cell? ⟨b', 5, none⟩ = some (.int .i64 ((1 + t'.a.size : Nat) : Int)) := (hbk'.cell 5).trans rfl
      have tl5 := hbk'.lt
      have s3 := (hI.bk.cell 3).trans (show _ = some (.slice A1 j c1) from rfl)
      have e1 := hI.sz
      rw [fo_size1] at e1
      have w2 : IntKind.i64.wrap ((kn : Int) + ((1 + t'.a.size : Nat) : Int)) = ((kn + (1 + t'.a.size) : Nat) : Int) := by rw [IntWalk.i64_in _ (by omega)]; omega
      have HI2 := Lib.hid hI
      have HR := Lib.hid hR
      have HT5 : Hid (∀ Y, Below X.heap.size X Y → Y.cell? ⟨b', 5, none⟩ = some (.int .i64 ((1 + t'.a.size : Nat) : Int))) := Lib.hid fun Y hY => ((HL.out.bel.trans (hY.mono HL.out.bel.size)).cell (p := ⟨b', 5, none⟩) tl5).trans tb5
      clear hI hx hbk' hqc hR hq tb5
      go_upto_region 6 with (at_builtin; with_reducible show wpList _ _ _ (⟨some 30, _, _, _, _, _⟩ :: _) _ _; go_must (refine app_intE (o := ⟨some 30, _, _, _, _, _⟩) rfl (.tmp 27) (.tmp 29) rfl X.heap.size (.slice A1 j c1) j acc rfl (HI2.out.own.allocE _) HI2.out.len wr.heap.size kn rfl (Blk.new _ _ _) (by omega) (by have := HI2.out.bel.size; simp; omega) ?_; intro A4 c4 w4 hown4 hg4 hb4; have hk4 := (HI2.out.bk.alloc (.cells #[.int .i64 kn] 3)).grown hg4 ((HI2.out.own.allocE (.cells #[.int .i64 kn] 3)).neE (HI2.out.bk.alloc (.cells #[.int .i64 kn] 3))); have s4 := (hk4.cell 3).trans (show _ = some (.slice A1 j c1) from rfl); have f4 := hk4.frozen 3; have HK5 : Hid (Blk (w4.setCell ⟨X.heap.size, 3, none⟩ (.slice A4 (j + 1) c4)) X.heap.size 52 #[.int .i64 t.k, .string t.s, .int .i64 t.i, .slice A4 (j + 1) c4]) := Lib.hid (by simpa using hk4.set_ 3 (.slice A4 (j + 1) c4)); have HB5 : Hid (Below X.heap.size X (w4.setCell ⟨X.heap.size, 3, none⟩ (.slice A4 (j + 1) c4))) := Lib.hid (((below_more HI2.out.bel _).trans hb4).setCell (p := ⟨X.heap.size, 3, none⟩) (Nat.le_refl _) _); have HO5 : Hid (OwnI (w4.setCell ⟨X.heap.size, 3, none⟩ (.slice A4 (j + 1) c4)) X.heap.size (.slice A4 (j + 1) c4) (acc ++ [(kn : Int)])) := Lib.hid (hown4.setE hk4 3 (.slice A4 (j + 1) c4)); clear hown4 hg4 hb4 hk4))
      generalize w4.setCell ⟨X.heap.size, 3, none⟩ (.slice A4 (j + 1) c4) = w5 at HK5 HB5 HO5 ⊢
      clear s4 f4 s3 q1
      have t5 := HT5.out w5 HB5.out
      go_wp2_with fail
      go_roundw
      case measure => simp only [intOf]; omega
      case rel => exact ⟨j + 1, kn + (1 + t'.a.size), by omega, by simp, by simp, Lib.hid ⟨A4, c4, r, acc ++ [(kn : Int)], HR.out, by
        have h1 := HI2.out.eq
        have h2 : (Fo.cons t'.k t'.s t'.i t'.a r).offs kn = (kn : Int) :: r.offs (kn + 1 + t'.a.size) := rfl
        rw [h2] at h1
        rw [← h1, List.append_assoc, show kn + (1 + t'.a.size) = kn + 1 + t'.a.size from by omega]; rfl, by omega, by rw [List.length_append, List.length_singleton, HI2.out.len], HB5.out, HK5.out, HO5.out⟩⟩
    · obtain rfl : j = qs.length := by omega
      have d0 : decide ((qs.length : Int) < (qs.length : Int)) = false := decide_eq_false (by omega)
      have hr := tsIn_end hI.ts (by omega)
      subst hr
      have hacc : acc = t.a.offs (m.length + 1) := by
        have := hI.eq
        have h2 : (Fo.nil).offs kn = [] := rfl
        rw [h2, List.append_nil] at this
        exact this
      subst hacc
      have HLr := Lib.hid (HL.out.after hI.bel)
      have co := (HLr.out.o.cell 0).trans (show _ = some (.slice A m.length c) from rfl)
      have n0 := (hI.bk.cell 0).trans (show _ = some (.int .i64 t.k) from rfl)
      have n1 := (hI.bk.cell 1).trans (show _ = some (.string t.s) from rfl)
      have n2 := (hI.bk.cell 2).trans (show _ = some (.int .i64 t.i) from rfl)
      have n3 := (hI.bk.cell 3).trans (show _ = some (.slice A1 qs.length c1) from rfl)
      have HI2 := Lib.hid hI
      have HX0 : Hid (X.heap.size ≤ wr.heap.size ∧ w.heap.size ≤ X.heap.size) := Lib.hid ⟨hI.bel.size, HL.out.bel.size⟩
      clear hI
      obtain ⟨i2, hi2, hz2, hs2, hbb2⟩ := info_parts enInfo
      have HGa := Lib.hid (HLr.out.g.after enOK (below_of_alloc (X := wr) (.cells #[.int .i64 t.k, .string t.s, .int .i64 t.i, .slice A1 qs.length c1] 52)))
      have HLa := Lib.hid (HLr.out.after (below_of_alloc (X := wr) (.cells #[.int .i64 t.k, .string t.s, .int .i64 t.i, .slice A1 qs.length c1] 52)))
      go_upto_region 9 with (at_builtin; with_reducible show wpList _ _ _ (⟨some 42, _, _, _, _, _⟩ :: _) _ _; go_must (refine wpList_app (o := ⟨some 42, _, _, _, _, _⟩) _ rfl (.tmp 39) (.tmp 41) _ rfl w.heap.size 52 i2 _ 4 56 Tryz.underlying22 hi2 hz2 hs2 hbb2 rfl (by omega) (.slice A m.length c) m.length (m.flatMap enC) rfl HGa.out.own wr.heap.size (wr.heap.size + 1) (some ⟨wr.heap.size, 0, none⟩) 1 1 [.int .i64 t.k, .string t.s, .int .i64 t.i, .slice A1 qs.length c1] rfl (row_blk (heap_alloc_new wr _) rfl (Nat.le_refl _) (by unfold maxLen; omega)) (en_one ⟨t.k, t.s, t.i, t.a.offs (m.length + 1)⟩ A1 qs.length c1) (by unfold maxLen; omega) (by omega) (by have := HX0.out; simp; omega) ?_); go_must (intro v2 W6 hown2 hgr2 _; have HG6 := Lib.hid (GL.push (p := ((⟨t.k, t.s, t.i, t.a.offs (m.length + 1)⟩ : EN), (⟨A1, qs.length, c1⟩ : Sl))) HGa.out enOK hgr2 hown2 ⟨HI2.out.len.symm, own_mono (own_after (by have := HI2.out.own; unfold OwnI at this; rw [HI2.out.len] at this; exact this) (below_of_alloc _)) HX0.out.2⟩ HX0.out.2 (fun g hg => enLt (HL.out.g.leaf g hg)) ⟨HI2.out.len.symm, own_after (by have := HI2.out.own; unfold OwnI at this; rw [HI2.out.len] at this; exact this) (below_of_alloc _)⟩); obtain ⟨A2, c2, rfl⟩ := own_form hown2; obtain ⟨u1, u2, hL7⟩ := HLa.out.push hgr2 HG6.out; have HL7 := Lib.hid hL7; clear hL7 hown2 hgr2))
      generalize W6.setCell ⟨go, 0, none⟩ (.slice A2 (m.length + 1) c2) = w7 at HL7 ⊢
      clear u1 u2 co n0 n1 n2 n3 HG6 HGa HLa HLr
      generalize hm1 : m ++ [((⟨t.k, t.s, t.i, t.a.offs (m.length + 1)⟩ : EN), (⟨A1, qs.length, c1⟩ : Sl))] = m1 at HL7
      have HM1 : Hid (nodesOf m1 = nodesOf m ++ [⟨t.k, t.s, t.i, t.a.offs (m.length + 1)⟩]) := Lib.hid (by rw [← hm1]; simp [nodesOf])
      have HM1l : Hid (m1.length = m.length + 1) := Lib.hid (by rw [← hm1, List.length_append]; rfl)
      clear hm1
      have c4 := (HL7.out.bel.cell (p := ⟨b, 4, none⟩) HBL.out).trans HC4w.out
      go_wp2_with fail
      clear c4
      go_loopw [48, 9] (fun i kk wx => ∃ j : Nat, j ≤ qs.length ∧ i = .int .i64 j ∧ Hid (∃ rest m' A' c', TsIn w B rest (qs.drop j) ∧ LS w go gm m' A' c' wx ∧ nodesOf m' ++ rest.nodes m'.length = nodesOf m ++ (row1 t).nodes m.length ∧ m'.length + rest.size = m.length + t.size ∧ m.length + 1 ≤ m'.length)) (fun i _ _ => qs.length - (intOf i).toNat)
      case atStart => exact ⟨0, Nat.zero_le _, rfl, Lib.hid ⟨t.a, m1, A2, c2, by simpa using HT.out, HL7.out, by rw [HM1.out, HM1l.out, nodes_row]; simp, by rw [HM1l.out]; omega, by rw [HM1l.out]; exact Nat.le_refl _⟩⟩
      case round =>
        obtain ⟨j, hj, rfl, HJ⟩ := hrel
        rename World => wx
        obtain ⟨rest, m', A', c', hts', hL', hnd, hsz, hml⟩ := HJ.out
        by_cases hlt : j < qs.length
        · obtain ⟨q, hq⟩ : ∃ q, qs[j]? = some q := ⟨qs[j], List.getElem?_eq_getElem hlt⟩
          obtain ⟨qb, rfl, hqc⟩ := HC.out j q hq
          obtain ⟨b', t', r, rfl, rfl, hT', hR⟩ := tsIn_drop hts' hq
          have d0 : decide ((j : Int) < (qs.length : Int)) = true := decide_eq_true (by omega)
          have q1 := (hL'.bel.cell (World.block_lt_of_cell? w _ hqc)).trans hqc
          have f0 := (hL'.f.cell 0).trans (show _ = some (.func (.func 34) #[] #[.pointer (some ⟨go, 0, none⟩), .pointer (some ⟨gm, 0, none⟩)]) from rfl)
          have hsz2 : (Fo.cons t'.k t'.s t'.i t'.a r).size = t'.size + r.size := rfl
          have hsz3 : 1 ≤ t'.size := by show 1 ≤ 1 + _; omega
          have HN' := HN.out
          have hmono : t'.size ≤ t.a.size := by omega
          have HCA := Lib.hid (HIH.out t' b' wx m' A' c' (by omega) hT' hL' (by omega))
          have HND := Lib.hid hnd
          have HR := Lib.hid hR
          rw [hsz2] at hsz
          clear hts' hL' hnd hT' hR hqc hq HJ
          go_wp2_with ((with_reducible refine HCA.out.mono ?_); go_must (rintro e wy ⟨rfl, m2, A3, c3, hL3, hn3⟩; have HL3 := Lib.hid hL3; have HN3 := Lib.hid hn3; clear hL3 hn3))
          go_roundw
          case measure => simp only [intOf]; omega
          case rel =>
            have hl3 : m2.length = m'.length + t'.size := by
              have := congrArg List.length HN3.out
              rw [nodesOf_len, List.length_append, nodesOf_len, nodes_len, row1_size] at this
              exact this
            refine ⟨j + 1, by omega, by simp, Lib.hid ⟨r, m2, A3, c3, HR.out, HL3.out, ?_, by omega, by omega⟩⟩
            rw [HN3.out, hl3, List.append_assoc, ← nodes_cons]
            exact HND.out
        · obtain rfl : j = qs.length := by omega
          have d0 : decide ((qs.length : Int) < (qs.length : Int)) = false := decide_eq_false (by omega)
          have hr := tsIn_end hts' (by omega)
          subst hr
          have hnn : (Fo.nil).nodes m'.length = [] := rfl
          rw [hnn, List.append_nil] at hnd
          have HE := Lib.hid (And.intro hL' hnd)
          clear hL' hnd hts' HJ
          go_wp2_with fail
          (try simp only [Exit.inBlock, Exit.then])
          refine bodyPost_end (results_none (by kernel_rfl) _ _ _) rfl ?_
          exact ⟨rfl, m', A', c', HE.out.1, HE.out.2⟩
end Go.Proofs.YtckfcpiedainfaaGreatDoor
namespace Go.Proofs.YtckfcpiedainfaaGreatDoor
open Go Go.RowKit Go.Sort
set_option linter.unusedVariables false
def ListPost (w : World) (l : List EN) (e : Ending) (w' : World) : Prop := ∃ (A : Option Addr) (c : Nat) (m : List (EN × Sl)), e = .returned (.slice A m.length c) ∧ nodesOf m = l ∧ GE w.heap.size (.slice A m.length c) m w' ∧ Below w.heap.size w w'
set_option maxHeartbeats 1600000 in
set_option maxRecDepth 20000 in
theorem list_any (w : World) (B b : Nat) (t : Tr) (hT : TIn w B b t) (hz : t.size ≤ 1000000) :
    Calls Tryz.prog 19 #[.pointer (some ⟨b, 0, none⟩)] w (ListPost w t.list) := by
  have HT := Lib.hid hT
  obtain ⟨v, qs, hBb, hbk, hpr, hts⟩ := hT
  have hen := enters_of Tryz.func34 (by kernel_rfl) rfl
  have t5 := (hbk.cell 5).trans (show _ = some (.int .i64 (t.size : Int)) from rfl)
  generalize hsz : t.size = sz at hz t5
  have hmf : ∀ (fn : Fn) (first cap : Array Value) (w : World), (Instr.makeFunc fn first cap).run Tryz.prog w = .ok (.func fn first cap) w := fun _ _ _ _ => rfl
  clear hbk hpr hts
  obtain ⟨i2, hi2, hz2, hs2, hbb2⟩ := info_parts enInfo
  obtain ⟨w1, hmk, hown, hgr⟩ := run_make_own w w.heap.size 22 52 i2 _ 4 Tryz.underlying22 hi2 hz2 hs2 .i64 .i64 sz (by rw [hbb2]; omega) (by unfold maxLen; omega) (Nat.le_refl _)
  have hb1 : Below w.heap.size w w1 := ⟨hgr.os, hgr.tape, hgr.output, hgr.size, fun k hk => hgr.block k hk (by simp)⟩
  have HLS : Hid (LS w w1.heap.size (w1.heap.size + 1) [] (some ⟨w.heap.size, 0, none⟩) sz ((w1.alloc (.cells #[.slice (some ⟨w.heap.size, 0, none⟩) 0 sz] 22)).alloc (.cells #[.func (.func 34) #[] #[.pointer (some ⟨w1.heap.size, 0, none⟩), .pointer (some ⟨w1.heap.size + 1, 0, none⟩)]] 84))) := Lib.hid
    ⟨below_more (below_more hb1 _) _, hb1.size, by have := hb1.size; omega, by omega, Blk.alloc (Blk.new _ _ _) _, Blk.new' (by simp), ⟨⟨World.ownsRow.alloc (World.ownsRow.alloc hown _) _, by simp⟩, List.Pairwise.nil⟩⟩
  have HZ : Hid (0 + t.size ≤ 1000000) := Lib.hid (by omega)
  clear hown hgr hi2 hz2 hs2 hbb2 hb1
  go_enter Tryz.func19, Tryz.ntmps19
  go_upto_region 4 with (fail)
  generalize (w1.alloc (.cells #[.slice (some ⟨w.heap.size, 0, none⟩) 0 sz] 22)).alloc (.cells #[.func (.func 34) #[] #[.pointer (some ⟨w1.heap.size, 0, none⟩), .pointer (some ⟨w1.heap.size + 1, 0, none⟩)]] 84) = W at HLS ⊢
  have f0 := (HLS.out.f.cell 0).trans (show _ = some (.func (.func 34) #[] #[.pointer (some ⟨w1.heap.size, 0, none⟩), .pointer (some ⟨w1.heap.size + 1, 0, none⟩)]) from rfl)
  have HCA := Lib.hid (listMeet_any w w1.heap.size (w1.heap.size + 1) B t.size t b W [] _ _ (Nat.le_refl _) HT.out HLS.out HZ.out)
  clear hmk t5
  go_wp2_with ((with_reducible refine HCA.out.mono ?_); go_must (rintro e wy ⟨rfl, m2, A3, c3, hL3, hn3⟩; have HL3 := Lib.hid hL3; have HN3 := Lib.hid hn3; have co := (hL3.o.cell 0).trans (show _ = some (.slice A3 m2.length c3) from rfl); clear hL3 hn3))
  go_ret
  exact ⟨A3, c3, m2, rfl, HN3.out, HL3.out.g, HL3.out.bel⟩
end Go.Proofs.YtckfcpiedainfaaGreatDoor
namespace Go.Proofs.YtckfcpiedainfaaGreatDoor
open Go
set_option linter.unusedVariables false
theorem scanR_cases (S : List UInt8) : (4096 < S.length ∧ scanR S = ([], 0, 3)) ∨ (S.length ≤ 4096 ∧ ∃ l, scanT 0 S = (some l, 0) ∧ scanR S = (l, 0, 0)) ∨ (S.length ≤ 4096 ∧ ∃ n, scanT 0 S = (none, n) ∧ scanR S = ([], n, 70)) := by
  by_cases h : 4096 < S.length
  · left; refine ⟨h, ?_⟩; unfold scanR; rw [if_pos h]
  · right
    rcases hs : scanT 0 S with ⟨o, n⟩
    cases o with
    | some l =>
      left
      obtain rfl := scanT_zero _ _ _ _ _ (Nat.le_refl _) hs
      refine ⟨by omega, l, rfl, ?_⟩; unfold scanR; rw [if_neg h, hs]
    | none => right; refine ⟨by omega, n, rfl, ?_⟩; unfold scanR; rw [if_neg h, hs]
end Go.Proofs.YtckfcpiedainfaaGreatDoor
namespace Go.Proofs.YtckfcpiedainfaaGreatDoor
open Go
set_option linter.unusedVariables false
/-- places moved on -/
def Tok.up (k : Tok) (q : Nat) : Tok := { k with place := k.place + q }
end Go.Proofs.YtckfcpiedainfaaGreatDoor
namespace Go.Proofs.YtckfcpiedainfaaGreatDoor
open Go Go.RowKit
set_option linter.unusedVariables false
/-- a token but for its place -/
def Tok.core (k : Tok) : Tok := { k with place := 0 }
def AlikeL (l m : List Tok) : Prop := l.map Tok.core = m.map Tok.core
theorem AlikeL.len {l m : List Tok} (h : AlikeL l m) : l.length = m.length := by
  have := congrArg List.length h
  simpa using this
theorem AlikeL.at_ {l m : List Tok} (h : AlikeL l m) {i : Nat} {a b : Tok} (ha : l[i]? = some a) (hb : m[i]? = some b) : a.core = b.core := by
  have := congrArg (fun x => x[i]?) h
  simp only [List.getElem?_map, ha, hb, Option.map_some, Option.some.injEq] at this
  exact this
theorem AlikeL.refl (l : List Tok) : AlikeL l l := rfl
end Go.Proofs.YtckfcpiedainfaaGreatDoor

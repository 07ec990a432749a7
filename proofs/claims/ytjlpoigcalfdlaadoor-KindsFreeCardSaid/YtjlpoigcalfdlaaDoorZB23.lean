/-
  WALKS over the document's answers for layer 8: Twin.
  WALKS over the laws of layer 9: KindsOf.
  WALKS over the laws of layer 9: KindsFree.
-/
import Derived.Test.YtjlpoigcalfdlaaDoorZB22
namespace Go.Proofs.YtjlpoigcalfdlaaDoor
open Go Go.RowKit Go.Sort
set_option linter.unusedVariables false
theorem enInfo : (Tryd.prog.info? 46).map (fun i => (i.zero, i.size, i.bytes)) = some (some (.agg #[.int .i64 0, .string ByteArray.empty, .int .i64 0, .slice none 0 0]), 4, 56) := by kernel_rfl
theorem en_one (x : EN) (A : Option Addr) (n c : Nat) : ∀ u ∈ [Value.int .i64 x.kind, .string x.text, .int .i64 x.int, .slice A n c], u.oneCell' = true := by
  intro u hu
  simp at hu
  rcases hu with rfl | rfl | rfl | rfl <;> rfl
/-- a node whose kids lie in own memory -/
structure EnOwn (w : World) (B : Nat) (x : EN × Sl) : Prop where
  kn : x.2.n = x.1.kids.length
  k : w.ownsRow B 3 1 (.slice x.2.A x.2.n x.2.c) x.2.n (intCells x.1.kids)
theorem enOK : OwnK EnOwn 46 := ⟨fun h hb => ⟨h.kn, own_after h.k hb⟩, fun h ho hg => ⟨h.kn, own_kept h.k ho (by decide) hg⟩, fun h hB => ⟨h.kn, own_mono h.k hB⟩⟩
theorem EnOwn.in_ {w : World} {B : Nat} {x : EN × Sl} (h : EnOwn w B x) : EnIn w B w.heap.size x := ⟨h.kn, own_row h.k⟩
theorem enLt {X : World} {B : Nat} {g : EN × Sl} (h : EnOwn X B g) : Below' enC X.heap.size g := by
  intro v hv j hj
  simp only [enC, List.mem_cons, List.not_mem_nil, or_false] at hv
  rcases hv with rfl | rfl | rfl | rfl
  · simp [Value.ownBlock] at hj
  · simp [Value.ownBlock] at hj
  · simp [Value.ownBlock] at hj
  · exact own_lt' h.k hj
abbrev GE := GL enC EnOwn 46 4
theorem GL.setbox {B g i : Nat} {ov : Value} {l : List (EN × Sl)} {X : World} {cs : Array Value} (h : GE B ov l X) (hg : Blk X g 24 cs) (u : Value) : GE B ov l (X.setCell ⟨g, i, none⟩ u) :=
  ⟨⟨own_other h.own hg (by decide) i u, fun x hx => ⟨(h.leaf x hx).kn, own_other (h.leaf x hx).k hg (by decide) i u⟩⟩, List.Pairwise.imp (fun ⟨k, h0, h1, h2⟩ => ⟨k, h0, h1, h2.kn, own_other h2.k hg (by decide) i u⟩) h.ap⟩
/-- the boxes of Twin -/
structure TB (w : World) (A : Option Addr) (n c : Nat) (v : Value) (X : World) : Prop where
  bel : Below w.heap.size w X
  e : Blk X w.heap.size 24 #[.slice A n c]
  r : Blk X (w.heap.size + 1) 24 #[.slice none 0 0]
  o : Blk X (w.heap.size + 1 + 1) 24 #[v]
section
variable {w : World} {A : Option Addr} {n c : Nat} {v : Value} {X X' : World}
theorem TB.after (h : TB w A n c v X) (hb : Below X.heap.size X X') : TB w A n c v X' := ⟨h.bel.trans (hb.mono h.bel.size), h.e.after hb, h.r.after hb, h.o.after hb⟩
theorem TB.kept (h : TB w A n c v X) {B m : Nat} {e : TypeId} {size : Nat} {v' : Value} {xs : List Value} (ho : X.ownsRow B e size v' m xs) (hne : e ≠ 24) (hB : w.heap.size ≤ B) (hg : X.grownBy X' v'.ownBlock) : TB w A n c v X' :=
  ⟨below_grows h.bel hg ho hB, h.e.grown hg (Ne.symm (own_blk_ne ho h.e hne)), h.r.grown hg (Ne.symm (own_blk_ne ho h.r hne)), h.o.grown hg (Ne.symm (own_blk_ne ho h.o hne))⟩
theorem TB.set (h : TB w A n c v X) (u : Value) : TB w A n c u (X.setCell ⟨w.heap.size + 1 + 1, 0, none⟩ u) :=
  ⟨h.bel.setCell (p := ⟨w.heap.size + 1 + 1, 0, none⟩) (by show w.heap.size ≤ w.heap.size + 1 + 1; omega) _, h.e.far (p := ⟨w.heap.size + 1 + 1, 0, none⟩) (by show w.heap.size ≠ w.heap.size + 1 + 1; omega) _, h.r.far (p := ⟨w.heap.size + 1 + 1, 0, none⟩) (by show w.heap.size + 1 ≠ w.heap.size + 1 + 1; omega) _, by simpa using h.o.set_ 0 u⟩
end
theorem nodesOf_snoc {l m : List (EN × Sl)} {k : Nat} {x y : EN × Sl} (h : nodesOf m = (nodesOf l).take k) (hx : l[k]? = some x) (hy : y.1 = x.1) : nodesOf (m ++ [y]) = (nodesOf l).take (k + 1) := by
  rw [List.take_add_one, nodesOf_at hx, ← h]
  simp [nodesOf, hy]
/-- an expression in memory of its own -/
def TwinIs (w : World) (l : List (EN × Sl)) (e : Ending) (w' : World) : Prop := ∃ (A : Option Addr) (c : Nat) (m : List (EN × Sl)), e = .returned (.agg #[.slice A l.length c]) ∧ GE (w.heap.size + 3) (.slice A l.length c) m w' ∧ nodesOf m = nodesOf l ∧ Below w.heap.size w w'
set_option maxRecDepth 20000 in
set_option maxHeartbeats 6400000 in
theorem twinE_any (w : World) (hi : Nat) (A : Option Addr) (n c : Nat) (l : List (EN × Sl)) (hl : ExIn w hi ⟨A, n, c⟩ l) (hh : hi ≤ w.heap.size) (h56 : n * 56 ≤ 140737488351232) (hk8 : ∀ x ∈ l, x.2.n * 8 ≤ 140737488351232) :
    Calls Tryd.prog 5 #[.agg #[.slice A n c]] w (TwinIs w l) := by
  have hm := hl.max
  unfold maxLen at hm
  have HL := Lib.hid hl
  have HN : Hid (n = l.length) := Lib.hid hl.g.n
  have HK8 := Lib.hid hk8
  clear hl hk8
  have HT0 : Hid (TB w A n c (.slice none 0 0) (((w.alloc (.cells #[.slice A n c] 24)).alloc (.cells #[.slice none 0 0] 24)).alloc (.cells #[.slice none 0 0] 24))) := Lib.hid
    ⟨below_more (below_more (below_of_alloc _) _) _, ((Blk.new w _ _).alloc _).alloc _, (Blk.new' (by simp)).alloc _, Blk.new' (by simp)⟩
  obtain ⟨i1, hi1, hz1, hs1, hbb1⟩ := info_parts intInfo
  obtain ⟨i2, hi2, hz2, hs2, hbb2⟩ := info_parts enInfo
  go_enter Tryd.func5, Tryd.ntmps5
  go_upto_region 2 with (fail)
  generalize ((w.alloc (.cells #[.slice A n c] 24)).alloc (.cells #[.slice none 0 0] 24)).alloc (.cells #[.slice none 0 0] 24) = W0 at HT0 ⊢
  go_wp2_with fail
  go_loopw [4, 5] (fun i _ wr => ∃ (k : Nat) (m : List (EN × Sl)) (A3 : Option Addr) (c3 : Nat), k ≤ n ∧ i = .int .i64 k ∧ Hid (TB w A n c (.slice A3 k c3) wr) ∧ Hid (GE (w.heap.size + 3) (.slice A3 k c3) m wr) ∧ Hid (nodesOf m = (nodesOf l).take k)) (fun i _ _ => n - (intOf i).toNat)
  case atStart => exact ⟨0, [], none, 0, Nat.zero_le _, rfl, HT0, Lib.hid (GL.start _ _ _ _ _ _), Lib.hid rfl⟩
  case round =>
    obtain ⟨k, m, A3, c3', hk, rfl, HT, HG, HM⟩ := hrel
    have HML : Hid (m.length = k) := Lib.hid (by have h1 := congrArg List.length HM.out; rw [nodesOf_len, List.length_take, nodesOf_len] at h1; have := HN.out; omega)
    have cx := (HT.out.e.cell 0).trans (show _ = some (.slice A n c) from rfl)
    by_cases hlt : k < n
    · obtain ⟨b, o, x, hA, hb, hx, hc, hin, hok⟩ := HL.out.at_ hlt
      simp only at hA
      have hc' := hc.below HT.out.bel (show b < w.heap.size by omega)
      have c0 := hc'.c0
      have c1 := hc'.c1
      have c2 := hc'.c2
      have c3 := hc'.c3
      rw [hA] at cx
      have HX := Lib.hid hx
      have HIN := Lib.hid hin
      have HTs := HT.out.bel.size
      have h8 := HK8.out x (List.mem_of_getElem? hx)
      have hkn := hin.kn
      clear hc hc' hok hx hin hA
      obtain ⟨⟨kd, T, nn, ks⟩, ⟨A', n', c'⟩⟩ := x
      simp only at h8 HIN c0 c1 c2 c3 HX hkn
      have HKN := Lib.hid hkn
      clear hkn
      have HNB : Hid (Blk (wr.alloc (.cells #[.int .i64 kd, .string T, .int .i64 nn, .slice A' n' c'] 46)) wr.heap.size 46 #[.int .i64 kd, .string T, .int .i64 nn, .slice A' n' c']) := Lib.hid (Blk.new _ _ _)
      have hBk : w.heap.size + 3 ≤ wr.heap.size := by have := HT.out.o.lt; omega
      have hn8 : n' * 8 ≤ 140737488351232 := h8
      obtain rfl : k = m.length := HML.out.symm
      go_upto_region 7 with (at_builtin; with_reducible show wpList _ _ _ (⟨some 21, _, _, _, _, _⟩ :: _) _ _; go_must (refine wpList_app (o := ⟨some 21, _, _, _, _, _⟩) _ rfl (.tmp 18) (.tmp 20) _ rfl wr.heap.size 3 i1 _ 1 8 Tryd.underlying29 hi1 hz1 hs1 hbb1 rfl (by omega) (.slice (some ⟨wr.heap.size + 1, 0, none⟩) 0 0) 0 [] rfl (own_emptyB (size := 1) (B := wr.heap.size) (Blk.new' (by simp)) (Nat.le_succ _)) 0 w.heap.size A' n' c' (intCells ks) rfl (Row.below (Row.mono HIN.out.k (Nat.le_refl _) hh) (HT.out.bel.trans ((below_more (below_of_alloc _) _).mono HT.out.bel.size))) (intCells_one _) (by unfold maxLen; omega) (by omega) (by simp; omega) ?_); go_must (intro v1 W3 hown1 hgr1 _; obtain ⟨A1, c1', rfl, ho1, hb1⟩ := app_new (W := wr) (below_more (below_of_alloc _) _) (Blk.new' (by simp)) (Nat.le_succ _) hown1 hgr1; have hnb := (HNB.out.alloc (.cells #[] 3)).grown hgr1 (by simp [Value.ownBlock]); have s1 := (hnb.cell 3).trans (show _ = some (.slice A' n' c') from rfl); have s2 := hnb.frozen 3; have HN4 : Hid (Blk (W3.setCell ⟨wr.heap.size, 3, none⟩ (.slice A1 n' c1')) wr.heap.size 46 #[.int .i64 kd, .string T, .int .i64 nn, .slice A1 n' c1']) := Lib.hid (by simpa using hnb.set_ 3 (.slice A1 n' c1')); have HB4 := Lib.hid (hb1.setCell (p := ⟨wr.heap.size, 3, none⟩) (Nat.le_refl _) (.slice A1 n' c1')); have HO4 := Lib.hid (own_other ho1 hnb (by decide) 3 (.slice A1 n' c1')); clear hown1 hgr1 ho1 hb1 hnb))
      generalize W3.setCell ⟨wr.heap.size, 3, none⟩ (.slice A1 n' c1') = W4 at HN4 HB4 HO4 ⊢
      have HT4 := Lib.hid (HT.out.after HB4.out)
      have HG5 := Lib.hid ((HG.out.after enOK HB4.out).after enOK (below_of_alloc (X := W4) (.cells #[.int .i64 kd, .string T, .int .i64 nn, .slice A1 n' c1'] 46)))
      have co := (HT4.out.o.cell 0).trans (show _ = some (.slice A3 m.length c3') from rfl)
      have q0 := (HN4.out.cell 0).trans (show _ = some (.int .i64 kd) from rfl)
      have q1 := (HN4.out.cell 1).trans (show _ = some (.string T) from rfl)
      have q2 := (HN4.out.cell 2).trans (show _ = some (.int .i64 nn) from rfl)
      have q3 := (HN4.out.cell 3).trans (show _ = some (.slice A1 n' c1') from rfl)
      clear cx c0 c1 c2 c3
      go_wp2_with (at_builtin; with_reducible show wpList _ _ _ (⟨some 27, _, _, _, _, _⟩ :: _) _ _; go_must (refine wpList_app (o := ⟨some 27, _, _, _, _, _⟩) _ rfl (.tmp 24) (.tmp 26) _ rfl (w.heap.size + 3) 46 i2 _ 4 56 Tryd.underlying22 hi2 hz2 hs2 hbb2 rfl (by omega) (.slice A3 m.length c3') m.length (m.flatMap enC) rfl HG5.out.own W4.heap.size (W4.heap.size + 1) (some ⟨W4.heap.size, 0, none⟩) 1 1 [.int .i64 kd, .string T, .int .i64 nn, .slice A1 n' c1'] rfl (row_blk (heap_alloc_new W4 _) rfl (Nat.le_refl _) (by unfold maxLen; omega)) (en_one ⟨kd, T, nn, ks⟩ A1 n' c1') (by unfold maxLen; omega) (by omega) (by have := HB4.out.size; simp; omega) ?_); go_must (intro v2 W6 hown2 hgr2 _; have HG6 := Lib.hid (GL.push (p := (⟨kd, T, nn, ks⟩, ⟨A1, n', c1'⟩)) HG5.out enOK hgr2 hown2 ⟨HKN.out, own_mono (own_after HO4.out (below_of_alloc _)) hBk⟩ hBk (fun g hg => enLt (HG.out.leaf g hg)) ⟨HKN.out, own_after HO4.out (below_of_alloc _)⟩); obtain ⟨A2, c2', rfl⟩ := own_form hown2; have HT6 := Lib.hid ((HT4.out.after (below_of_alloc _)).kept HG5.out.own (by decide) (by omega) hgr2); have u1 := (HT6.out.o.cell 0).trans (show _ = some (.slice A3 m.length c3') from rfl); have u2 := HT6.out.o.frozen 0; have HT7 := Lib.hid (HT6.out.set (.slice A2 (m.length + 1) c2')); have HG7 := Lib.hid (GL.setbox (i := 0) HG6.out HT6.out.o (.slice A2 (m.length + 1) c2')); clear hown2 hgr2))
      go_roundw
      case rel => exact ⟨m.length + 1, m ++ [(⟨kd, T, nn, ks⟩, ⟨A1, n', c1'⟩)], A2, c2', by omega, by go_num, HT7, HG7, Lib.hid (nodesOf_snoc HM.out HX.out rfl)⟩
      case measure => simp [intOf]; omega
    · obtain rfl : k = n := by omega
      have co := (HT.out.o.cell 0).trans (show _ = some (.slice A3 k c3') from rfl)
      have ro := (HT.out.r.cell 0).trans (show _ = some (.slice none 0 0) from rfl)
      have rf := HT.out.r.frozen 0
      have HG9 := Lib.hid (GL.setbox (i := 0) HG.out HT.out.r (.slice A3 k c3'))
      have HB9 := Lib.hid (HT.out.bel.setCell (p := ⟨w.heap.size + 1, 0, none⟩) (Nat.le_add_right _ _) (.slice A3 k c3'))
      go_wp2_with fail
      have hres : Tryd.f5.results = #[.cell 2 24] := by kernel_rfl
      (try rw [Exit.noGoto_ret])
      (try simp only [Exit.inBlock, Exit.then])
      refine bodyPost_ret (v := .agg #[.slice A3 k c3']) ?hr rfl ?_
      case hr =>
        simp only [results, hres]
        go_simp
      refine ⟨A3, c3', m, by rw [HN.out], by rw [← HN.out]; exact HG9.out, ?_, HB9.out⟩
      have := HM.out
      rwa [List.take_of_length_le (by rw [nodesOf_len]; have := HN.out; omega)] at this
end Go.Proofs.YtjlpoigcalfdlaaDoor
namespace Go.Proofs.YtjlpoigcalfdlaaDoor
open Go Go.RowKit Go.Sort
set_option linter.unusedVariables false
/-- an expression of the call's own, as one that lies -/
theorem own_ex {w' : World} {A : Option Addr} {n c : Nat} {l m : List (EN × Sl)} {B : Nat} (h : GE B (.slice A n c) m w') (hn : n = m.length) (hm : nodesOf m = nodesOf l) (hok : ∀ x ∈ l, EnOk x.1) : ExIn w' w'.heap.size ⟨A, n, c⟩ m := by
  have hg : GRow enC EnIn 4 w' B w'.heap.size ⟨A, n, c⟩ m := h.toG hn fun x hx => hx.in_
  refine ⟨hg.mono enK (Nat.zero_le _) (Nat.le_refl _), fun x hx => ?_⟩
  have h1 : x.1 ∈ nodesOf l := by rw [← hm]; exact List.mem_map_of_mem hx
  obtain ⟨y, hy, hy2⟩ := List.mem_map.1 h1
  rw [← hy2]
  exact hok y hy
def TwinX (Y : World) (n : Nat) (l : List (EN × Sl)) (e : Ending) (w' : World) : Prop := ∃ (A' : Option Addr) (c' : Nat) (m : List (EN × Sl)), e = .returned (.agg #[.slice A' n c']) ∧ ExIn w' w'.heap.size ⟨A', n, c'⟩ m ∧ nodesOf m = nodesOf l ∧ Below Y.heap.size Y w'
theorem twin_ex (Y : World) (hi : Nat) (A : Option Addr) (n c : Nat) (l : List (EN × Sl)) (hl : ExIn Y hi ⟨A, n, c⟩ l) (hh : hi ≤ Y.heap.size) (h56 : n * 56 ≤ 140737488351232) (hk8 : ∀ x ∈ l, x.2.n * 8 ≤ 140737488351232) :
    Calls Tryd.prog 5 #[.agg #[.slice A n c]] Y (TwinX Y n l) := by
  refine (twinE_any Y hi A n c l hl hh h56 hk8).mono ?_
  rintro e w' ⟨A', c', m, h1, h2, h3, h4⟩
  have hn : n = l.length := hl.g.n
  have hlm : l.length = m.length := by rw [← nodesOf_len l, ← nodesOf_len m, h3]
  have := own_ex h2 hlm h3 hl.ok
  rw [← hn] at this h1
  exact ⟨A', c', m, h1, this, h3, h4⟩
/-- the boxes of the law: the expression, its twin -/
structure LB (w : World) (A A' : Option Addr) (n c c' gt : Nat) (X : World) : Prop where
  bel : Below w.heap.size w X
  e : Blk X w.heap.size 24 #[.slice A n c]
  t : Blk X gt 24 #[.slice A' n c']
theorem LB.after {w : World} {A A' : Option Addr} {n c c' gt : Nat} {X X' : World} (h : LB w A A' n c c' gt X) (hb : Below X.heap.size X X') : LB w A A' n c c' gt X' := ⟨h.bel.trans (hb.mono h.bel.size), h.e.after hb, h.t.after hb⟩
end Go.Proofs.YtjlpoigcalfdlaaDoor
namespace Go.Proofs.YtjlpoigcalfdlaaDoor
open Go Go.RowKit Go.Sort
set_option linter.unusedVariables false
/-- two lists of texts that are the same -/
theorem texts_same (w : World) (lo hi lo' hi' : Nat) (A A' : Option Addr) (n c n' c' : Nat) (ks : List Bys) (h : Row w lo hi 1 A n c (encsY ks)) (h' : Row w lo' hi' 1 A' n' c' (encsY ks)) (hn : n = ks.length) (hn' : n' = ks.length) :
    Calls Tryd.prog 14 #[.slice A n c, .slice A' n' c'] w (TellsB w true) := by
  have hc := h.2.2.1
  have hnc := h.2.1
  have hc' := h'.2.2.1
  have hnc' := h'.2.1
  unfold maxLen at hc hc'
  obtain rfl : n' = n := by omega
  have HR := Lib.hid h
  have HR' := Lib.hid h'
  have HN := Lib.hid hn
  clear h h' hn hn'
  go_enter Tryd.func14, Tryd.ntmps14
  go_wp2_with fail
  go_loopw [5] (fun i wr => ∃ (j : Nat), j ≤ n' ∧ i = .int .i64 j ∧ Hid (Below w.heap.size w wr) ∧ Hid (∀ a v, w.cell? a = some v → wr.cell? a = some v)) (fun i _ => n' - (intOf i).toNat)
  case atStart => exact ⟨0, Nat.zero_le _, rfl, Lib.hid (Below.refl _ _), Lib.hid fun _ _ h => h⟩
  case round =>
    rename World => wo
    obtain ⟨j, hj, rfl, HB, HD⟩ := hrel
    by_cases hlt : j < n'
    · obtain ⟨b1, o1, hA1, _, _, k1⟩ := HR.out.at_ (by omega)
      obtain ⟨b2, o2, hA2, _, _, k2⟩ := HR'.out.at_ (by omega)
      subst hA1 hA2
      obtain ⟨v, hv⟩ : ∃ v, ks[j]? = some v := ⟨ks[j]'(by have := HN.out; omega), List.getElem?_eq_getElem _⟩
      have q1 : wo.cell? ⟨b1, o1 + j, none⟩ = some (.string ⟨v.toArray⟩) := HD.out _ _ (k1 j _ (encsY_get hv))
      have q2 : wo.cell? ⟨b2, o2 + j, none⟩ = some (.string ⟨v.toArray⟩) := HD.out _ _ (k2 j _ (encsY_get hv))
      have e0 : (v != v) = false := by simp
      clear k1 k2 hv
      go_wp2_with fail
      go_quiet (fail)
      go_wp2_with fail
      go_roundw
      case rel => exact ⟨j + 1, by omega, by go_num, Lib.hid (below_drewN HB.out _), Lib.hid fun a v h => HD.out a v h⟩
      case measure => simp [intOf]; omega
    · obtain rfl : j = n' := by omega
      go_wp2_with fail
      go_ret
      exact tellsB rfl HB.out
set_option maxRecDepth 20000 in
set_option maxHeartbeats 6400000 in
theorem kindsFree_law (w : World) (hi : Nat) (A : Option Addr) (n c : Nat) (l : List (EN × Sl)) (hl : ExIn w hi ⟨A, n, c⟩ l) (hh : hi ≤ w.heap.size) (h56 : n * 56 ≤ 140737488351232) (hk8 : ∀ x ∈ l, x.2.n * 8 ≤ 140737488351232) (ev : ExprEnv w) :
    Calls Tryd.prog 4 #[.agg #[.slice A n c]] w (TellsB w true) := by
  have HL := Lib.hid hl
  have HEV := Lib.hid ev
  have HX0 : Hid (Blk (w.alloc (.cells #[.slice A n c] 24)) w.heap.size 24 #[.slice A n c]) := Lib.hid (Blk.new _ _ _)
  have HB0 : Hid (Below w.heap.size w (w.alloc (.cells #[.slice A n c] 24))) := Lib.hid (below_of_alloc _)
  have HTW : Hid (∀ Y, Below w.heap.size w Y → Calls Tryd.prog 5 #[.agg #[.slice A n c]] Y (TwinX Y n l)) := Lib.hid fun Y hY => twin_ex Y hi A n c l (hl.below (hY.mono hh)) (Nat.le_trans hh hY.size) h56 hk8
  have HFR : Hid (∀ (Y : World) (A' : Option Addr) (c' : Nat) (m : List (EN × Sl)), Below w.heap.size w Y → ExIn Y Y.heap.size ⟨A', n, c'⟩ m → nodesOf m = nodesOf l → Calls Tryd.prog 12 #[.agg #[.slice A' n c']] Y (FreeIs Y (freeV (nodesOf l)))) := Lib.hid fun Y A' c' m hY hge hnm => by
    rw [← hnm]; exact free_any Y Y.heap.size A' n c' m hge (Nat.le_refl _) (ev.below hY)
  have HRF : Hid (∀ Y, Below w.heap.size w Y → Calls Tryd.prog 13 #[.agg #[.slice A n c]] Y (FreeIs Y (freeV (nodesOf l)))) := Lib.hid fun Y hY => refFree_any Y hi A n c l (hl.below (hY.mono hh)) (Nat.le_trans hh hY.size)
  clear hl ev hk8 h56
  generalize freeV (nodesOf l) = R at HFR HRF
  obtain ⟨U, x⟩ := R
  go_enter Tryd.func4, Tryd.ntmps4
  go_upto_region 1 with (fail)
  generalize w.alloc (.cells #[.slice A n c] 24) = W0 at HX0 HB0 ⊢
  have cx := (HX0.out.cell 0).trans (show _ = some (.slice A n c) from rfl)
  have HT0 := Lib.hid (HTW.out W0 HB0.out)
  go_upto_region 2 with (first | (go_at_call 5; refine HT0.out.mono ?_; rintro e w1 ⟨A', c', m, rfl, hge, hnm, hb1⟩; have HF1 := Lib.hid (HFR.out w1 A' c' m (HB0.out.trans (hb1.mono HB0.out.size)) hge hnm); have HB1 := Lib.hid (HB0.out.trans (hb1.mono HB0.out.size)); have HX1 := Lib.hid (HX0.out.after hb1); clear hge hnm hb1) | (go_at_call 12; refine HF1.out.mono ?_; rintro e w2 ⟨v1, rfl, ho2, hb2⟩; have HX2 := Lib.hid (HX1.out.after hb2); have HB2 := Lib.hid (HB1.out.trans (hb2.mono HB1.out.size)); have HO2 := Lib.hid ho2; clear ho2 hb2))
  have cx2 := (HX2.out.cell 0).trans (show _ = some (.slice A n c) from rfl)
  have HR2 := Lib.hid (HRF.out w2 HB2.out)
  clear cx
  go_upto_region 3 with (go_at_call 13; refine HR2.out.mono ?_; rintro e w3 ⟨v2, rfl, ho3, hb3⟩; have HB3 := Lib.hid (HB2.out.trans (hb3.mono HB2.out.size)); have HO3 := Lib.hid ho3; have HP3 := Lib.hid (HO2.out.after hb3); clear ho3 hb3)
  obtain ⟨A1, c1, rfl⟩ := own_form HP3.out
  obtain ⟨A2, c2, rfl⟩ := own_form HO3.out
  have HTX := Lib.hid (texts_same w3 _ _ _ _ A1 A2 U.length c1 U.length c2 U (own_row HP3.out) (own_row HO3.out) rfl rfl)
  have e0 : (x == x) = true := by simp
  clear cx2
  go_wp2_with (go_at_call 14; refine HTX.out.mono ?_; rintro e w4 ⟨rfl, hb4⟩; have HB4 := Lib.hid (HB3.out.trans (hb4.mono HB3.out.size)); clear hb4)
  go_ret
  exact tellsB rfl HB4.out
end Go.Proofs.YtjlpoigcalfdlaaDoor

/-
  WALKS over the document's reader: order.
-/
import Derived.Test.YtckfcpiedainfaaGreatDoorZE39
namespace Go.Proofs.YtckfcpiedainfaaGreatDoor
open Go Go.RowKit Go.Sort
set_option linter.unusedVariables false
/-- the blocks of a list's rows -/
def RS (v : Value) (l : List (EN × Sl)) (g : Nat) : Prop := v.ownBlock = some g ∨ ∃ p ∈ l, kE p = some g
/-- nothing that was there has changed but the list's rows; the list's rows are those, or new -/
structure FR (X : World) (v : Value) (l : List (EN × Sl)) (X' : World) (v' : Value) (l' : List (EN × Sl)) : Prop where
  size : X.heap.size ≤ X'.heap.size
  keep : ∀ g, g < X.heap.size → ¬ RS v l g → X'.heap[g]? = X.heap[g]?
  rows : ∀ g, RS v' l' g → RS v l g ∨ X.heap.size ≤ g
section
variable {X X' X'' w w' : World} {v v' v'' : Value} {l l' l'' : List (EN × Sl)}
theorem FR.refl (X : World) (v : Value) (l : List (EN × Sl)) : FR X v l X v l := ⟨Nat.le_refl _, fun _ _ _ => rfl, fun g h => .inl h⟩
theorem FR.trans (h : FR X v l X' v' l') (h' : FR X' v' l' X'' v'' l'') : FR X v l X'' v'' l'' := by
  refine ⟨Nat.le_trans h.size h'.size, fun g hg hr => ?_, fun g hr => ?_⟩
  · have h1 : ¬ RS v' l' g := fun hr' => by
      rcases h.rows g hr' with h2 | h2
      · exact hr h2
      · omega
    rw [h'.keep g (Nat.lt_of_lt_of_le hg h.size) h1]
    exact h.keep g hg hr
  · rcases h'.rows g hr with h2 | h2
    · exact h.rows g h2
    · exact .inr (Nat.le_trans h.size h2)
theorem FR.below (hb : Below X.heap.size X X') (v : Value) (l : List (EN × Sl)) : FR X v l X' v l := ⟨hb.size, fun g hg _ => hb.block g hg, fun g h => .inl h⟩
theorem FR.node (hg : X.grownBy X' v.ownBlock) (hnew : v'.ownBlock = v.ownBlock ∨ v'.ownBlock = some X.heap.size) (e : EN) : FR X v l X' v' (l ++ [(e, ⟨none, 0, 0⟩)]) := by
  refine ⟨hg.size, fun g hl hr => hg.block g hl fun e => hr (.inl e.symm), fun g hr => ?_⟩
  rcases hr with h | ⟨p, hp, h⟩
  · rcases hnew with hn | hn
    · rw [hn] at h; exact .inl (.inl h)
    · rw [hn] at h; cases h; exact .inr (Nat.le_refl _)
  · rcases List.mem_append.1 hp with hp | hp
    · exact .inl (.inr ⟨p, hp, h⟩)
    · obtain rfl : p = _ := by simpa using hp
      cases h
theorem FR.kid {b i o : Nat} {p q : EN × Sl} {u : Value} (hv : v.ownBlock = some b) (hi : l[i]? = some p) (hg : w.grownBy w' (kE p)) (hnew : kE q = kE p ∨ kE q = some w.heap.size) : FR w v l (w'.setCell ⟨b, o, none⟩ u) v (l.set i q) := by
  have hgs : w'.heap.size ≤ (w'.setCell ⟨b, o, none⟩ u).heap.size := by simp
  refine ⟨Nat.le_trans hg.size hgs, fun g hl hr => ?_, fun g hr => ?_⟩
  · have h1 : g ≠ b := fun e => hr (.inl (by rw [e]; exact hv))
    rw [Below.heap_setCell w' ⟨b, o, none⟩ u g h1]
    exact hg.block g hl fun e => hr (.inr ⟨p, List.mem_of_getElem? hi, e.symm⟩)
  · rcases hr with h | ⟨x, hx, h⟩
    · exact .inl (.inl h)
    · obtain ⟨j, hj⟩ := List.getElem?_of_mem hx
      rw [List.getElem?_set] at hj
      by_cases hij : i = j
      · rw [if_pos hij] at hj
        split at hj
        · obtain rfl := Option.some.inj hj
          rcases hnew with hn | hn
          · rw [hn] at h; exact .inl (.inr ⟨p, List.mem_of_getElem? hi, h⟩)
          · rw [hn] at h; cases h; exact .inr (Nat.le_refl _)
        · cases hj
      · rw [if_neg hij] at hj
        exact .inl (.inr ⟨x, List.mem_of_getElem? hj, h⟩)
theorem FR.kidK {b i o n' ck : Nat} {e e' : EN} {K : Sl} {Ak : Option Addr} {u : Value} (hv : v.ownBlock = some b) (hi : l[i]? = some (e, K)) (hg : w.grownBy w' (Value.slice K.A K.n K.c).ownBlock) (hnew : (Value.slice Ak n' ck).ownBlock = (Value.slice K.A K.n K.c).ownBlock ∨ (Value.slice Ak n' ck).ownBlock = some w.heap.size) : FR w v l (w'.setCell ⟨b, o, none⟩ u) v (l.set i (e', ⟨Ak, n', ck⟩)) := FR.kid hv hi hg hnew
theorem FR.blk (h : FR X v l X' v' l') {g : Nat} {T : TypeId} {cs : Array Value} (hb : Blk X g T cs) (hr : ¬ RS v l g) : Blk X' g T cs := (h.keep g hb.lt hr).trans hb
theorem OE.rs {B : Nat} (h : OE B v l X) {g : Nat} (hr : RS v l g) : B ≤ g ∧ g < X.heap.size := by
  rcases hr with h1 | ⟨p, hp, h1⟩
  · exact World.ownsRow.lt h.own g h1
  · exact World.ownsRow.lt (h.leaf p hp).k g h1
end
theorem own_blkE {B n c g m size : Nat} {T : TypeId} {xs : List Value} {X : World} (h : X.ownsRow B T size (.slice (some ⟨g, 0, none⟩) n c) m xs) : ∃ cs : Array Value, Blk X g T cs := by
  rcases h.2 with ⟨e, _⟩ | ⟨g', cap, cur, e, _, hh, _⟩
  · cases e
  · injection e with e; injection e with e; injection e with e; subst e
    exact ⟨cur, hh⟩
theorem cell_same {B n c i g : Nat} {l : List (EN × Sl)} {X : World} {p : EN × Sl} (h : X.ownsRow B 52 4 (.slice (some ⟨g, 0, none⟩) n c) l.length (l.flatMap enC)) (hi : l[i]? = some p) : X.cell? ⟨g, i * 4 + 3, none⟩ = some (.slice p.2.A p.2.n p.2.c) := by
  have hil := (List.getElem?_eq_some_iff.1 hi).1
  have hn : n = l.length := by
    rcases h.2 with ⟨e0, hn⟩ | ⟨g', cap, cur, e', _⟩
    · cases e0
    · injection e'
  subst hn
  have hr : Row X B X.heap.size 4 (some ⟨g, 0, none⟩) l.length c (l.flatMap enC) := own_row h
  obtain ⟨b, o, e, h1, h2, hcc⟩ := hr.at_ (by omega)
  injection e with e; injection e with e3 e4; subst e3; subst e4
  have := hcc (i * 4 + 3) (.slice p.2.A p.2.n p.2.c) (by rw [flatN_get (f := enC) (s := 4) (fun _ => rfl) l i p hi 3 (by decide)]; rfl)
  simpa using this
/-- an element, where it lies -/
theorem OE.elem {B n c i : Nat} {A : Option Addr} {l : List (EN × Sl)} {X : World} {p : EN × Sl} (h : OE B (.slice A n c) l X) (hn : n = l.length) (hi : l[i]? = some p) : ∃ g, A = some ⟨g, 0, none⟩ ∧ X.cell? ⟨g, i * 4 + 3, none⟩ = some (.slice p.2.A p.2.n p.2.c) ∧ X.frozen? ⟨g, i * 4 + 3, none⟩ = false := by
  subst hn
  have hil := (List.getElem?_eq_some_iff.1 hi).1
  have hr : Row X B X.heap.size 4 A l.length c (l.flatMap enC) := own_row h.own
  obtain ⟨b, o, e, h1, h2, hcc⟩ := hr.at_ (by omega)
  rcases h.own.2 with ⟨e0, hn⟩ | ⟨g, cap, cur, e', _, hh, _⟩
  · rw [e] at e0; cases e0
  · have e2 : A = some ⟨g, 0, none⟩ := by injection e'
    subst e2
    injection e with e; injection e with e3 e4; subst e3; subst e4
    have hb : Blk X g 52 cur := hh
    refine ⟨g, rfl, ?_, hb.frozen _⟩
    have := hcc (i * 4 + 3) (.slice p.2.A p.2.n p.2.c) (by rw [flatN_get (f := enC) (s := 4) (fun _ => rfl) l i p hi 3 (by decide)]; rfl)
    simpa using this
/-- what order's loop keeps -/
structure OL (W : World) (m : List (EN × Sl)) (t : Tr) (l : List (EN × Sl)) (js : List Int) (X1 : World) (v : Value) (i d : Nat) (A : Option Addr) (nn c : Nat) (wr : World) (rest : Fo) (l' : List (EN × Sl)) (done : List EN) (acc : List Int) : Prop where
  made : Made (nodesOf m) (js.drop i) rest
  nds : nodesOf l' = nodesOf l ++ ⟨t.k, t.s, t.i, acc⟩ :: done
  nl : nn = l'.length
  off : acc ++ rest.offs l'.length = t.a.offs (l.length + 1)
  end_ : done ++ rest.nodes l'.length = t.a.nodes (l.length + 1)
  sz : l'.length + rest.size = l.length + t.size
  dp : max d rest.depth = t.a.depth
  oe : OE W.heap.size (.slice A nn c) l' wr
  bel : Below W.heap.size W wr
  fr : FR X1 v l wr (.slice A nn c) l'
def OrdPost (W X : World) (v : Value) (t : Tr) (l : List (EN × Sl)) (e : Ending) (X' : World) : Prop := ∃ (l' : List (EN × Sl)) (A' : Option Addr) (c' : Nat), e = .returned (.tuple #[.slice A' l'.length c', .int .i64 (t.depth : Int)]) ∧ nodesOf l' = nodesOf l ++ (row1 t).nodes l.length ∧ OE W.heap.size (.slice A' l'.length c') l' X' ∧ Below W.heap.size W X' ∧ FR X v l X' (.slice A' l'.length c') l'
set_option maxHeartbeats 12800000 in
set_option maxRecDepth 20000 in
theorem order_tree (W : World) (g : Nat) (Am : Option Addr) (cm : Nat) (m : List (EN × Sl)) (hm : GE (g + 1) (.slice Am m.length cm) m W) : ∀ (N : Nat) (t : Tr) (j : Nat) (X : World) (l : List (EN × Sl)) (A : Option Addr) (c : Nat), t.size ≤ N → OneM (nodesOf m) j t → OE W.heap.size (.slice A l.length c) l X → Below W.heap.size W X → l.length + t.size ≤ 1000000 →
    Calls Tryz.prog 23 #[.slice Am m.length cm, .int .i64 (j : Int), .slice A l.length c] X (OrdPost W X (.slice A l.length c) t l) := by
  intro N
  induction N with
  | zero => intro t j X l A c hN; exact absurd hN (by show ¬ 1 + t.a.size ≤ 0; omega)
  | succ N ih =>
  intro t j X l A c hN hO hE hB hroom
  have hts0 : t.size = 1 + t.a.size := rfl
  obtain ⟨js, hj, hmd⟩ := hO
  obtain ⟨x, hx, hx1⟩ := nodesOf_of hj
  have hjl : j < m.length := (List.getElem?_eq_some_iff.1 hx).1
  have hG := hm.toG rfl (fun g hg => hg.in_)
  obtain ⟨bm, om, hA, hlo, hhi, hcell⟩ := hG.at_ (fun _ => rfl) (by show 0 < m.length; omega)
  obtain ⟨hin, hc⟩ := hcell j x hx
  obtain ⟨e0, ⟨Ak, nk, ck⟩⟩ := x
  dsimp only at hx1
  subst hx1
  have hA' : Am = some ⟨bm, om, none⟩ := hA
  subst hA'
  have c0 := (hB.cell (p := ⟨bm, om + j * 4, none⟩) hhi).trans (hc 0 _ (by decide) rfl)
  have c1 := (hB.cell (p := ⟨bm, om + j * 4 + 1, none⟩) hhi).trans (hc 1 _ (by decide) rfl)
  have c2 := (hB.cell (p := ⟨bm, om + j * 4 + 2, none⟩) hhi).trans (hc 2 _ (by decide) rfl)
  have c3 := (hB.cell (p := ⟨bm, om + j * 4 + 3, none⟩) hhi).trans (hc 3 _ (by decide) rfl)
  simp only at c0 c1 c2 c3
  have hkn : nk = js.length := hin.kn
  have HIN := Lib.hid hin
  have HIH := Lib.hid ih
  have HE := Lib.hid hE
  have HB := Lib.hid hB
  have HMD := Lib.hid hmd
  have HN := Lib.hid hN
  have hjs : js.length = t.a.count := hmd.len
  have hcs := Fo.count_le t.a
  have hnk : nk ≤ 1000000 := by omega
  have HNK : Hid (nk = js.length ∧ js.length = t.a.count) := Lib.hid ⟨hkn, hjs⟩
  have hlm : l.length ≤ 1000000 := by omega
  clear hm hG hcell hc hin ih hE hmd hN hkn hjs hcs hj hx hA
  have HF1 : Hid (FR X (.slice A l.length c) l (X.alloc (.cells #[.int .i64 t.k, .string t.s, .int .i64 t.i, .slice Ak nk ck] 52)) (.slice A l.length c) l) := Lib.hid (FR.below (below_of_alloc _) _ _)
  have HRS : Hid (¬ RS (.slice A l.length c) l X.heap.size) := Lib.hid fun hr => by have := (HE.out.rs hr).2; omega
  have HNB : Hid (Blk (X.alloc (.cells #[.int .i64 t.k, .string t.s, .int .i64 t.i, .slice Ak nk ck] 52)) X.heap.size 52 #[.int .i64 t.k, .string t.s, .int .i64 t.i, .slice Ak nk ck]) := Lib.hid (Blk.new _ _ _)
  have HE1 := Lib.hid (HE.out.after (below_of_alloc (X := X) (.cells #[.int .i64 t.k, .string t.s, .int .i64 t.i, .slice Ak nk ck] 52)))
  have HB1 : Hid (Below W.heap.size W (X.alloc (.cells #[.int .i64 t.k, .string t.s, .int .i64 t.i, .slice Ak nk ck] 52))) := Lib.hid (below_more hB _)
  have HXW : Hid (W.heap.size ≤ X.heap.size) := Lib.hid hB.size
  clear hB
  go_enter Tryz.func23, Tryz.ntmps23
  go_upto_region 2 with (fail)
  generalize X.alloc (.cells #[.int .i64 t.k, .string t.s, .int .i64 t.i, .slice Ak nk ck] 52) = X1 at HNB HE1 HB1 HF1 ⊢
  clear c0 c1 c2 c3
  have k0 := (HNB.out.cell 0).trans (show _ = some (.int .i64 t.k) from rfl)
  have k1 := (HNB.out.cell 1).trans (show _ = some (.string t.s) from rfl)
  have k2 := (HNB.out.cell 2).trans (show _ = some (.int .i64 t.i) from rfl)
  obtain ⟨i2, hi2, hz2, hs2, hbb2⟩ := info_parts enInfo
  have HE2 := Lib.hid (HE1.out.after (below_of_alloc (X := X1) (.cells #[.int .i64 t.k, .string t.s, .int .i64 t.i, .slice none 0 0] 52)))
  go_upto_region 4 with (at_builtin; with_reducible show wpList _ _ _ (⟨some 28, _, _, _, _, _⟩ :: _) _ _; go_must (refine wpList_app (o := ⟨some 28, _, _, _, _, _⟩) _ rfl (.tmp 19) (.tmp 27) _ rfl W.heap.size 52 i2 _ 4 56 Tryz.underlying22 hi2 hz2 hs2 hbb2 rfl (by omega) (.slice A l.length c) l.length (l.flatMap enC) rfl HE2.out.own X1.heap.size (X1.heap.size + 1) (some ⟨X1.heap.size, 0, none⟩) 1 1 [.int .i64 t.k, .string t.s, .int .i64 t.i, .slice none 0 0] rfl (row_blk (heap_alloc_new X1 _) rfl (Nat.le_refl _) (by unfold maxLen; omega)) (en_one ⟨t.k, t.s, t.i, []⟩ none 0 0) (by unfold maxLen; omega) (by omega) HE2.out.hB ?_); go_must (intro v2 X2 hown2 hgr2 hnw2; have hE3 := HE2.out.node (e := ⟨t.k, t.s, t.i, []⟩) hown2 hgr2 rfl; have hb3 : Below W.heap.size W X2 := (below_more HB1.out _).grown hgr2 (below_more HB1.out _).size (fun k hk => (World.ownsRow.lt HE2.out.own k hk).1); have hf3 := FR.node (l := l) hgr2 hnw2 ⟨t.k, t.s, t.i, []⟩; obtain ⟨A3, c3, rfl⟩ := own_form hown2; have HF3 : Hid (FR X1 (.slice A l.length c) l X2 (.slice A3 (l.length + 1) c3) (l ++ [(⟨t.k, t.s, t.i, []⟩, ⟨none, 0, 0⟩)])) := Lib.hid ((FR.below (below_of_alloc _) _ _).trans hf3); have HE3 := Lib.hid hE3; have HB3 := Lib.hid hb3; clear hE3 hb3 hown2 hf3 hgr2 hnw2))
  clear k0 k1 k2
  go_wp2_with fail
  go_loopw [2, 10, 11, 12] (fun ov dv i _ wr => ∃ (ix d nn c' : Nat) (A' : Option Addr), ix ≤ nk ∧ i = .int .i64 ix ∧ dv = .int .i64 d ∧ ov = .slice A' nn c' ∧ Hid (∃ rest l' done acc, OL W m t l js X1 (.slice A l.length c) ix d A' nn c' wr rest l' done acc)) (fun _ _ i _ _ => nk - (intOf i).toNat)
  case atStart => exact ⟨0, 0, l.length + 1, c3, A3, Nat.zero_le _, rfl, rfl, rfl, Lib.hid ⟨t.a, l ++ [(⟨t.k, t.s, t.i, []⟩, ⟨none, 0, 0⟩)], [], [], by simpa using HMD.out, by simp [nodesOf], by simp, by simp, by simp, by simp; omega, by simp, HE3.out, HB3.out, HF3.out⟩⟩
  case round =>
    obtain ⟨ix, d, nn, c', A', hix, rfl, rfl, rfl, HI⟩ := hrel
    rename World => wr
    obtain ⟨rest, l', done, acc, hI⟩ := HI.out
    have hnl := hI.nl
    subst hnl
    have hrs : ¬ RS (.slice A' l'.length c') l' X.heap.size := fun hr => by
      rcases hI.fr.rows _ hr with h1 | h1
      · exact HRS.out h1
      · have := HNB.out.lt; omega
    have hnb := hI.fr.blk HNB.out HRS.out
    have n3 := (hnb.cell 3).trans (show _ = some (.slice Ak nk ck) from rfl)
    by_cases hlt : ix < nk
    · have d0 : decide ((ix : Int) < (nk : Int)) = true := decide_eq_true (by omega)
      obtain ⟨hNK1, hNK2⟩ := HNK.out
      have hjx : ix < js.length := by omega
      have hdj := List.drop_eq_getElem_cons hjx
      have hmade := hI.made
      rw [hdj] at hmade
      cases rest with
      | nil => exact absurd (show _ = _ from hmade) (List.cons_ne_nil _ _)
      | cons k' s' i' a' r =>
      obtain ⟨jj, js', ks', e, hO1, hO2, hO3⟩ := hmade
      injection e with ej eks
      subst eks
      have HO' : Hid (OneM (nodesOf m) jj ⟨k', s', i', a'⟩) := Lib.hid ⟨js', hO1, hO2⟩
      have HMD' := Lib.hid hO3
      have hpl : (nodesOf l')[l.length]? = some ⟨t.k, t.s, t.i, acc⟩ := by
        rw [hI.nds, List.getElem?_append_right (by rw [nodesOf_len]; exact Nat.le_refl _), nodesOf_len, Nat.sub_self]; rfl
      obtain ⟨x, hx, hx1⟩ := nodesOf_of hpl
      obtain ⟨e0, K⟩ := x
      dsimp only at hx1
      subst hx1
      obtain ⟨go, rfl, y3, z3⟩ := hI.oe.elem rfl hx
      have hlf := hI.oe.leaf _ (List.mem_of_getElem? hx)
      have hKn : K.n = acc.length := hlf.kn
      have hplt : l.length < l'.length := (List.getElem?_eq_some_iff.1 hx).1
      have hsz' : l'.length + (1 + a'.size + r.size) = l.length + t.size := hI.sz
      have hoff : acc ++ (l'.length : Int) :: r.offs (l'.length + 1 + a'.size) = t.a.offs (l.length + 1) := hI.off
      have hal : acc.length ≤ 1000000 := by
        have h1 := congrArg List.length hoff
        rw [List.length_append, offs_len] at h1
        have h2 := Fo.count_le t.a
        omega
      obtain ⟨bk, ok, kx, hkA, hkb, hkx, hkc⟩ := HIN.out.at_ (show ix < nk from hlt)
      have hkA' : Ak = some ⟨bk, ok, none⟩ := hkA
      subst hkA'
      have hkx' : kx = (jj : Int) := by
        have h1 : js[ix]? = some kx := hkx
        have h2 := (List.getElem?_eq_some_iff.1 h1).2
        rw [← h2]; exact ej
      subst hkx'
      have HKC : Hid (∀ Y, Below W.heap.size W Y → Y.cell? ⟨bk, ok + ix, none⟩ = some (.int .i64 (jj : Int))) := Lib.hid fun Y hY => (hY.cell (p := ⟨bk, ok + ix, none⟩) hkb).trans hkc
      have HI2 := Lib.hid hI
      have HLF := Lib.hid hlf
      have HX2 := Lib.hid hx
      obtain ⟨i1, hi1, hz1, hs1, hbb1⟩ := info_parts intInfo
      have HOA := Lib.hid (hI.oe.after (below_of_alloc (X := wr) (.cells #[.int .i64 (l'.length : Int)] 3)))
      have HKO : Hid ((wr.alloc (.cells #[.int .i64 (l'.length : Int)] 3)).ownsRow W.heap.size 3 1 (.slice K.A K.n K.c) K.n (intCells acc)) := Lib.hid (own_after hlf.k (below_of_alloc _))
      have hKb : K.n ≤ 1000000 := by omega
      have HKN := Lib.hid hKn
      clear hI hnb hlf hx hpl hkc hkA hkx hO1 hO2 hO3 HI hdj hi2 hz2 hs2 hbb2 hKn hNK1 hNK2 hal
      go_upto_region 9 with (at_builtin; with_reducible show wpList _ _ _ (⟨some 46, _, _, _, _, _⟩ :: _) _ _; go_must (refine wpList_app (o := ⟨some 46, _, _, _, _, _⟩) _ rfl (.tmp 42) (.tmp 45) _ rfl W.heap.size 3 i1 _ 1 8 Tryz.underlying50 hi1 hz1 hs1 hbb1 rfl (by omega) (.slice K.A K.n K.c) K.n (intCells acc) rfl HKO.out wr.heap.size (wr.heap.size + 1) (some ⟨wr.heap.size, 0, none⟩) 1 1 (intCells [(l'.length : Int)]) rfl (row_blk (heap_alloc_new wr _) rfl (Nat.le_refl _) (by unfold maxLen; omega)) (intCells_one _) (by unfold maxLen; omega) (by omega) HOA.out.hB ?_); go_must (intro v4 w4 hown4 hgr4 hnw4; obtain ⟨A4, c4, rfl⟩ := own_form hown4; have hown5 : w4.ownsRow W.heap.size 3 1 (.slice A4 (K.n + 1) c4) (K.n + 1) (intCells (acc ++ [(l'.length : Int)])) := (by simpa [intCells] using hown4); have HOE5 := Lib.hid (OE.kid HOA.out HX2.out hown5 hgr4 hnw4); have HFR5 : Hid (FR X1 (.slice A l.length c) l (w4.setCell ⟨go, l.length * 4 + 3, none⟩ (.slice A4 (K.n + 1) c4)) (.slice (some ⟨go, 0, none⟩) l'.length c') (l'.set l.length (⟨t.k, t.s, t.i, acc ++ [(l'.length : Int)]⟩, ⟨A4, K.n + 1, c4⟩))) := Lib.hid (HI2.out.fr.trans ((FR.below (below_of_alloc (X := wr) (.cells #[.int .i64 (l'.length : Int)] 3)) _ _).trans (FR.kidK (w := wr.alloc (.cells #[.int .i64 (l'.length : Int)] 3)) (w' := w4) (b := go) (v := .slice (some ⟨go, 0, none⟩) l'.length c') rfl HX2.out hgr4 hnw4))); have HBW4 : Below W.heap.size W w4 := ((below_more HI2.out.bel _).grown hgr4 (below_more HI2.out.bel _).size (fun k hk => (World.ownsRow.lt HKO.out k hk).1)); have HBL5 : Hid (Below W.heap.size W (w4.setCell ⟨go, l.length * 4 + 3, none⟩ (.slice A4 (K.n + 1) c4))) := Lib.hid (HBW4.setCell (p := ⟨go, l.length * 4 + 3, none⟩) (World.ownsRow.lt HOA.out.own go rfl).1 _); have how4 := World.ownsRow.kept HOA.out.own hgr4 (own_own_ne HOA.out.own HKO.out (by decide)); obtain ⟨cs4, hgo4⟩ := own_blkE how4; have z4 := hgo4.frozen (l.length * 4 + 3); have y4 := cell_same how4 HX2.out; clear how4 hown4 hown5 hgr4 hnw4 HBW4 hgo4))
      clear y3 z3 y4 z4 n3
      have hnl5 : nodesOf (l'.set l.length (⟨t.k, t.s, t.i, acc ++ [(l'.length : Int)]⟩, ⟨A4, K.n + 1, c4⟩)) = nodesOf l ++ ⟨t.k, t.s, t.i, acc ++ [(l'.length : Int)]⟩ :: done := by
        unfold nodesOf
        rw [List.map_set]
        have h0 : List.map (·.1) l' = List.map (·.1) l ++ ⟨t.k, t.s, t.i, acc⟩ :: done := HI2.out.nds
        have e1 : l.length = (List.map (·.1) l).length := (List.length_map _).symm
        rw [h0]
        conv => lhs; arg 2; rw [e1]
        rw [List.set_append_right _ _ (Nat.le_refl _), Nat.sub_self]
        rfl
      have hll5 : (l'.set l.length (⟨t.k, t.s, t.i, acc ++ [(l'.length : Int)]⟩, ⟨A4, K.n + 1, c4⟩)).length = l'.length := List.length_set
      generalize l'.set l.length (⟨t.k, t.s, t.i, acc ++ [(l'.length : Int)]⟩, ⟨A4, K.n + 1, c4⟩) = ls at HOE5 HFR5 hnl5 hll5
      generalize w4.setCell ⟨go, l.length * 4 + 3, none⟩ (.slice A4 (K.n + 1) c4) = w5 at HOE5 HFR5 HBL5 ⊢
      have HCO : Hid (Calls Tryz.prog 23 #[.slice (some ⟨bm, om, none⟩) m.length cm, .int .i64 (jj : Int), .slice (some ⟨go, 0, none⟩) l'.length c'] w5 (OrdPost W w5 (.slice (some ⟨go, 0, none⟩) l'.length c') ⟨k', s', i', a'⟩ ls)) := Lib.hid (by
        have h1 := HOE5.out
        have hsN : (⟨k', s', i', a'⟩ : Tr).size ≤ N := by have := HN.out; show 1 + a'.size ≤ N; omega
        have hrm : ls.length + (⟨k', s', i', a'⟩ : Tr).size ≤ 1000000 := by show ls.length + (1 + a'.size) ≤ _; omega
        rw [← hll5] at h1 ⊢
        exact HIH.out ⟨k', s', i', a'⟩ jj w5 ls (some ⟨go, 0, none⟩) c' hsN HO'.out h1 HBL5.out hrm)
      have n5 := ((HFR5.out.blk HNB.out HRS.out).cell 3).trans (show _ = some (.slice (some ⟨bk, ok, none⟩) nk ck) from rfl)
      have k5 := HKC.out w5 HBL5.out
      have HNL5 := Lib.hid hnl5
      have HLL5 := Lib.hid hll5
      clear hnl5 hll5
      go_wp2_with (go_at_call 23; (with_reducible refine HCO.out.mono ?_); rintro e w6 ⟨l6, A6, c6, rfl, hn6, ho6, hb6, hf6⟩; have HN6 := Lib.hid hn6; have HO6 := Lib.hid ho6; have HB6 := Lib.hid hb6; have HF6 := Lib.hid hf6; clear hn6 ho6 hb6 hf6)
      have hl6 : l6.length = l'.length + (1 + a'.size) := by
        have h1 := congrArg List.length HN6.out
        rw [nodesOf_len, List.length_append, nodesOf_len, nodes_len, HLL5.out] at h1
        have h2 : (row1 ⟨k', s', i', a'⟩).size = 1 + a'.size := row1_size _
        omega
      have em : max (d : Int) ((⟨k', s', i', a'⟩ : Tr).depth : Int) = ((max d (⟨k', s', i', a'⟩ : Tr).depth : Nat) : Int) := by omega
      go_roundw
      case measure => simp only [intOf]; omega
      case rel =>
        refine ⟨ix + 1, max d (⟨k', s', i', a'⟩ : Tr).depth, l6.length, c6, A6, by omega, by simp, by rw [em], rfl, Lib.hid ⟨r, l6, done ++ (row1 ⟨k', s', i', a'⟩).nodes l'.length, acc ++ [(l'.length : Int)], HMD'.out, ?_, rfl, ?_, ?_, ?_, ?_, HO6.out, HB6.out, HFR5.out.trans HF6.out⟩⟩
        · rw [HN6.out, HNL5.out, HLL5.out, List.append_assoc, List.cons_append]
        · rw [hl6, ← hoff, List.append_assoc, List.singleton_append, ← Nat.add_assoc, Nat.add_assoc l'.length 1 a'.size, ← Nat.add_assoc]
        · have h1 := HI2.out.end_
          rw [nodes_cons ⟨k', s', i', a'⟩ r l'.length] at h1
          rw [hl6, List.append_assoc]
          exact h1
        · rw [hl6]; omega
        · have h1 := HI2.out.dp
          rw [fo_depth1] at h1
          have h2 : (⟨k', s', i', a'⟩ : Tr).depth = 1 + a'.depth := rfl
          omega
    · obtain rfl : ix = nk := by omega
      have d0 : decide ((ix : Int) < (ix : Int)) = false := decide_eq_false (by omega)
      have hr : rest = .nil := by
        have := hI.made
        rw [List.drop_eq_nil_of_le (by have := HNK.out.1; omega)] at this
        cases rest with
        | nil => rfl
        | cons k s i a r => obtain ⟨_, _, _, e, _⟩ := this; cases e
      subst hr
      have HI2 := Lib.hid hI
      have hdd : d = t.a.depth := by have := hI.dp; have h2 : (Fo.nil).depth = 0 := rfl; omega
      subst hdd
      have hds := depth_size t.a
      have hw9 : IntKind.i64.wrap ((t.a.depth : Int) + 1) = (t.depth : Int) := by rw [IntWalk.i64_in _ (by omega)]; show _ = ((1 + t.a.depth : Nat) : Int); omega
      clear hI hnb HI
      go_wp2_with fail
      refine ⟨rfl, .tuple #[.slice A' l'.length c', .int .i64 (t.depth : Int)], by simp [results, Tryz.results23], l', A', c', rfl, ?_, HI2.out.oe, HI2.out.bel, HF1.out.trans HI2.out.fr⟩
      rw [HI2.out.nds, nodes_row]
      have h1 := HI2.out.off
      have h2 := HI2.out.end_
      have e1 : (Fo.nil).offs l'.length = [] := rfl
      have e2 : (Fo.nil).nodes l'.length = [] := rfl
      rw [e1, List.append_nil] at h1
      rw [e2, List.append_nil] at h2
      rw [h1, h2]
end Go.Proofs.YtckfcpiedainfaaGreatDoor

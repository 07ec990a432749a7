/-
  WALKS: is a lent model as it was, with its marks?
  WALKS: great, check, New; and laws for a call and an alloc as steps of a region that draws its order.
  MODELS OF THE CALL's OWN: nodes and their lists in memory that the call made; a cell of a node turned; copy of a whole row.
  WALKS: the program's own: lists, nodes, models in memory of their own.
  WALKS: the program's own: a model in memory of its own.
  PLAIN MATHEMATICS: places among kids, depths, and what a model is behind a node that is added.
  PLAIN MATHEMATICS: document order.
  WALKS: what is done at each node: a function value that is called at nodes in document order.
  WALKS: over.
  WALKS: the closures that list the nodes at which they are called.
  WALKS: the document's: nodes and models in memory of their own.
  WALKS: how deep a node stands, the program's and the document's.
  WALKS: the program's search for a place among a parent's kids.
  WALKS: the document's: a node's kids in a role; the place ahead of which a place of a role is.
  WALKS: the roots; document order, what is below a node, who refers to it, as the program tells them.
  WALKS: the document's: what is below a node, by a stack.
-/
import Derived.Test.YteccblmdfjbljaaZ7
import Derived.Laws.OwnMore
import Derived.Laws.CopyRow
import Derived.Laws.IdiomCopy
import Derived.Laws.CopyOwn
import Derived.Deep.DrawnRows
namespace Go.Proofs.Yteccblmdfjbljaa
open Go Go.RowKit Go.Sort
set_option linter.unusedVariables false
attribute [local go_sem ↓] Go.wp_at_zero Go.wp_at_succ
theorem MarkIn.row {w : World} {B : Nat} {e : TypeId} {size n : Nat} {s : Sl} {xs mark : List Value} (h : MarkIn w B e size s n xs mark) (hx : xs.length = n * size) : Row w B w.heap.size size s.A s.n s.c xs := by
  have h1 := own_row (own_take h.2.2 (Nat.le_succ n) h.2.1)
  rw [show (xs ++ mark).take (n * size) = xs from by rw [← hx]; simp] at h1
  rw [h.1]
  exact h1
/-- the mark behind the end: the room is there, and what lies in it -/
theorem MarkIn.mark {w : World} {B : Nat} {e : TypeId} {size n : Nat} {s : Sl} {xs : List Value} {m0 : Value} {ms : List Value} (h : MarkIn w B e size s n xs (m0 :: ms)) (hx : xs.length = n * size) :
    ∃ b o, s.A = some ⟨b, o, none⟩ ∧ b < w.heap.size ∧ s.n + 1 ≤ s.c ∧ s.c ≤ maxLen ∧ w.cell? ⟨b, o + s.n * size, none⟩ = some m0 := by
  have h1 := own_row h.2.2
  obtain ⟨b, o, hA, _, hb, hc⟩ := h1.2.2.2 (Nat.succ_pos _)
  refine ⟨b, o, hA, hb, ?_, h1.2.2.1, hc _ _ ?_⟩
  · rw [h.1]; exact h1.2.1
  · rw [h.1, ← hx]; simp
theorem LentLeaf.leafIn {w : World} {B : Nat} {nd : Nd} {L : Leaf} (h : LentLeaf w B nd L) : LeafIn w B w.heap.size nd L :=
  ⟨h.p.1, h.k.1, h.r.1, h.p.row (propCells_length _), h.k.row (by rw [intCells_length]; omega), h.r.row (refCells_length _), h.sz⟩
theorem LentAt.ownN {w : World} {B n c : Nat} {A : Option Addr} {nds : List Nd} {l : List (Nd × Leaf)} (h : LentAt w B A n c nds l) : OwnN w B (.slice A n c) l := by
  have h1 := own_take h.own (Nat.le_succ n) h.some_
  rw [show (allCells l ++ markNd).take (n * 7) = allCells l from by rw [← h.len, ← allCells_len]; simp] at h1
  unfold OwnN
  rw [h.len]
  exact h1
theorem LentAt.nodesIn {w : World} {B n c : Nat} {A : Option Addr} {nds : List Nd} {l : List (Nd × Leaf)} (h : LentAt w B A n c nds l) : NodesIn w B w.heap.size A n c nds := by
  rw [← h.nds_]
  exact h.ownN.nodesIn h.len (fun p hp => (h.leaf p hp).leafIn) (Nat.le_refl _) (Nat.le_refl _)
theorem LentAt.after {w w' : World} {B n c : Nat} {A : Option Addr} {nds : List Nd} {l : List (Nd × Leaf)} (h : LentAt w B A n c nds l) (hb : Below w.heap.size w w') : LentAt w' B A n c nds l :=
  ⟨h.nds_, h.len, fun p hp => (h.leaf p hp).after hb, h.some_, own_after h.own hb, h.le, h.max⟩
/-- where the nodes lie, each with its marks, and the last mark -/
theorem LentAt.all {w : World} {B n c : Nat} {A : Option Addr} {nds : List Nd} {l : List (Nd × Leaf)} (h : LentAt w B A n c nds l) :
    ∃ b o, A = some ⟨b, o, none⟩ ∧ b < w.heap.size ∧ w.cell? ⟨b, o + n * 7, none⟩ = some (.int .i64 (-7)) ∧ ∀ i p, l[i]? = some p → NodeAt w b (o + i * 7) p.1 p.2 ∧ LentLeaf w B p.1 p.2 := by
  have h1 := own_row h.own
  obtain ⟨b, o, hA, _, hb, hc⟩ := h1.2.2.2 (Nat.succ_pos _)
  refine ⟨b, o, hA, hb, hc _ _ (by rw [← h.len, ← allCells_len]; simp [markNd]), fun i p hp => ?_⟩
  have hi : i < l.length := (List.getElem?_eq_some_iff.1 hp).1
  have key : ∀ j u, j < 7 → (ndCells p)[j]? = some u → w.cell? ⟨b, o + i * 7 + j, none⟩ = some u := by
    intro j u hj hu
    have hlt : i * 7 + j < (allCells l).length := by rw [allCells_len]; omega
    have := hc (i * 7 + j) u (by rw [List.getElem?_append_left hlt]; unfold allCells; rw [flatN_get ndCells_len l i p hp j hj]; exact hu)
    rwa [Nat.add_assoc]
  exact ⟨⟨key 0 _ (by omega) rfl, key 1 _ (by omega) rfl, key 2 _ (by omega) rfl, key 3 _ (by omega) rfl, key 4 _ (by omega) rfl, key 5 _ (by omega) rfl, key 6 _ (by omega) rfl⟩, h.leaf p (List.mem_of_getElem? hp)⟩
set_option maxRecDepth 100000 in
set_option maxHeartbeats 6400000 in
theorem kept_any (w : World) (B hi : Nat) (next : Int) (A A' : Option Addr) (n c n' c' : Nat) (nds : List Nd) (l : List (Nd × Leaf)) (h : LentAt w B A n c nds l) (h' : NodesIn w 0 hi A' n' c' nds) (hh : hi ≤ w.heap.size) :
    Calls Try.prog 16 #[.agg #[.int .i64 next, .slice A n c], .agg #[.int .i64 next, .slice A' n' c']] w (Ret w (.bool true)) := by
  have hle := h.le
  have hmx := h.max
  unfold maxLen at hmx
  have hM := M2.start w next next A A' n c n' c'
  have HM0 := Lib.hid hM
  obtain ⟨b, o, hA, hb, hmk, hall⟩ := h.all
  subst hA
  have q0 := cell_regrown ((hM.a.cell 0).trans (show _ = some (.int .i64 next) from rfl))
  have q1 := cell_regrown ((hM.a.cell 1).trans (show _ = some (.slice (some ⟨b, o, none⟩) n c) from rfl))
  have q2 := cell_regrown ((hM.b.cell 0).trans (show _ = some (.int .i64 next) from rfl))
  have q3 := cell_regrown ((hM.b.cell 1).trans (show _ = some (.slice A' n' c') from rfl))
  have qm := cell_regrown ((hM.bel.cell (p := ⟨b, _, none⟩) hb).trans hmk)
  have HS : Hid (∀ d os, Calls Try.prog 15 #[.agg #[.int .i64 next, .slice (some ⟨b, o, none⟩) n c], .agg #[.int .i64 next, .slice A' n' c']] (grow (redrawn ((w.alloc (.cells #[.int .i64 next, .slice (some ⟨b, o, none⟩) n c] 24)).alloc (.cells #[.int .i64 next, .slice A' n' c'] 24)) d) os) (Ret (grow (redrawn ((w.alloc (.cells #[.int .i64 next, .slice (some ⟨b, o, none⟩) n c] 24)).alloc (.cells #[.int .i64 next, .slice A' n' c'] 24)) d) os) (.bool true))) := Lib.hid fun d os => by
    have hbz := hM.bel.trans ((below_regrown _ d os).mono hM.bel.size)
    have := refSame_any _ (grow (redrawn ((w.alloc (.cells #[.int .i64 next, .slice (some ⟨b, o, none⟩) n c] 24)).alloc (.cells #[.int .i64 next, .slice A' n' c'] 24)) d) os).heap.size next next _ A' n c n' c' nds nds (((h.after hbz).nodesIn).mono (Nat.zero_le _) (Nat.le_refl _)) ((h'.below (hbz.mono hh)).mono (Nat.le_refl _) (Nat.le_trans hh hbz.size)) (Nat.le_refl _)
    rw [mdE_refl] at this
    exact this
  have hnl := h.len
  have HAll := Lib.hid hall
  have hbm := hM.bel
  clear hM hall hmk h h'
  go_enter Try.func16, Try.ntmps16
  go_wp2_with fail
  refine wp_region_quiet_below (by kernel_rfl) (by kernel_rfl) ?_
  repeat (go_big_quiet_step ((go_at_call 15; exact regrown_ret (HS.out _ _))))
  refine wpQuiet_nil ?_
  intro _ hw'
  obtain ⟨⟨dq, osq⟩, hw''⟩ := hw'
  subst hw''
  have HM2 := Lib.hid (HM0.out.after (below_regrown _ dq osq))
  generalize grow (redrawn _ dq) osq = w2 at HM2 ⊢
  clear q0 q1 q2 q3 qm HM0 HS hbm
  go_wp2_with fail
  go_loopw [5] (fun i wr => ∃ k : Nat, k ≤ n ∧ i = .int .i64 k ∧ M2 w next next (some ⟨b, o, none⟩) A' n c n' c' wr) (fun i _ => n - (intOf i).toNat)
  case atStart => exact ⟨0, by omega, rfl, HM2.out⟩
  case round =>
    clear HM2
    obtain ⟨k, hk, rfl, M⟩ := hrel
    have c1 := M.a.cell 1
    simp at c1
    have hbel := M.bel
    have hsz := M.size
    have HM := Lib.hid M
    clear M
    by_cases hlt : k < n
    · obtain ⟨⟨nd, L⟩, hp⟩ : ∃ p, l[k]? = some p := ⟨l[k]'(by omega), List.getElem?_eq_getElem _⟩
      obtain ⟨hat, hlf⟩ := HAll.out k _ hp
      have hat2 := hat.below hbel hb
      obtain ⟨a0, a1, a2, a3, a4, a5, a6⟩ := hat2
      obtain ⟨⟨Ap, np, cp⟩, ⟨Ak, nk, ck⟩, ⟨Ar, nr, cr⟩⟩ := L
      obtain ⟨bp, op, hAp, hbp, hrp, hxp, hcp⟩ := hlf.p.mark (propCells_length _)
      obtain ⟨bk, ok, hAk, hbk, hrk, hxk, hck⟩ := hlf.k.mark (by rw [intCells_length]; omega)
      obtain ⟨br, orr, hAr, hbr, hrr, hxr, hcr⟩ := hlf.r.mark (refCells_length _)
      simp only at a4 a5 a6 hAp hAk hAr hrp hrk hrr hxp hxk hxr hcp hck hcr
      subst hAp hAk hAr
      unfold maxLen at hxp hxk hxr
      rw [Nat.mul_one] at hck
      have e4 := (hbel.cell (p := ⟨bp, _, none⟩) hbp).trans hcp
      have e5 := (hbel.cell (p := ⟨bk, _, none⟩) hbk).trans hck
      have e6 := (hbel.cell (p := ⟨br, _, none⟩) hbr).trans hcr
      unfold markS at e4 e6
      have z4 := cell_alloc e4 (by omega) (.cells #[.int .i64 nd.id, .string nd.con, .int .i64 nd.par, .string nd.role, .slice (some ⟨bp, op, none⟩) np cp, .slice (some ⟨bk, ok, none⟩) nk ck, .slice (some ⟨br, orr, none⟩) nr cr] 81)
      have z5 := cell_alloc e5 (by omega) (.cells #[.int .i64 nd.id, .string nd.con, .int .i64 nd.par, .string nd.role, .slice (some ⟨bp, op, none⟩) np cp, .slice (some ⟨bk, ok, none⟩) nk ck, .slice (some ⟨br, orr, none⟩) nr cr] 81)
      have z6 := cell_alloc e6 (by omega) (.cells #[.int .i64 nd.id, .string nd.con, .int .i64 nd.par, .string nd.role, .slice (some ⟨bp, op, none⟩) np cp, .slice (some ⟨bk, ok, none⟩) nk ck, .slice (some ⟨br, orr, none⟩) nr cr] 81)
      have HBx := Lib.hid (Blk.new wr 81 #[.int .i64 nd.id, .string nd.con, .int .i64 nd.par, .string nd.role, .slice (some ⟨bp, op, none⟩) np cp, .slice (some ⟨bk, ok, none⟩) nk ck, .slice (some ⟨br, orr, none⟩) nr cr])
      clear hat hlf hp e4 e5 e6 hcp hck hcr
      go_upto_region 7 with (fail)
      obtain ⟨g6, hg6⟩ : ∃ g6, g6 = wr.heap.size := ⟨_, rfl⟩
      rw [← hg6] at HBx ⊢
      have HM3 := Lib.hid (HM.out.after (below_more (Below.refl _ _) (.cells #[.int .i64 nd.id, .string nd.con, .int .i64 nd.par, .string nd.role, .slice (some ⟨bp, op, none⟩) np cp, .slice (some ⟨bk, ok, none⟩) nk ck, .slice (some ⟨br, orr, none⟩) nr cr] 81)))
      have HG6 := Lib.hid hg6
      clear hg6
      generalize wr.alloc _ = X at z4 z5 z6 HBx HM3 ⊢
      have y4 := HBx.out.cell 4
      have y5 := HBx.out.cell 5
      have y6 := HBx.out.cell 6
      simp at y4 y5 y6
      go_quiet (fail)
      go_wp2_with fail
      go_roundw
      case measure => simp only [intOf]; omega
      case rel =>
        exact ⟨k + 1, by omega, by simp, HM3.out.after (below_drewN (Below.refl _ _) _)⟩
    · go_wp2_with fail
      go_ret
      exact ret_b rfl rfl HM.out.bel
end Go.Proofs.Yteccblmdfjbljaa
namespace Go.Proofs.Yteccblmdfjbljaa
open Go Go.RowKit Go.Sort
set_option linter.unusedVariables false
attribute [local go_sem ↓] Go.wp_at_zero Go.wp_at_succ
theorem step_call {P : Program} (w : World) {ops : Array Oper} {o : Oper} {a : Act} {K : Act → World → Prop} {Q : Exit → Act → World → Prop} {E : Prop} (hgd : o.guard = none) (f : FuncId) (vs : Array Value)
    (hrun : (execOp a.eval o).run P w = .ok (.enter f vs) w) {R : Ending → World → Prop} (h : Calls P f vs w R)
    (hK : ∀ e w', R e w' → ∃ u, e = .returned u ∧ K (a.put o.dst u) w') : if Region.wanted o (yielded ops a.tmps) = true then Oper.wp P o a w K Q else E := by
  have hw : Region.wanted o (yielded ops a.tmps) = true := by simp [Region.wanted, hgd]
  rw [if_pos hw]
  unfold Oper.wp
  rw [hrun]
  refine h.mono ?_
  intro e w' hR
  obtain ⟨u, rfl, hk⟩ := hK e w' hR
  exact hk
theorem great_any (w : World) (next : Int) (A : Option Addr) (n c : Nat) (hc : c ≤ maxLen) (hn : n ≤ c) (v : Bool) (hv : decide (300 < (n : Int)) = v) :
    Calls Try.prog 7 #[.agg #[.int .i64 next, .slice A n c]] w (Ret w (.bool v)) := by
  unfold maxLen at hc
  have HV := Lib.hid hv
  have hM := Blk.new w 24 #[.int .i64 next, .slice A n c]
  go_enter Try.func7, Try.ntmps7
  go_wp2_with fail
  go_ret
  exact ret_b rfl rfl (below_box _ _)
end Go.Proofs.Yteccblmdfjbljaa
namespace Go.Proofs.Yteccblmdfjbljaa
open Go Go.RowKit Go.Sort
set_option linter.unusedVariables false
/-- the lists of a node, each in memory of its own -/
structure OwnLeaf (w : World) (B : Nat) (nd : Nd) (L : Leaf) : Prop where
  pn : L.p.n = nd.props.length
  kn : L.k.n = nd.kids.length
  rn : L.r.n = nd.refs.length
  p : w.ownsRow B 83 2 (.slice L.p.A L.p.n L.p.c) L.p.n (propCells nd.props)
  k : w.ownsRow B 3 1 (.slice L.k.A L.k.n L.k.c) L.k.n (intCells nd.kids)
  r : w.ownsRow B 85 2 (.slice L.r.A L.r.n L.r.c) L.r.n (refCells nd.refs)
  sz : SzN nd
section
variable {w w' : World} {B : Nat} {nd : Nd} {L : Leaf}
theorem OwnLeaf.leafIn (h : OwnLeaf w B nd L) : LeafIn w B w.heap.size nd L := ⟨h.pn, h.kn, h.rn, own_row h.p, own_row h.k, own_row h.r, h.sz⟩
theorem OwnLeaf.after (h : OwnLeaf w B nd L) (hb : Below w.heap.size w w') : OwnLeaf w' B nd L := ⟨h.pn, h.kn, h.rn, own_after h.p hb, own_after h.k hb, own_after h.r hb, h.sz⟩
theorem OwnLeaf.mono (h : OwnLeaf w B nd L) {B' : Nat} (hB : B' ≤ B) : OwnLeaf w B' nd L := ⟨h.pn, h.kn, h.rn, own_mono h.p hB, own_mono h.k hB, own_mono h.r hB, h.sz⟩
theorem OwnLeaf.other (h : OwnLeaf w B nd L) {g : Nat} {t : TypeId} {cs : Array Value} (hg : Blk w g t cs) (h1 : 83 ≠ t) (h2 : 3 ≠ t) (h3 : 85 ≠ t) (i : Nat) (u : Value) : OwnLeaf (w.setCell ⟨g, i, none⟩ u) B nd L :=
  ⟨h.pn, h.kn, h.rn, own_other h.p hg h1 i u, own_other h.k hg h2 i u, own_other h.r hg h3 i u, h.sz⟩
theorem own_kept {e e' : TypeId} {size size' n n' B' : Nat} {v v' : Value} {xs xs' : List Value} (h : w.ownsRow B e size v n xs) (h' : w.ownsRow B' e' size' v' n' xs') (hne : e ≠ e') (hg : w.grownBy w' v'.ownBlock) : w'.ownsRow B e size v n xs :=
  World.ownsRow.kept h hg (own_own_ne h h' hne)
theorem OwnLeaf.kept (h : OwnLeaf w B nd L) {B' size' n' : Nat} {v' : Value} {xs' : List Value} (h' : w.ownsRow B' 81 size' v' n' xs') (hg : w.grownBy w' v'.ownBlock) : OwnLeaf w' B nd L :=
  ⟨h.pn, h.kn, h.rn, own_kept h.p h' (by decide) hg, own_kept h.k h' (by decide) hg, own_kept h.r h' (by decide) hg, h.sz⟩
end
/-- a list of nodes of the call's own -/
structure OwnM (w : World) (B : Nat) (v : Value) (l : List (Nd × Leaf)) : Prop where
  own : OwnN w B v l
  leaf : ∀ p ∈ l, OwnLeaf w B p.1 p.2
section
variable {w w' : World} {B : Nat} {v : Value} {l : List (Nd × Leaf)}
theorem OwnM.after (h : OwnM w B v l) (hb : Below w.heap.size w w') : OwnM w' B v l := ⟨own_after h.own hb, fun p hp => (h.leaf p hp).after hb⟩
theorem OwnM.mono (h : OwnM w B v l) {B' : Nat} (hB : B' ≤ B) : OwnM w B' v l := ⟨own_mono h.own hB, fun p hp => (h.leaf p hp).mono hB⟩
theorem OwnM.other (h : OwnM w B v l) {g : Nat} {cs : Array Value} (hg : Blk w g 24 cs) (i : Nat) (u : Value) : OwnM (w.setCell ⟨g, i, none⟩ u) B v l :=
  ⟨own_other h.own hg (by decide) i u, fun p hp => (h.leaf p hp).other hg (by decide) (by decide) (by decide) i u⟩
theorem OwnM.nodesIn {A : Option Addr} {n c : Nat} (h : OwnM w B (.slice A n c) l) (hn : l.length = n) : NodesIn w B w.heap.size A n c (l.map (·.1)) :=
  OwnN.nodesIn h.own hn (fun p hp => (h.leaf p hp).leafIn) (Nat.le_refl _) (Nat.le_refl _)
theorem own_blk {e : TypeId} {size n c g : Nat} {xs : List Value} (h : w.ownsRow B e size (.slice (some ⟨g, 0, none⟩) n c) n xs) : ∃ cs, Blk w g e cs ∧ B ≤ g ∧ cs.size = c * size := by
  rcases h.2 with ⟨h', _⟩ | ⟨g', cap', cur, h', hb, hg, _, _, hs, _⟩
  · simp at h'
  · simp only [Value.slice.injEq, Option.some.injEq, Addr.mk.injEq, and_true, true_and] at h'
    obtain ⟨rfl, rfl⟩ := h'
    exact ⟨cur, hg, hb, hs⟩
/-- the cells of a list of nodes of which one has turned -/
theorem allCells_set {l : List (Nd × Leaf)} {i j : Nat} {p q : Nd × Leaf} {u : Value} (hp : l[i]? = some p) (hj : j < 7) (hq : (ndCells p).set j u = ndCells q) : (allCells l).set (i * 7 + j) u = allCells (l.set i q) := by
  induction l generalizing i with
  | nil => simp at hp
  | cons x l ih =>
    have hx := ndCells_len x
    match i, hp with
    | 0, hp =>
      obtain rfl : x = p := by simpa using hp
      simp only [allCells, List.flatMap_cons, List.set_cons_zero, Nat.zero_mul, Nat.zero_add]
      rw [List.set_append_left _ _ (by omega), hq]
    | i + 1, hp =>
      have := ih (i := i) (by simpa using hp)
      simp only [allCells, List.flatMap_cons, List.set_cons_succ] at this ⊢
      rw [List.set_append_right _ _ (by omega), hx, show (i + 1) * 7 + j - 7 = i * 7 + j from by omega, this]
/-- a cell of a node is stored -/
theorem OwnM.store {n c g i j : Nat} {p q : Nd × Leaf} {u : Value} (h : OwnM w B (.slice (some ⟨g, 0, none⟩) n c) l) (hn : l.length = n) (hp : l[i]? = some p) (hj : j < 7) (hq : (ndCells p).set j u = ndCells q) (hl : OwnLeaf w B q.1 q.2) :
    OwnM (w.setCell ⟨g, i * 7 + j, none⟩ u) B (.slice (some ⟨g, 0, none⟩) n c) (l.set i q) := by
  subst hn
  have h1 : w.ownsRow B 81 7 (.slice (some ⟨g, 0, none⟩) l.length c) l.length (allCells l) := h.own
  obtain ⟨cs, hg, _, _⟩ := own_blk h1
  have h2 := (World.ownsRow.stored h1 (i * 7 + j) u).1
  rw [allCells_set hp hj hq] at h2
  refine ⟨?_, fun x hx => ?_⟩
  · unfold OwnN
    rw [List.length_set]
    exact h2
  · rcases List.mem_or_eq_of_mem_set hx with hx | rfl
    · exact (h.leaf x hx).other hg (by decide) (by decide) (by decide) _ u
    · exact hl.other hg (by decide) (by decide) (by decide) _ u
end
section
variable {P : Program} (w : World)
/-- copy of a whole row into a block of the call's own -/
theorem run_copy_all (dT sT ty elem : TypeId) (i : TypeInfo) (size : Nat) (hu : P.underlying dT = some (.slice elem)) (hi : P.info? elem = some i) (hs : i.size = size)
    (g n c m : Nat) (A : Option Addr) (k : Nat) (cur : Array Value) (t : TypeId) (hg : w.heap[g]? = some (.cells cur t (0, 0))) (hcur : cur.size = n * size)
    (lo hi' : Nat) (news : List Value) (hr : Row w lo hi' size A n k news) (hn : 0 < n) (h1 : ∀ u ∈ news, u.oneCell' = true) :
    (Builtin.copy_ #[dT, sT] ty #[.slice (some ⟨g, 0, none⟩) n c, .slice A n k]).run P w = .ok (goInt n) (w.setRow g news.toArray) := by
  obtain ⟨b, o, rfl, _, _, hc⟩ := hr.2.2.2 hn
  have hl := run_loadCells_list (P := P) w ⟨b, o, none⟩ news (fun j u hj => by rw [Addr.add_lit]; exact hc j u hj)
  have hst := run_storeCells_at P g 0 t news 0 cur w hg (by rw [hr.1, hcur]; omega) h1
  have hd : cur.toList.drop (n * size) = [] := List.drop_eq_nil_of_le (by rw [Array.length_toList, hcur]; exact Nat.le_refl _)
  rw [hr.1] at hl
  simp only [Nat.zero_add, List.take_zero, List.nil_append, hr.1, hd, List.append_nil] at hst
  simp [Builtin.copy_, run_underlying hu, Builtin.lenOf, Builtin.firstCells, sizeOf, typeInfo, hi, hs, hl, hst]
/-- a new block, filled whole -/
theorem own_filled {w X : World} {g n size B : Nat} {e : TypeId} {cur : Array Value} {news : List Value} (hg : X.heap[g]? = some (.cells cur e (0, 0))) (hB : B ≤ g) (hn : n ≤ maxLen) (hs : news.length = n * size) :
    (X.setRow g news.toArray).ownsRow B e size (.slice (some ⟨g, 0, none⟩) n n) n news :=
  ⟨hs, .inr ⟨g, n, news.toArray, rfl, hB, setRow_heap X g cur _ e _ hg, Nat.le_refl _, hn, by simpa using hs, by simp [← hs]⟩⟩
end
end Go.Proofs.Yteccblmdfjbljaa
namespace Go.Proofs.Yteccblmdfjbljaa
open Go Go.RowKit Go.Sort
set_option linter.unusedVariables false
attribute [local go_sem ↓] Go.wp_at_zero Go.wp_at_succ
/-- make of a row of elements, whatever their size: the cells are those of zero values, so many -/
theorem make_rows {P : Program} (t e : TypeId) (i : TypeInfo) (z : Value) (size bytes : Nat) (ht : P.underlying t = some (.slice e)) (hi : P.info? e = some i) (hz : i.zero = some z) (hs : i.size = size) (hb : i.bytes = bytes) (hzs : z.cells.size = size)
    (n : Nat) (hn : n * bytes ≤ 140737488355328) (hm : n ≤ 9223372036854775807) : ∃ cur : Array Value, cur.size = n * size ∧ ∀ w : World, (Instr.makeSlice t (.int .i64 (n : Int)) (.int .i64 (n : Int))).run P w = .ok (.slice (some ⟨w.heap.size, 0, none⟩) n n) (w.alloc (.cells cur e)) := by
  refine ⟨madeCells z.cells (n * i.size), ?_, fun w => ?_⟩
  · rw [hs]; simp [madeCells]
  · have h1 : (i.bytes : Int) * (n : Int) ≤ 281474976710656 := by
      have h2 : ((n * bytes : Nat) : Int) ≤ 281474976710656 := by omega
      rw [Int.natCast_mul] at h2
      rw [hb, Int.mul_comm]
      exact h2
    have hr := run_make (P := P) w t e i z ht hi hz .i64 .i64 n n (by omega) (by omega) h1 (by omega)
    simp only [Int.toNat_natCast] at hr
    exact hr
/-- a node's own lists, and two boxes of nodes -/
structure NodeR (w : World) (nd : Nd) (M : Leaf) (g5 g6 : Nat) (X : World) : Prop where
  leaf : OwnLeaf X w.heap.size nd M
  b5 : ∃ cs, Blk X g5 81 cs
  b6 : ∃ cs, Blk X g6 81 cs
  bel : Below w.heap.size w X
theorem NodeR.s5 {w X : World} {nd : Nd} {M : Leaf} {g5 g6 : Nat} (h : NodeR w nd M g5 g6 X) (hg : w.heap.size ≤ g5) (i : Nat) (u : Value) : NodeR w nd M g5 g6 (X.setCell ⟨g5, i, none⟩ u) := by
  obtain ⟨h1, ⟨c5, h2⟩, ⟨c6, h3⟩, h4⟩ := h
  refine ⟨h1.other h2 (by decide) (by decide) (by decide) i u, ⟨_, h2.set_ i u⟩, ?_, h4.setCell (p := ⟨g5, i, none⟩) hg u⟩
  by_cases e : g6 = g5
  · subst e; exact ⟨_, h3.set_ i u⟩
  · exact ⟨_, h3.far (p := ⟨g5, i, none⟩) e u⟩
theorem NodeR.s6 {w X : World} {nd : Nd} {M : Leaf} {g5 g6 : Nat} (h : NodeR w nd M g5 g6 X) (hg : w.heap.size ≤ g6) (i : Nat) (u : Value) : NodeR w nd M g5 g6 (X.setCell ⟨g6, i, none⟩ u) := by
  obtain ⟨h1, h2, h3, h4⟩ := h
  have := NodeR.s5 ⟨h1, h3, h2, h4⟩ hg i u
  exact ⟨this.leaf, this.b6, this.b5, this.bel⟩
end Go.Proofs.Yteccblmdfjbljaa
namespace Go.Proofs.Yteccblmdfjbljaa
open Go Go.RowKit Go.Sort
set_option linter.unusedVariables false
attribute [local go_sem ↓] Go.wp_at_zero Go.wp_at_succ
theorem take_set7 {α : Type} {xs : List α} {k : Nat} {c0 c1 c2 c3 c4 c5 c6 : α} (h : k * 7 + 7 ≤ xs.length) :
    (((((((xs.set (k * 7) c0).set (k * 7 + 1) c1).set (k * 7 + 2) c2).set (k * 7 + 3) c3).set (k * 7 + 4) c4).set (k * 7 + 5) c5).set (k * 7 + 6) c6).take ((k + 1) * 7) = xs.take (k * 7) ++ [c0, c1, c2, c3, c4, c5, c6] := by
  apply List.ext_getElem?
  intro j
  rcases Nat.lt_or_ge j (k * 7) with hj | hj
  · rw [List.getElem?_take_of_lt (by omega), List.getElem?_append_left (by rw [List.length_take]; omega), List.getElem?_take_of_lt hj]
    repeat rw [List.getElem?_set_ne (by omega)]
  · obtain ⟨r, rfl⟩ : ∃ r, j = k * 7 + r := ⟨j - k * 7, by omega⟩
    rw [List.getElem?_append_right (by rw [List.length_take]; omega), List.length_take, Nat.min_eq_left (by omega), Nat.add_sub_cancel_left]
    match r with
    | 0 => simp [List.getElem?_take, List.getElem?_set]; omega
    | 1 => simp [List.getElem?_take, List.getElem?_set]; omega
    | 2 => simp [List.getElem?_take, List.getElem?_set]; omega
    | 3 => simp [List.getElem?_take, List.getElem?_set]; omega
    | 4 => simp [List.getElem?_take, List.getElem?_set]; omega
    | 5 => simp [List.getElem?_take, List.getElem?_set]; omega
    | 6 => simp [List.getElem?_take, List.getElem?_set]; omega
    | r + 7 => rw [List.getElem?_take_eq_none (by omega)]; simp
/-- a row of nodes, of which the first ones are filled -/
structure Filling (w : World) (next : Int) (A : Option Addr) (n c k g : Nat) (xs : List Value) (l : List (Nd × Leaf)) (wr : World) : Prop where
  md : Blk wr w.heap.size 24 #[.int .i64 next, .slice A n c]
  rs : Blk wr (w.heap.size + 1) 24 #[.int .i64 0, .slice none 0 0]
  row : wr.ownsRow w.heap.size 81 7 (.slice (some ⟨g, 0, none⟩) n n) n xs
  fill : xs.take (k * 7) = allCells l
  leaf : ∀ p ∈ l, OwnLeaf wr w.heap.size p.1 p.2
  bel : Below w.heap.size w wr
section
variable {w X X' : World} {next : Int} {A : Option Addr} {n c k g : Nat} {xs : List Value} {l : List (Nd × Leaf)}
theorem Filling.after (h : Filling w next A n c k g xs l X) (hb : Below X.heap.size X X') : Filling w next A n c k g xs l X' :=
  ⟨h.md.after hb, h.rs.after hb, own_after h.row hb, h.fill, fun p hp => (h.leaf p hp).after hb, h.bel.trans (hb.mono h.bel.size)⟩
/-- what a store into the row leaves, but for what is filled -/
structure Filled (w : World) (next : Int) (A : Option Addr) (n c g : Nat) (xs : List Value) (l : List (Nd × Leaf)) (wr : World) : Prop where
  md : Blk wr w.heap.size 24 #[.int .i64 next, .slice A n c]
  rs : Blk wr (w.heap.size + 1) 24 #[.int .i64 0, .slice none 0 0]
  row : wr.ownsRow w.heap.size 81 7 (.slice (some ⟨g, 0, none⟩) n n) n xs
  leaf : ∀ p ∈ l, OwnLeaf wr w.heap.size p.1 p.2
  bel : Below w.heap.size w wr
theorem Filled.set (h : Filled w next A n c g xs l X) (j : Nat) (u : Value) : Filled w next A n c g (xs.set j u) l (X.setCell ⟨g, j, none⟩ u) := by
  obtain ⟨cs, hg, hB, _⟩ := own_blk h.row
  have hs := World.ownsRow.stored h.row j u
  refine ⟨h.md.far ?_ u, h.rs.far ?_ u, hs.1, fun p hp => (h.leaf p hp).other hg (by decide) (by decide) (by decide) j u, h.bel.setCell (p := ⟨g, j, none⟩) hB u⟩
  · exact h.md.ne_ hg (by decide)
  · exact h.rs.ne_ hg (by decide)
theorem Filling.push {p : Nd × Leaf} (h : Filling w next A n c k g xs l X) (hk : k < n) (hl : l.length = k) (hp : OwnLeaf X w.heap.size p.1 p.2) {u0 u1 u2 u3 u4 u5 u6 : Value} (hu : ndCells p = [u0, u1, u2, u3, u4, u5, u6]) :
    ∃ xs', Filling w next A n c (k + 1) g xs' (l ++ [p]) (((((((X.setCell ⟨g, k * 7, none⟩ u0).setCell ⟨g, k * 7 + 1, none⟩ u1).setCell ⟨g, k * 7 + 2, none⟩ u2).setCell ⟨g, k * 7 + 3, none⟩ u3).setCell ⟨g, k * 7 + 4, none⟩ u4).setCell ⟨g, k * 7 + 5, none⟩ u5).setCell ⟨g, k * 7 + 6, none⟩ u6) := by
  have h0 : Filled w next A n c g xs (l ++ [p]) X := ⟨h.md, h.rs, h.row, fun q hq => by
    rcases List.mem_append.1 hq with hq | hq
    · exact h.leaf q hq
    · obtain rfl : q = p := by simpa using hq
      exact hp, h.bel⟩
  have h7 := ((((((h0.set (k * 7) u0).set (k * 7 + 1) u1).set (k * 7 + 2) u2).set (k * 7 + 3) u3).set (k * 7 + 4) u4).set (k * 7 + 5) u5).set (k * 7 + 6) u6
  refine ⟨_, h7.md, h7.rs, h7.row, ?_, h7.leaf, h7.bel⟩
  rw [take_set7 (by rw [h.row.1]; omega), h.fill, ← hu]
  simp [allCells]
theorem Filling.room (h : Filling w next A n c k g xs l X) (hk : k < n) :
    (∃ u, X.cell? ⟨g, k * 7, none⟩ = some u ∧ X.frozen? ⟨g, k * 7, none⟩ = false) ∧ (∃ u, X.cell? ⟨g, k * 7 + 1, none⟩ = some u ∧ X.frozen? ⟨g, k * 7 + 1, none⟩ = false) ∧
    (∃ u, X.cell? ⟨g, k * 7 + 2, none⟩ = some u ∧ X.frozen? ⟨g, k * 7 + 2, none⟩ = false) ∧ (∃ u, X.cell? ⟨g, k * 7 + 3, none⟩ = some u ∧ X.frozen? ⟨g, k * 7 + 3, none⟩ = false) ∧
    (∃ u, X.cell? ⟨g, k * 7 + 4, none⟩ = some u ∧ X.frozen? ⟨g, k * 7 + 4, none⟩ = false) ∧ (∃ u, X.cell? ⟨g, k * 7 + 5, none⟩ = some u ∧ X.frozen? ⟨g, k * 7 + 5, none⟩ = false) ∧
    (∃ u, X.cell? ⟨g, k * 7 + 6, none⟩ = some u ∧ X.frozen? ⟨g, k * 7 + 6, none⟩ = false) := by
  have key : ∀ j, j < n * 7 → ∃ u, X.cell? ⟨g, j, none⟩ = some u ∧ X.frozen? ⟨g, j, none⟩ = false := fun j hj => by
    have h1 := World.ownsRow.cellAt h.row j hj
    rw [List.getElem?_eq_getElem (by rw [h.row.1]; exact hj)] at h1
    exact ⟨_, h1, World.ownsRow.frozenAt h.row j⟩
  exact ⟨key _ (by omega), key _ (by omega), key _ (by omega), key _ (by omega), key _ (by omega), key _ (by omega), key _ (by omega)⟩
theorem Filling.ownM {k : Nat} {xs : List Value} (h : Filling w next A k c k g xs l X) (hl : l.length = k) : OwnM X w.heap.size (.slice (some ⟨g, 0, none⟩) k k) l := by
  refine ⟨?_, h.leaf⟩
  have h1 := h.row
  have h2 := h.fill
  rw [List.take_of_length_le (by rw [h1.1]; exact Nat.le_refl _)] at h2
  unfold OwnN
  rw [hl, ← h2]
  exact h1
theorem filling_start (w : World) (next : Int) (A : Option Addr) (n c : Nat) (cur : Array Value) (hcs : cur.size = n * 7) (hn : n ≤ maxLen) : Filling w next A n c 0 (w.heap.size + 1 + 1) cur.toList []
    (((w.alloc (.cells #[.int .i64 next, .slice A n c] 24)).alloc (.cells #[.int .i64 0, .slice none 0 0] 24)).alloc (.cells cur 81)) := by
  refine ⟨?_, ?_, ?_, by simp [allCells], by simp, below_more (below_more (below_more (Below.refl _ _) _) _) _⟩
  · exact ((Blk.new w _ _).alloc _).alloc _
  · exact (Blk.new' (by simp)).alloc _
  · exact ⟨by simpa using hcs, .inr ⟨w.heap.size + 1 + 1, n, cur, rfl, by omega, Blk.new' (by simp), Nat.le_refl _, hn, hcs, List.take_of_length_le (by simp [hcs])⟩⟩
end
end Go.Proofs.Yteccblmdfjbljaa
namespace Go.Proofs.Yteccblmdfjbljaa
open Go Go.RowKit
set_option linter.unusedVariables false
/-- what a right model is -/
structure RightM (next : Int) (nds : List Nd) : Prop where
  rise : Rise nds
  lo : 1 ≤ next
  hi : next ≤ 1048577
  len : nds.length ≤ 4096
  lt : ∀ (i : Nat) nd, nds[i]? = some nd → nd.id < next
  plain : ∀ nd ∈ nds, plainB next nds nd = true
  below : ∀ nd ∈ nds, belowB nds 64 nd = true
theorem rightM {next : Int} {nds : List Nd} (h : rightB next nds = true) : RightM next nds := by
  unfold rightB numB headB at h
  simp only [Bool.and_eq_true, decide_eq_true_eq, List.all_eq_true] at h
  obtain ⟨⟨⟨⟨h1, h2⟩, h3⟩, h4⟩, h5⟩ := h
  exact ⟨Rise.of h4, h1, h2, h3, fun i nd hi => ((idsB_rise (by omega) h4).1 i nd hi).2, fun nd hnd => (h5 nd hnd).1, fun nd hnd => (h5 nd hnd).2⟩
theorem RightM.kids {next : Int} {nds : List Nd} (h : RightM next nds) {nd : Nd} (hnd : nd ∈ nds) : (∀ k ∈ nd.kids, ∃ x, ndOf nds k = some x ∧ x.par = nd.id) ∧ nd.kids.Nodup := by
  have h1 := h.plain nd hnd
  unfold plainB at h1
  simp only [Bool.and_eq_true] at h1
  have h2 := kidsB_spec.1 h1.2
  exact ⟨fun k hk => (h2.1 k hk).1, h2.2⟩
/-- the k-th one up from a node -/
def upI (nds : List Nd) (id : Int) : Nat → Int
  | 0 => id
  | k + 1 => match ndOf nds (upI nds id k) with
    | some nd => nd.par
    | none => 0
/-- so many nodes stand on the way from a node up -/
structure DepthIs (nds : List Nd) (id : Int) (K : Nat) : Prop where
  top : upI nds id K = 0
  way : ∀ k, k < K → upI nds id k ≠ 0 ∧ ∃ nd, ndOf nds (upI nds id k) = some nd
theorem upI_shift {nds : List Nd} {id : Int} {nd : Nd} (h : ndOf nds id = some nd) : ∀ k, upI nds id (k + 1) = upI nds nd.par k
  | 0 => by rw [upI, upI, upI, h]
  | k + 1 => by rw [upI, upI_shift h k, upI]
theorem depth_zero (nds : List Nd) : DepthIs nds 0 0 := ⟨rfl, fun k hk => absurd hk (Nat.not_lt_zero _)⟩
theorem DepthIs.succ {nds : List Nd} {id : Int} {nd : Nd} {K : Nat} (h : DepthIs nds nd.par K) (hnd : ndOf nds id = some nd) (h0 : id ≠ 0) : DepthIs nds id (K + 1) := by
  refine ⟨by rw [upI_shift hnd]; exact h.top, fun k hk => ?_⟩
  cases k with
  | zero => exact ⟨h0, nd, hnd⟩
  | succ k => rw [upI_shift hnd]; exact h.way k (by omega)
theorem DepthIs.eq {nds : List Nd} {id : Int} {K K' : Nat} (h : DepthIs nds id K) (h' : DepthIs nds id K') : K = K' := by
  rcases Nat.lt_trichotomy K K' with k | k | k
  · exact absurd h.top (h'.way K k).1
  · exact k
  · exact absurd h'.top (h.way K' k).1
theorem depth_of {next : Int} {nds : List Nd} (hr : RightM next nds) : ∀ (f : Nat) (nd : Nd), nd ∈ nds → belowB nds f nd = true → ∃ K, 1 ≤ K ∧ K ≤ f ∧ DepthIs nds nd.id K
  | 0, nd, _, h => by simp [belowB] at h
  | f + 1, nd, hm, h => by
    obtain ⟨i, hi⟩ := List.getElem?_of_mem hm
    have hnd := ndOf_is hr.rise hi
    have h0 : nd.id ≠ 0 := by have := hr.rise.pos i nd hi; omega
    rw [belowB] at h
    split at h
    · rename_i hp
      exact ⟨1, by omega, by omega, (show DepthIs nds nd.par 0 from by rw [hp]; exact depth_zero nds).succ hnd h0⟩
    · split at h
      · cases h
      · rename_i p hp
        simp only [Bool.and_eq_true] at h
        obtain ⟨j, _, hj, he⟩ := ndOf_some hp
        obtain ⟨K, h1, h2, h3⟩ := depth_of hr f p (List.mem_of_getElem? hj) h.2
        rw [he] at h3
        exact ⟨K + 1, by omega, by omega, h3.succ hnd h0⟩
/-- how deep a node stands; 0: there is none -/
def depthV (nds : List Nd) (id : Int) : Nat := ((List.range 65).find? (fun k => upI nds id k == 0)).getD 0
theorem DepthIs.val {nds : List Nd} {id : Int} {K : Nat} (h : DepthIs nds id K) (hK : K ≤ 64) : depthV nds id = K := by
  unfold depthV
  have : (List.range 65).find? (fun k => upI nds id k == 0) = some K := by
    rw [List.find?_range_eq_some]
    refine ⟨by simpa using h.top, by simp; omega, fun j hj => ?_⟩
    simpa using (h.way j hj).1
  rw [this]; rfl
theorem RightM.depth {next : Int} {nds : List Nd} (hr : RightM next nds) {id : Int} {nd : Nd} (h : ndOf nds id = some nd) : DepthIs nds id (depthV nds id) ∧ 1 ≤ depthV nds id ∧ depthV nds id ≤ 64 := by
  obtain ⟨i, _, hi, he⟩ := ndOf_some h
  have hm := List.mem_of_getElem? hi
  obtain ⟨K, h1, h2, h3⟩ := depth_of hr 64 nd hm (hr.below nd hm)
  rw [he] at h3
  rw [h3.val h2]
  exact ⟨h3, h1, h2⟩
end Go.Proofs.Yteccblmdfjbljaa
namespace Go.Proofs.Yteccblmdfjbljaa
open Go Go.RowKit
set_option linter.unusedVariables false
def kidsV (nds : List Nd) (x : Int) : List Int := match ndOf nds x with
  | some nd => nd.kids
  | none => []
theorem kidsV_of {nds : List Nd} {x : Int} {nd : Nd} (h : ndOf nds x = some nd) : kidsV nds x = nd.kids := by unfold kidsV; rw [h]
/-- nodes with all that is below them, in document order, each with how deep it stands -/
def pre (nds : List Nd) : Nat → Nat → List Int → List (Int × Nat)
  | 0, _, _ => []
  | f + 1, d, ids => ids.flatMap fun x => (x, d) :: pre nds f (d + 1) (kidsV nds x)
/-- all of them are nodes that stand so deep -/
def AtD (nds : List Nd) (D : Nat) (ids : List Int) : Prop := ∀ x ∈ ids, (∃ nd, ndOf nds x = some nd) ∧ depthV nds x = D
section
variable {next : Int} {nds : List Nd}
theorem kid_depth (hr : RightM next nds) {x k : Int} {nd : Nd} (hx : ndOf nds x = some nd) (hk : k ∈ nd.kids) : ∃ y, ndOf nds k = some y ∧ y.par = x ∧ depthV nds k = depthV nds x + 1 := by
  obtain ⟨i, _, hi, he⟩ := ndOf_some hx
  obtain ⟨y, hy, hp⟩ := (hr.kids (List.mem_of_getElem? hi)).1 k hk
  rw [he] at hp
  obtain ⟨j, _, hj, hje⟩ := ndOf_some hy
  have h0 : k ≠ 0 := by have := hr.rise.pos j y hj; omega
  have h1 := (show DepthIs nds y.par (depthV nds x) from by rw [hp]; exact (hr.depth hx).1).succ hy h0
  exact ⟨y, hy, hp, (hr.depth hy).1.eq h1⟩
theorem AtD.kids (hr : RightM next nds) {D : Nat} {x : Int} (h : (∃ nd, ndOf nds x = some nd) ∧ depthV nds x = D) : AtD nds (D + 1) (kidsV nds x) := by
  obtain ⟨⟨nd, hx⟩, hd⟩ := h
  rw [kidsV_of hx]
  intro k hk
  obtain ⟨y, h1, _, h2⟩ := kid_depth hr hx hk
  exact ⟨⟨y, h1⟩, by omega⟩
theorem AtD.le (hr : RightM next nds) {D : Nat} {ids : List Int} (h : AtD nds D ids) (h0 : 65 ≤ D) : ids = [] := by
  cases ids with
  | nil => rfl
  | cons x r =>
    obtain ⟨⟨nd, hx⟩, hd⟩ := h x (by simp)
    have := (hr.depth hx).2.2
    omega
end
end Go.Proofs.Yteccblmdfjbljaa
namespace Go.Proofs.Yteccblmdfjbljaa
open Go Go.RowKit Go.Sort
set_option linter.unusedVariables false
attribute [local go_sem ↓] Go.wp_at_zero Go.wp_at_succ
theorem below_drew1 (w : World) : Below w.heap.size w w.drew := ⟨rfl, rfl, rfl, Nat.le_refl _, fun _ _ => rfl⟩
/-- numbers in memory that is left alone: it was there at w0, and is not the block g0 -/
def RowF (w0 : World) (g0 : Nat) (A : Option Addr) (n c : Nat) (ids : List Int) : Prop :=
  ids.length = n ∧ n ≤ c ∧ c ≤ maxLen ∧ (0 < n → ∃ b o, A = some ⟨b, o, none⟩ ∧ b < w0.heap.size ∧ b ≠ g0 ∧ ∀ j u, (intCells ids)[j]? = some u → w0.cell? ⟨b, o + j, none⟩ = some u)
theorem RowF.of {w0 : World} {g0 lo hi n c : Nat} {A : Option Addr} {ids : List Int} (h : Row w0 lo hi 1 A n c (intCells ids)) (hh : hi ≤ w0.heap.size) (hg : g0 < lo ∨ hi ≤ g0) : RowF w0 g0 A n c ids := by
  refine ⟨by have := h.1; rw [intCells_length] at this; omega, h.2.1, h.2.2.1, fun hn => ?_⟩
  obtain ⟨b, o, e, h1, h2, hc⟩ := h.2.2.2 hn
  exact ⟨b, o, e, by omega, by omega, hc⟩
/-- blocks of other types stay -/
def Keeps (X X' : World) : Prop := X.heap.size ≤ X'.heap.size ∧ ∀ g t cs, t ≠ 3 → t ≠ 78 → Blk X g t cs → Blk X' g t cs
theorem Keeps.of {X X' : World} (h : Below X.heap.size X X') : Keeps X X' := ⟨h.size, fun g t cs _ _ hb => hb.after h⟩
theorem Keeps.trans {X X' X'' : World} (h : Keeps X X') (h' : Keeps X' X'') : Keeps X X'' := ⟨Nat.le_trans h.1 h'.1, fun g t cs h1 h2 hb => h'.2 g t cs h1 h2 (h.2 g t cs h1 h2 hb)⟩
/-- a function value that is called at nodes: what holds of the world behind the nodes so far -/
structure Visit (w0 : World) (g0 M : Nat) (A : Option Addr) (nds : List Nd) (F : FuncId) (caps : Array Value) (Inv : World → List (Int × Nat) → Prop) : Prop where
  enters : ∀ args w, Sem.run Try.prog (callFunc F args) w = .ok (.enter F args) w
  grown : ∀ X l, Inv X l → w0.grownBy X (some g0)
  after : ∀ X X' l, Inv X l → Below X.heap.size X X' → Inv X' l
  call : ∀ X l (i : Nat) nd (d : Nat) b o, Inv X l → l.length < M → nds[i]? = some nd → A = some ⟨b, o, none⟩ → d ≤ 65 →
    Calls Try.prog F (#[.pointer (some ⟨b, o + i * 7, none⟩), .int .i64 d] ++ caps) X fun e X' => e = .returned (.tuple #[]) ∧ Inv X' (l ++ [(nd.id, d)]) ∧ Keeps X X'
/-- .. and the boxes of the walk -/
structure OV (next : Int) (A : Option Addr) (n c : Nat) (g1 g2 g3 : Nat) (F : FuncId) (caps : Array Value) (Inv : World → List (Int × Nat) → Prop) (l : List (Int × Nat)) (X : World) : Prop where
  inv : Inv X l
  m : Blk X g1 24 #[.int .i64 next, .slice A n c]
  v : Blk X g2 158 #[.func (.func F) #[] caps]
  d : Blk X g3 198 #[.func (.func 150) #[] #[.pointer (some ⟨g1, 0, none⟩), .pointer (some ⟨g2, 0, none⟩), .pointer (some ⟨g3, 0, none⟩)]]
section
variable {w0 : World} {g0 M : Nat} {A : Option Addr} {nds : List Nd} {F : FuncId} {caps : Array Value} {Inv : World → List (Int × Nat) → Prop} {next : Int} {n c g1 g2 g3 : Nat} {l : List (Int × Nat)} {X X' : World}
theorem OV.after (V : Visit w0 g0 M A nds F caps Inv) (h : OV next A n c g1 g2 g3 F caps Inv l X) (hb : Below X.heap.size X X') : OV next A n c g1 g2 g3 F caps Inv l X' :=
  ⟨V.after _ _ _ h.inv hb, h.m.after hb, h.v.after hb, h.d.after hb⟩
theorem OV.step {l' : List (Int × Nat)} (h : OV next A n c g1 g2 g3 F caps Inv l X) (hi : Inv X' l') (hk : Keeps X X') : OV next A n c g1 g2 g3 F caps Inv l' X' :=
  ⟨hi, hk.2 _ _ _ (by decide) (by decide) h.m, hk.2 _ _ _ (by decide) (by decide) h.v, hk.2 _ _ _ (by decide) (by decide) h.d⟩
end
end Go.Proofs.Yteccblmdfjbljaa
namespace Go.Proofs.Yteccblmdfjbljaa
open Go Go.RowKit Go.Sort
set_option linter.unusedVariables false
attribute [local go_sem ↓] Go.wp_at_zero Go.wp_at_succ
theorem run_store_func' {P : Program} {w : World} {a : Addr} (f : Fn) (r : _) (caps : Array Value) (m : _) : (store a (.func f r caps) m).run P w = stored P w a (.func f r caps) m := run_store P w a _ m rfl
attribute [local go_sem] run_store_func'
end Go.Proofs.Yteccblmdfjbljaa
namespace Go.Proofs.Yteccblmdfjbljaa
open Go Go.RowKit Go.Sort
set_option linter.unusedVariables false
attribute [local go_sem ↓] Go.wp_at_zero Go.wp_at_succ
/-- a box with a list of numbers that grows -/
structure IE (w0 : World) (g0 : Nat) (ov : Value) (X : World) : Prop where
  gr : w0.grownBy X (some g0)
  bx : Blk X g0 78 #[ov]
structure IW (w0 : World) (g0 : Nat) (ov : Value) (r : List Int) (X : World) : Prop where
  e : IE w0 g0 ov X
  own : X.ownsRow w0.heap.size 3 1 ov r.length (intCells r)
def IdsInv (w0 : World) (g0 : Nat) (r : List Int) (X : World) : Prop := ∃ ov, IW w0 g0 ov r X
section
variable {w0 X X' : World} {g0 : Nat} {ov : Value} {r : List Int}
theorem own_base {w : World} {B size n : Nat} {e : TypeId} {v : Value} {xs : List Value} (h : w.ownsRow B e size v n xs) {g : Nat} (hg : v.ownBlock = some g) : B ≤ g := by
  rcases h.2 with ⟨rfl, _⟩ | ⟨g', cap, cur, rfl, hb, _⟩
  · simp [Value.ownBlock] at hg
  · have : g' = g := by simpa [Value.ownBlock] using hg
    omega
theorem IE.after (h : IE w0 g0 ov X) (hb : Below X.heap.size X X') : IE w0 g0 ov X' :=
  ⟨⟨hb.os.trans h.gr.os, hb.tape.trans h.gr.tape, hb.output.trans h.gr.output, Nat.le_trans h.gr.size hb.size, fun k hk hne => (hb.block k (Nat.lt_of_lt_of_le hk h.gr.size)).trans (h.gr.block k hk hne)⟩, h.bx.after hb⟩
theorem IW.after (h : IW w0 g0 ov r X) (hb : Below X.heap.size X X') : IW w0 g0 ov r X' := ⟨h.e.after hb, own_after h.own hb⟩
theorem IdsInv.after (h : IdsInv w0 g0 r X) (hb : Below X.heap.size X X') : IdsInv w0 g0 r X' := by
  obtain ⟨ov, h⟩ := h
  exact ⟨ov, h.after hb⟩
theorem IE.kept (h : IE w0 g0 ov X) (hown : X.ownsRow w0.heap.size 3 1 ov r.length (intCells r)) (hg : X.grownBy X' ov.ownBlock) : IE w0 g0 ov X' :=
  ⟨⟨hg.os.trans h.gr.os, hg.tape.trans h.gr.tape, hg.output.trans h.gr.output, Nat.le_trans h.gr.size hg.size, fun k hk hne =>
    (hg.block k (Nat.lt_of_lt_of_le hk h.gr.size) (fun e => by have := own_base hown e.symm; omega)).trans (h.gr.block k hk hne)⟩, h.bx.grown hg (Ne.symm (own_blk_ne hown h.bx (by decide)))⟩
theorem IW.push {x : Int} {v' : Value} (h : IW w0 g0 ov r X) (hg : X.grownBy X' ov.ownBlock) (hown : X'.ownsRow w0.heap.size 3 1 v' (r.length + 1) (intCells r ++ [.int .i64 x])) : IW w0 g0 v' (r ++ [x]) (X'.setCell ⟨g0, 0, none⟩ v') := by
  have h1 := h.e.kept h.own hg
  refine ⟨⟨only_set h1.gr 0 v', h1.bx.set_ 0 v'⟩, ?_⟩
  rw [List.length_append, List.length_singleton, show intCells (r ++ [x]) = intCells r ++ [.int .i64 x] from by simp [intCells]]
  exact own_other hown h1.bx (by decide) 0 v'
theorem IW.keeps {v' : Value} (h : IW w0 g0 ov r X) (hg : X.grownBy X' ov.ownBlock) : Keeps X (X'.setCell ⟨g0, 0, none⟩ v') := by
  have h1 := h.e.kept h.own hg
  refine ⟨by simpa [World.setCell] using hg.size, fun g t cs ht1 ht2 hb => ?_⟩
  have h2 := hb.grown hg (Ne.symm (own_blk_ne h.own hb (Ne.symm ht1)))
  exact h2.far (p := ⟨g0, 0, none⟩) (h2.ne_ h1.bx ht2) _
theorem IW.start {w : World} (hg : w.heap.size = g0) : IdsInv (w.alloc (.cells #[.slice none 0 0] 78)) g0 [] (w.alloc (.cells #[.slice none 0 0] 78)) :=
  ⟨.slice none 0 0, ⟨⟨World.grownBy.refl _ _, Blk.new' hg.symm⟩, ⟨rfl, .inl ⟨rfl, rfl⟩⟩⟩⟩
end
end Go.Proofs.Yteccblmdfjbljaa
namespace Go.Proofs.Yteccblmdfjbljaa
open Go Go.RowKit Go.Sort
set_option linter.unusedVariables false
attribute [local go_sem ↓] Go.wp_at_zero Go.wp_at_succ
theorem own_form {w : World} {B size n : Nat} {e : TypeId} {v : Value} {xs : List Value} (h : w.ownsRow B e size v n xs) : ∃ A c, v = .slice A n c := by
  rcases h.2 with ⟨rfl, rfl⟩ | ⟨g, cap, _, rfl, _⟩
  · exact ⟨none, 0, rfl⟩
  · exact ⟨_, _, rfl⟩
theorem own_emptyB {w : World} {B size g : Nat} {e : TypeId} (hg : Blk w g e #[]) (hB : B ≤ g) : w.ownsRow B e size (.slice (some ⟨g, 0, none⟩) 0 0) 0 [] := own_empty hg hB
/-- two boxes of nodes: what stands in the first one -/
structure RN (w : World) (cs : Array Value) (X : World) : Prop where
  b5 : Blk X w.heap.size 81 cs
  b6 : Blk X (w.heap.size + 1) 81 #[.int .i64 0, .string ⟨#[]⟩, .int .i64 0, .string ⟨#[]⟩, .slice none 0 0, .slice none 0 0, .slice none 0 0]
  bel : Below w.heap.size w X
section
variable {w X X' : World} {cs : Array Value}
theorem RN.after (h : RN w cs X) (hb : Below X.heap.size X X') : RN w cs X' := ⟨h.b5.after hb, h.b6.after hb, h.bel.trans (hb.mono h.bel.size)⟩
theorem RN.kept (h : RN w cs X) {e : TypeId} {size n : Nat} {v : Value} {xs : List Value} (hown : X.ownsRow w.heap.size e size v n xs) (hne : e ≠ 81) (hg : X.grownBy X' v.ownBlock) : RN w cs X' :=
  ⟨h.b5.grown hg (Ne.symm (own_blk_ne hown h.b5 hne)), h.b6.grown hg (Ne.symm (own_blk_ne hown h.b6 hne)), below_grows h.bel hg hown (Nat.le_refl _)⟩
theorem RN.set (h : RN w cs X) (i : Nat) (u : Value) : RN w (cs.setIfInBounds i u) (X.setCell ⟨w.heap.size, i, none⟩ u) :=
  ⟨h.b5.set_ i u, h.b6.far (p := ⟨w.heap.size, i, none⟩) (by simp) u, h.bel.setCell (p := ⟨w.heap.size, i, none⟩) (Nat.le_refl _) u⟩
end
set_option maxRecDepth 100000 in
set_option maxHeartbeats 3200000 in
theorem refNode_any (w : World) (hi : Nat) (nd : Nd) (L : Leaf) (h : LeafIn w 0 hi nd L) (hh : hi ≤ w.heap.size) (hf : Fits 1 nd) :
    Calls Try.prog 58 #[.agg #[.int .i64 nd.id, .string nd.con, .int .i64 nd.par, .string nd.role, .slice L.p.A L.p.n L.p.c, .slice L.k.A L.k.n L.k.c, .slice L.r.A L.r.n L.r.c]] w fun e w' => ∃ M : Leaf, e = .returned (.agg #[.int .i64 nd.id, .string nd.con, .int .i64 nd.par, .string nd.role, .slice M.p.A M.p.n M.p.c, .slice M.k.A M.k.n M.k.c, .slice M.r.A M.r.n M.r.c]) ∧ OwnLeaf w' w.heap.size nd M ∧ Below w.heap.size w w' := by
  obtain ⟨⟨Ap, np, cp⟩, ⟨Ak, nk, ck⟩, ⟨Ar, nr, cr⟩⟩ := L
  obtain ⟨f1, f2, f3, f4, f5, f6, f7⟩ := h
  simp only at f1 f2 f3 f4 f5 f6
  have g1 := hf.p
  have g2 := hf.k
  have g3 := hf.r
  have hR0 : RN w #[.int .i64 nd.id, .string nd.con, .int .i64 nd.par, .string nd.role, .slice Ap np cp, .slice Ak nk ck, .slice Ar nr cr] ((w.alloc (.cells #[.int .i64 nd.id, .string nd.con, .int .i64 nd.par, .string nd.role, .slice Ap np cp, .slice Ak nk ck, .slice Ar nr cr] 81)).alloc (.cells #[.int .i64 0, .string ⟨#[]⟩, .int .i64 0, .string ⟨#[]⟩, .slice none 0 0, .slice none 0 0, .slice none 0 0] 81)) := ⟨(Blk.new w _ _).alloc _, Blk.new' (by simp), below_more (below_more (Below.refl _ _) _) _⟩
  have HR0 := Lib.hid hR0
  have x0 := hR0.b5.cell 4
  have F4 := Lib.hid f4
  have F5 := Lib.hid f5
  have F6 := Lib.hid f6
  have HF1 := Lib.hid f1
  have HF2 := Lib.hid f2
  have HF3 := Lib.hid f3
  have HSZ := Lib.hid f7
  have b1 : np * 32 ≤ 140737488355328 := by omega
  have b2 : nk * 8 ≤ 140737488355328 := by omega
  have b3 : nr * 24 ≤ 140737488355328 := by omega
  obtain ⟨i1, hi1, hz1, hs1, hb1⟩ := info_parts propInfo
  obtain ⟨i2, hi2, hz2, hs2, hb2⟩ := info_parts intInfo
  obtain ⟨i3, hi3, hz3, hs3, hb3⟩ := info_parts refInfo
  clear hR0 x0 f1 f2 f3 f4 f5 f6 f7 g1 g2 g3 hf
  go_enter Try.func58, Try.ntmps58
  go_wp2_with (first | (at_builtin; with_reducible show wpList _ _ _ (⟨some 6, _, _, _, _, _⟩ :: _) _ _; go_must (refine wpList_app (o := ⟨some 6, _, _, _, _, _⟩) _ rfl (.tmp 3) (.tmp 5) _ rfl w.heap.size 83 i1 _ 2 32 Try.underlying77 hi1 hz1 hs1 hb1 rfl (by omega) _ 0 [] rfl (own_emptyB (Blk.new' (by simp)) (Nat.le_trans HR0.out.bel.size (Nat.le_of_eq (by simp)))) 0 hi Ap np cp (propCells nd.props) rfl (F4.out.below ((HR0.out.bel.trans ((below_more (Below.refl _ _) _).mono HR0.out.bel.size)).mono hh)) (propCells_one _) (by unfold maxLen; omega) (by omega) (Nat.le_trans HR0.out.bel.size (by simp)) ?_); go_must (intro v1 w1 hown1 hgr1 _; rw [Nat.zero_add, List.nil_append] at hown1; obtain ⟨A1, c1, rfl⟩ := own_form hown1; have hR1 := (HR0.out.after (below_more (Below.refl _ _) _)).kept (own_emptyB (size := 2) (e := 83) (B := w.heap.size) (Blk.new' (by simp)) (Nat.le_trans HR0.out.bel.size (Nat.le_of_eq (by simp)))) (by decide) hgr1; have HO1 := Lib.hid (own_other hown1 hR1.b5 (by decide) 4 (.slice A1 np c1)); have x1 := hR1.b5.cell 4; have y1 := hR1.b5.frozen 4; simp at x1; have hq1 := hR1.set 4 (.slice A1 np c1); have p1 : ((w1.setCell ⟨w.heap.size, 4, none⟩ (.slice A1 np c1)).alloc (.cells #[] 3)).cell? ⟨w.heap.size, 5, none⟩ = some (.slice Ak nk ck) := ((hq1.after (below_more (Below.refl _ _) _)).b5.cell 5).trans rfl; have HQ1 := Lib.hid hq1; clear hq1; clear hR1 hown1 hgr1)) | (at_builtin; with_reducible show wpList _ _ _ (⟨some 11, _, _, _, _, _⟩ :: _) _ _; go_must (refine wpList_app (o := ⟨some 11, _, _, _, _, _⟩) _ rfl (.tmp 8) (.tmp 10) _ rfl w.heap.size 3 i2 _ 1 8 Try.underlying78 hi2 hz2 hs2 hb2 rfl (by omega) _ 0 [] rfl (own_emptyB (Blk.new' (by simp)) (Nat.le_trans HQ1.out.bel.size (Nat.le_of_eq (by simp)))) 0 hi Ak nk ck (intCells nd.kids) rfl (F5.out.below ((HQ1.out.bel.trans ((below_more (Below.refl _ _) _).mono HQ1.out.bel.size)).mono hh)) (intCells_one _) (by unfold maxLen; omega) (by omega) (Nat.le_trans HQ1.out.bel.size (by simp)) ?_); go_must (intro v2 w2 hown2 hgr2 _; rw [Nat.zero_add, List.nil_append] at hown2; obtain ⟨A2, c2, rfl⟩ := own_form hown2; have hR2 := (HQ1.out.after (below_more (Below.refl _ _) _)).kept (own_emptyB (size := 1) (e := 3) (B := w.heap.size) (Blk.new' (by simp)) (Nat.le_trans HQ1.out.bel.size (Nat.le_of_eq (by simp)))) (by decide) hgr2; have HO12 := Lib.hid (own_other (own_kept (own_after HO1.out (below_more (Below.refl _ _) _)) (own_emptyB (size := 1) (e := 3) (B := w.heap.size) (Blk.new' (by simp)) (Nat.le_trans HQ1.out.bel.size (Nat.le_of_eq (by simp)))) (by decide) hgr2) hR2.b5 (by decide) 5 (.slice A2 nk c2)); have HO2 := Lib.hid (own_other hown2 hR2.b5 (by decide) 5 (.slice A2 nk c2)); have x2 := hR2.b5.cell 5; have y2 := hR2.b5.frozen 5; simp at x2; have hq2 := hR2.set 5 (.slice A2 nk c2); have p2 : ((w2.setCell ⟨w.heap.size, 5, none⟩ (.slice A2 nk c2)).alloc (.cells #[] 85)).cell? ⟨w.heap.size, 6, none⟩ = some (.slice Ar nr cr) := ((hq2.after (below_more (Below.refl _ _) _)).b5.cell 6).trans rfl; have HQ2 := Lib.hid hq2; clear hq2; clear hR2 hown2 hgr2)) | (at_builtin; with_reducible show wpList _ _ _ (⟨some 16, _, _, _, _, _⟩ :: _) _ _; go_must (refine wpList_app (o := ⟨some 16, _, _, _, _, _⟩) _ rfl (.tmp 13) (.tmp 15) _ rfl w.heap.size 85 i3 _ 2 24 Try.underlying79 hi3 hz3 hs3 hb3 rfl (by omega) _ 0 [] rfl (own_emptyB (Blk.new' (by simp)) (Nat.le_trans HQ2.out.bel.size (Nat.le_of_eq (by simp)))) 0 hi Ar nr cr (refCells nd.refs) rfl (F6.out.below ((HQ2.out.bel.trans ((below_more (Below.refl _ _) _).mono HQ2.out.bel.size)).mono hh)) (refCells_one _) (by unfold maxLen; omega) (by omega) (Nat.le_trans HQ2.out.bel.size (by simp)) ?_); go_must (intro v3 w3 hown3 hgr3 _; rw [Nat.zero_add, List.nil_append] at hown3; obtain ⟨A3, c3, rfl⟩ := own_form hown3; have hR3 := (HQ2.out.after (below_more (Below.refl _ _) _)).kept (own_emptyB (size := 2) (e := 85) (B := w.heap.size) (Blk.new' (by simp)) (Nat.le_trans HQ2.out.bel.size (Nat.le_of_eq (by simp)))) (by decide) hgr3; have HO13 := Lib.hid (own_other (own_kept (own_after HO12.out (below_more (Below.refl _ _) _)) (own_emptyB (size := 2) (e := 85) (B := w.heap.size) (Blk.new' (by simp)) (Nat.le_trans HQ2.out.bel.size (Nat.le_of_eq (by simp)))) (by decide) hgr3) hR3.b5 (by decide) 6 (.slice A3 nr c3)); have HO23 := Lib.hid (own_other (own_kept (own_after HO2.out (below_more (Below.refl _ _) _)) (own_emptyB (size := 2) (e := 85) (B := w.heap.size) (Blk.new' (by simp)) (Nat.le_trans HQ2.out.bel.size (Nat.le_of_eq (by simp)))) (by decide) hgr3) hR3.b5 (by decide) 6 (.slice A3 nr c3)); have HO3 := Lib.hid (own_other hown3 hR3.b5 (by decide) 6 (.slice A3 nr c3)); have x3 := hR3.b5.cell 6; have y3 := hR3.b5.frozen 6; simp at x3; have hq3 := hR3.set 6 (.slice A3 nr c3); have k0 := hq3.b5.cell 0; have k1 := hq3.b5.cell 1; have k2 := hq3.b5.cell 2; have k3 := hq3.b5.cell 3; have k4 := hq3.b5.cell 4; have k5 := hq3.b5.cell 5; have k6 := hq3.b5.cell 6; simp at k0 k1 k2 k3 k4 k5 k6; have m0 := hq3.b6.cell 0; have m1 := hq3.b6.cell 1; have m2 := hq3.b6.cell 2; have m3 := hq3.b6.cell 3; have m4 := hq3.b6.cell 4; have m5 := hq3.b6.cell 5; have m6 := hq3.b6.cell 6; simp at m0 m1 m2 m3 m4 m5 m6; have l0 := hq3.b6.frozen 0; have l1 := hq3.b6.frozen 1; have l2 := hq3.b6.frozen 2; have l3 := hq3.b6.frozen 3; have l4 := hq3.b6.frozen 4; have l5 := hq3.b6.frozen 5; have l6 := hq3.b6.frozen 6; have HQ3 := Lib.hid hq3; clear hq3; clear hR3 hown3 hgr3)))
  (try rw [Exit.noGoto_ret])
  (try simp only [Exit.inBlock, Exit.then])
  have hres : Try.f58.results = #[.cell 2 81] := by kernel_rfl
  refine bodyPost_ret (v := .agg #[.int .i64 nd.id, .string nd.con, .int .i64 nd.par, .string nd.role, .slice A1 np c1, .slice A2 nk c2, .slice A3 nr c3]) ?hr rfl ?_
  case hr =>
    simp only [results, hres]
    go_simp
  have hR : NodeR w nd ⟨⟨A1, np, c1⟩, ⟨A2, nk, c2⟩, ⟨A3, nr, c3⟩⟩ w.heap.size (w.heap.size + 1) (w3.setCell ⟨w.heap.size, 6, none⟩ (.slice A3 nr c3)) := ⟨⟨HF1.out, HF2.out, HF3.out, HO13.out, HO23.out, HO3.out, HSZ.out⟩, ⟨_, HQ3.out.b5⟩, ⟨_, HQ3.out.b6⟩, HQ3.out.bel⟩
  have hE := ((((((hR.s6 (by omega) 0 (.int .i64 nd.id)).s6 (by omega) 1 (.string nd.con)).s6 (by omega) 2 (.int .i64 nd.par)).s6 (by omega) 3 (.string nd.role)).s6 (by omega) 4 (.slice A1 np c1)).s6 (by omega) 5 (.slice A2 nk c2)).s6 (by omega) 6 (.slice A3 nr c3)
  exact ⟨⟨⟨A1, np, c1⟩, ⟨A2, nk, c2⟩, ⟨A3, nr, c3⟩⟩, rfl, hE.leaf, hE.bel⟩
end Go.Proofs.Yteccblmdfjbljaa
namespace Go.Proofs.Yteccblmdfjbljaa
open Go Go.RowKit Go.Sort
set_option linter.unusedVariables false
attribute [local go_sem ↓] Go.wp_at_zero Go.wp_at_succ
/-- the box of a model -/
structure M1 (w : World) (next : Int) (A : Option Addr) (n c : Nat) (wr : World) : Prop where
  a : Blk wr w.heap.size 24 #[.int .i64 next, .slice A n c]
  bel : Below w.heap.size w wr
theorem M1.start (w : World) (next : Int) (A : Option Addr) (n c : Nat) : M1 w next A n c (w.alloc (.cells #[.int .i64 next, .slice A n c] 24)) := ⟨Blk.new _ _ _, below_more (Below.refl _ _) _⟩
theorem M1.after {w X X' : World} {next : Int} {A : Option Addr} {n c : Nat} (h : M1 w next A n c X) (hb : Below X.heap.size X X') : M1 w next A n c X' := ⟨h.a.after hb, h.bel.trans (hb.mono h.bel.size)⟩
end Go.Proofs.Yteccblmdfjbljaa
namespace Go.Proofs.Yteccblmdfjbljaa
open Go Go.RowKit Go.Sort
set_option linter.unusedVariables false
attribute [local go_sem ↓] Go.wp_at_zero Go.wp_at_succ
/-- the boxes of a spot and of a model -/
structure SM (w : World) (parent : Int) (role : ByteArray) (at_ next : Int) (A : Option Addr) (n c : Nat) (wr : World) : Prop where
  s : Blk wr w.heap.size 88 #[.int .i64 parent, .string role, .int .i64 at_]
  m : Blk wr (w.heap.size + 1) 24 #[.int .i64 next, .slice A n c]
  bel : Below w.heap.size w wr
section
variable {w wr w' : World} {parent at_ next : Int} {role : ByteArray} {A : Option Addr} {n c : Nat}
theorem SM.start (w : World) (parent : Int) (role : ByteArray) (at_ next : Int) (A : Option Addr) (n c : Nat) : SM w parent role at_ next A n c ((w.alloc (.cells #[.int .i64 parent, .string role, .int .i64 at_] 88)).alloc (.cells #[.int .i64 next, .slice A n c] 24)) :=
  ⟨(Blk.new _ _ _).alloc _, Blk.new' (by simp), below_more (below_more (Below.refl _ _) _) _⟩
theorem SM.after (h : SM w parent role at_ next A n c wr) (hb : Below wr.heap.size wr w') : SM w parent role at_ next A n c w' := ⟨h.s.after hb, h.m.after hb, h.bel.trans (hb.mono h.bel.size)⟩
end
end Go.Proofs.Yteccblmdfjbljaa
namespace Go.Proofs.Yteccblmdfjbljaa
open Go Go.RowKit Go.Sort
set_option linter.unusedVariables false
attribute [local go_sem ↓] Go.wp_at_zero Go.wp_at_succ
/-- the box of a model, and a list of numbers that grows -/
structure KW (w : World) (next : Int) (A : Option Addr) (n c : Nat) (ov : Value) (l : List Int) (wr : World) : Prop where
  m : M1 w next A n c wr
  own : wr.ownsRow w.heap.size 3 1 ov l.length (intCells l)
section
variable {w X X' : World} {next : Int} {A : Option Addr} {n c : Nat} {ov : Value} {l : List Int}
theorem KW.after (h : KW w next A n c ov l X) (hb : Below X.heap.size X X') : KW w next A n c ov l X' := ⟨h.m.after hb, own_after h.own hb⟩
theorem KW.push {x : Int} {v' : Value} (h : KW w next A n c ov l X) (hg : X.grownBy X' ov.ownBlock) (hown : X'.ownsRow w.heap.size 3 1 v' (l.length + 1) (intCells l ++ [.int .i64 x])) : KW w next A n c v' (l ++ [x]) X' := by
  refine ⟨⟨h.m.a.grown hg (Ne.symm (own_blk_ne h.own h.m.a (by decide))), below_grows h.m.bel hg h.own (Nat.le_refl _)⟩, ?_⟩
  rw [List.length_append, List.length_singleton, show intCells (l ++ [x]) = intCells l ++ [.int .i64 x] from by simp [intCells]]
  exact hown
end
end Go.Proofs.Yteccblmdfjbljaa
namespace Go.Proofs.Yteccblmdfjbljaa
open Go Go.RowKit Go.Sort
set_option linter.unusedVariables false
attribute [local go_sem ↓] Go.wp_at_zero Go.wp_at_succ
theorem checkV_no {next : Int} {nds : List Nd} (h : rightB next nds = false) : checkV next nds = 29 := by unfold checkV; rw [h]; rfl
theorem checkV_yes {next : Int} {nds : List Nd} (h : rightB next nds = true) : checkV next nds = 0 := by unfold checkV; rw [h]; rfl
end Go.Proofs.Yteccblmdfjbljaa
namespace Go.Proofs.Yteccblmdfjbljaa
open Go Go.RowKit Go.Sort
set_option linter.unusedVariables false
attribute [local go_sem ↓] Go.wp_at_zero Go.wp_at_succ
/-- the box of a model, and two lists of numbers that grow -/
structure DW (w : World) (next : Int) (A : Option Addr) (n c : Nat) (ov : Value) (out : List Int) (sv : Value) (st : List Int) (X : World) : Prop where
  m : M1 w next A n c X
  o : X.ownsRow w.heap.size 3 1 ov out.length (intCells out)
  s : X.ownsRow w.heap.size 3 1 sv st.length (intCells st)
  ne : ov.ownBlock = none ∨ ov.ownBlock ≠ sv.ownBlock
section
variable {w X X' : World} {next : Int} {A : Option Addr} {n c : Nat} {ov sv : Value} {out st : List Int}
theorem own_lt {B size n : Nat} {e : TypeId} {v : Value} {xs : List Value} (h : X.ownsRow B e size v n xs) {g : Nat} (hg : v.ownBlock = some g) : g < X.heap.size := by
  rcases h.2 with ⟨rfl, _⟩ | ⟨g', cap, cur, rfl, _, hh, _⟩
  · simp [Value.ownBlock] at hg
  · have : g' = g := by simpa [Value.ownBlock] using hg
    subst this
    exact (Array.getElem?_eq_some_iff.1 hh).1
theorem DW.after (h : DW w next A n c ov out sv st X) (hb : Below X.heap.size X X') : DW w next A n c ov out sv st X' := ⟨h.m.after hb, own_after h.o hb, own_after h.s hb, h.ne⟩
end
end Go.Proofs.Yteccblmdfjbljaa

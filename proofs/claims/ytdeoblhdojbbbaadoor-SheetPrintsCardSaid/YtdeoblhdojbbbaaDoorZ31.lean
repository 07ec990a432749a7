/-
  WALKS over the document's answers for layer 3: Print.
-/
import Derived.Test.YtdeoblhdojbbbaaDoorZ30
namespace Go.Proofs.YtdeoblhdojbbbaaDoor
open Go Go.RowKit
set_option linter.unusedVariables false
theorem par_depth {next : Int} {nds : List Nd} (hr : RightM next nds) {id : Int} {nd : Nd} (h : ndOf nds id = some nd) : nd.par = 0 ↔ depthV nds id ≤ 1 := by
  obtain ⟨h1, h2, h3⟩ := hr.depth h
  have hu : upI nds id 1 = nd.par := upI_succ (k := 0) (by rw [upI]; exact h)
  constructor
  · intro hp
    rcases Nat.lt_or_ge 1 (depthV nds id) with h4 | h4
    · exact absurd (hu.trans hp) (h1.way 1 h4).1
    · exact h4
  · intro h4
    have e : depthV nds id = 1 := by omega
    have := h1.top
    rw [e, hu] at this
    exact this
/-- the text of a node's lines -/
def chunkV (nds : List Nd) (x : Int) : List UInt8 := (nodeT nds (x, depthV nds x)).flatten
theorem flat_map {α : Type} (f : α → List (List UInt8)) : ∀ l : List α, (l.flatMap f).flatten = (l.map fun p => (f p).flatten).flatten
  | [] => rfl
  | x :: l => by rw [List.flatMap_cons, List.flatten_append, List.map_cons, List.flatten_cons, flat_map f l]
theorem chunks_pre {next : Int} {nds : List Nd} (hr : RightM next nds) : ((pre nds 64 1 (rootsV nds)).flatMap (nodeT nds)).flatten = ((orderV nds).map (chunkV nds)).flatten := by
  rw [flat_map, ← order_pre hr, List.map_map]
  congr 1
  refine List.map_congr_left fun p hp => ?_
  have h := (pre_mem hr 64 1 1 (rootsV nds) (roots_at hr) p hp).2.2.1
  have e : p.2 = depthV nds p.1 := by omega
  show (nodeT nds p).flatten = chunkV nds p.1
  unfold chunkV
  rw [← e]
theorem printV_order {next : Int} {nds : List Nd} (hrt : rightB next nds = true) : printV next nds = toldV (headL next ++ ((orderV nds).map (chunkV nds)).flatten) := by
  unfold printV
  rw [if_pos hrt, List.flatten_cons, chunks_pre (rightM hrt)]
theorem wpList_conv9 {w w' : World} {ops : Array Oper} {rest : List Oper} {o : Oper} {a : Act} {Q : Exit → Act → World → Prop} (hgd : o.guard = none) {src dst : TypeId} (x : Operand) (ho : o.op = .convert src dst x)
    {v v' : Value} (hx : a.eval x = v) (hr : (convert src dst v).run Tryd.prog w = .ok v' w') (h : wpList Tryd.prog ops Q rest (a.put o.dst v') w') : wpList Tryd.prog ops Q (o :: rest) a w :=
  wpList_plain hgd fun K hK => by
    unfold Oper.wp execOp
    simp only [ho, hx, Sem.run_bind, Sem.run_pure, Result.andThen_ok, hr]
    exact hK _ _ h
theorem own_keepF {X Y : World} {B g : Nat} {v : Value} {L : List UInt8} {T : TypeId} {cs : Array Value} (h : ownF X B v L) (hg : X.grownBy Y v.ownBlock) (hb : Blk X g T cs) (hT : (T != 5) = true := by rfl) : Blk Y g T cs := by
  refine hb.grown hg fun he => ?_
  obtain ⟨k, cap, cur, fr, rfl, _, h3, _⟩ := h
  obtain rfl : g = k := Option.some.inj he
  unfold Blk at hb
  rw [h3] at hb
  injection hb with hb
  injection hb with _ h2 _
  subst h2
  simp at hT
/-- the boxes and lists of Print: the model's box, document order, the text so far -/
structure RP (w : World) (next : Int) (A : Option Addr) (n c : Nat) (G : Nat) (ov : Value) (ord : List Int) (v : Value) (L : List UInt8) (X : World) : Prop where
  bel : Below w.heap.size w X
  gG : w.heap.size < G
  m : Blk X w.heap.size 24 #[.int .i64 next, .slice A n c]
  o : ownF X G v L
  d : X.ownsRow G 3 1 ov ord.length (intCells ord)
section
variable {w : World} {next : Int} {A : Option Addr} {n c G : Nat} {ov v : Value} {ord : List Int} {L L' : List UInt8} {X Y : World} {v' : Value}
theorem RP.after (h : RP w next A n c G ov ord v L X) (hb : Below X.heap.size X Y) : RP w next A n c G ov ord v L Y := ⟨h.bel.trans (hb.mono h.bel.size), h.gG, h.m.after hb, h.o.below hb, own_after h.d hb⟩
theorem RP.app (h : RP w next A n c G ov ord v L X) (hg : X.grownBy Y v.ownBlock) (ho : ownF Y G v' L') : RP w next A n c G ov ord v' L' Y := by
  have hgG := h.gG
  refine ⟨h.bel.grown hg h.bel.size (fun k hk => by have := (h.o.lt k hk).1; omega), hgG, own_keepF h.o hg h.m, ho, World.ownsRow.kept h.d hg ?_⟩
  cases hv : ov.ownBlock with
  | none => exact .inl rfl
  | some k =>
    refine .inr fun he => ?_
    obtain ⟨g, cap, cur, fr, rfl, _, h3, _⟩ := h.o
    obtain rfl : k = g := Option.some.inj he
    rcases h.d.2 with ⟨rfl, _⟩ | ⟨g2, cap2, cur2, rfl, _, hg2, _⟩
    · cases hv
    · obtain rfl : g2 = k := Option.some.inj hv
      rw [h3] at hg2
      injection hg2 with hg2
      injection hg2 with _ h5 _
      exact absurd h5 (by decide)
end
theorem list_text (l : List UInt8) : ∃ T : ByteArray, T.data.toList = l ∧ T.size = l.length ∧ (⟨l.toArray⟩ : ByteArray) = T := ⟨⟨l.toArray⟩, by simp, by show l.toArray.size = _; simp, rfl⟩
theorem lineD_len {nd : Nd} {k : Nat} (hok : NdOk nd) (hk : k ≤ 64) : (lineD nd k).length ≤ 32000 := by
  have h1 := Lib.itoa_length_le nd.id hok.id0 hok.id1
  have h2 := hok.con
  have h3 := hok.role
  have e1 : nd.con.data.toList.length = nd.con.size := by rw [Array.length_toList]; rfl
  have e2 : nd.role.data.toList.length = nd.role.size := by rw [Array.length_toList]; rfl
  unfold lineD
  by_cases h0 : k ≤ 1
  · rw [if_pos h0]
    simp only [List.length_append, bl_len, List.length_cons, List.length_nil]
    omega
  · rw [if_neg h0]
    simp only [List.length_append, bl_len, List.length_cons, List.length_nil]
    omega
theorem propLD_len {p : ByteArray × ByteArray} {k : Nat} (h1 : p.1.size ≤ 4096) (h2 : p.2.size ≤ 4096) (hk : k ≤ 64) : (propLD p k).length ≤ 32000 := by
  have e1 : p.1.data.toList.length = p.1.size := by rw [Array.length_toList]; rfl
  have e2 : p.2.data.toList.length = p.2.size := by rw [Array.length_toList]; rfl
  have := quote_len p.2.data.toList
  unfold propLD
  simp only [List.length_append, bl_len, List.length_cons]
  omega
theorem refLD_len {r : ByteArray × Int} {k : Nat} (h1 : r.1.size ≤ 4096) (h2 : -9223372036854775808 ≤ r.2) (h3 : r.2 ≤ 9223372036854775807) (hk : k ≤ 64) : (refLD r k).length ≤ 32000 := by
  have e1 : r.1.data.toList.length = r.1.size := by rw [Array.length_toList]; rfl
  have := Lib.itoa_length_le r.2 h2 h3
  unfold refLD
  simp only [List.length_append, bl_len, List.length_cons]
  omega
theorem flat32 : ∀ ls : List (List UInt8), (∀ l ∈ ls, l.length ≤ 32001) → ls.flatten.length ≤ ls.length * 32001
  | [], _ => by simp
  | l :: ls, h => by
    have h1 := h l (by simp)
    have h2 := flat32 ls fun x hx => h x (by simp [hx])
    rw [List.flatten_cons, List.length_append, List.length_cons]
    omega
theorem lineP_len {nd : Nd} {k : Nat} (hok : NdOk nd) (hk : k ≤ 64) (j : Nat) (hj : j ≤ 1000) : ((nd.props.take j).map (lineP · k)).flatten.length ≤ 32001000 := by
  have h1 := flat32 ((nd.props.take j).map (lineP · k)) (by
    intro l hl
    obtain ⟨p, hp, rfl⟩ := List.mem_map.1 hl
    have hps := hok.props p (List.mem_of_mem_take hp)
    have := propLD_len hps.1 hps.2 hk
    show (propLD p k ++ [10]).length ≤ _
    rw [List.length_append]
    simp only [List.length_singleton]
    omega)
  rw [List.length_map, List.length_take] at h1
  omega
theorem lineR_len {nd : Nd} {k : Nat} (hok : NdOk nd) (hk : k ≤ 64) (j : Nat) (hj : j ≤ 1000) : ((nd.refs.take j).map (lineR · k)).flatten.length ≤ 32001000 := by
  have h1 := flat32 ((nd.refs.take j).map (lineR · k)) (by
    intro l hl
    obtain ⟨p, hp, rfl⟩ := List.mem_map.1 hl
    have hps := hok.refs p (List.mem_of_mem_take hp)
    have := refLD_len hps.1 hps.2.1 hps.2.2 hk
    show (refLD p k ++ [10]).length ≤ _
    rw [List.length_append]
    simp only [List.length_singleton]
    omega)
  rw [List.length_map, List.length_take] at h1
  omega
theorem ownI_form {X : World} {G m : Nat} {ov : Value} {T : TypeId} {xs : List Value} (h : X.ownsRow G T 1 ov m xs) : ∃ Ao co, ov = .slice Ao m co ∧ (0 < m → ∃ g, Ao = some ⟨g, 0, none⟩) := by
  by_cases hm : 0 < m
  · obtain ⟨g, cap, rfl, _⟩ := h.form hm
    exact ⟨_, _, rfl, fun _ => ⟨g, rfl⟩⟩
  · obtain rfl : m = 0 := by omega
    rcases h.2 with ⟨rfl, _⟩ | ⟨g, cap, cur, rfl, _⟩
    · exact ⟨_, _, rfl, fun h => absurd h hm⟩
    · exact ⟨_, _, rfl, fun h => absurd h hm⟩
theorem ordI_at {X : World} {G gO m co k : Nat} {T : TypeId} {ord : List Int} {y : Int} (h : X.ownsRow G T 1 (.slice (some ⟨gO, 0, none⟩) m co) ord.length (intCells ord)) (hm : ord.length = m) (hy : ord[k]? = some y) : X.cell? ⟨gO, k, none⟩ = some (.int .i64 y) := by
  subst hm
  exact (h.cellAt k (by have := (List.getElem?_eq_some_iff.1 hy).1; omega)).trans (intCells_get hy)
theorem RP.sz {w : World} {next : Int} {A : Option Addr} {n c G : Nat} {ov v : Value} {ord : List Int} {L : List UInt8} {X : World} (h : RP w next A n c G ov ord v L X) : G ≤ X.heap.size := by
  obtain ⟨g, cap, cur, fr, rfl, h2, h3, _⟩ := h.o
  have := (Array.getElem?_eq_some_iff.1 h3).1
  omega
/-- a node as Find told it, in a variable of its own -/
structure RNd (w : World) (next : Int) (A : Option Addr) (n c : Nat) (G : Nat) (ov : Value) (ord : List Int) (v : Value) (L : List UInt8) (hi : Nat) (nd : Nd) (M : Leaf) (gn : Nat) (X : World) : Prop where
  r : RP w next A n c G ov ord v L X
  b : Blk X gn 37 #[.int .i64 nd.id, .string nd.con, .int .i64 nd.par, .string nd.role, .slice M.p.A M.p.n M.p.c, .slice M.k.A M.k.n M.k.c, .slice M.r.A M.r.n M.r.c]
  l : LeafIn X 0 hi nd M
section
variable {w : World} {next : Int} {A : Option Addr} {n c G : Nat} {ov v : Value} {ord : List Int} {L L' : List UInt8} {X Y : World} {v' : Value} {hi gn : Nat} {nd : Nd} {M : Leaf}
theorem RNd.after (h : RNd w next A n c G ov ord v L hi nd M gn X) (hh : hi ≤ w.heap.size) (hb : Below X.heap.size X Y) : RNd w next A n c G ov ord v L hi nd M gn Y := ⟨h.r.after hb, h.b.after hb, h.l.below (hb.mono (Nat.le_trans hh h.r.bel.size))⟩
theorem RNd.app (h : RNd w next A n c G ov ord v L hi nd M gn X) (hh : hi ≤ w.heap.size) (hg : X.grownBy Y v.ownBlock) (ho : ownF Y G v' L') : RNd w next A n c G ov ord v' L' hi nd M gn Y := by
  have hgG := h.r.gG
  refine ⟨h.r.app hg ho, own_keepF h.r.o hg h.b, h.l.below (w' := Y) ?_⟩
  exact (Below.refl hi X).grown hg (Nat.le_trans hh h.r.bel.size) (fun k hk => by have := (h.r.o.lt k hk).1; omega)
end
/-- seven cells are laid into a variable -/
theorem blk_seven {X : World} {g : Nat} {t : TypeId} {z0 z1 z2 z3 z4 z5 z6 a b c d e f i : Value} (h : Blk X g t #[z0, z1, z2, z3, z4, z5, z6]) :
    Blk (((((((X.setCell ⟨g, 0, none⟩ a).setCell ⟨g, 1, none⟩ b).setCell ⟨g, 2, none⟩ c).setCell ⟨g, 3, none⟩ d).setCell ⟨g, 4, none⟩ e).setCell ⟨g, 5, none⟩ f).setCell ⟨g, 6, none⟩ i) g t #[a, b, c, d, e, f, i] := by
  have := ((((((h.set_ 0 a).set_ 1 b).set_ 2 c).set_ 3 d).set_ 4 e).set_ 5 f).set_ 6 i
  simpa using this
theorem below_seven {w X : World} {B g : Nat} {a b c d e f i : Value} (h : Below B w X) (hg : B ≤ g) :
    Below B w (((((((X.setCell ⟨g, 0, none⟩ a).setCell ⟨g, 1, none⟩ b).setCell ⟨g, 2, none⟩ c).setCell ⟨g, 3, none⟩ d).setCell ⟨g, 4, none⟩ e).setCell ⟨g, 5, none⟩ f).setCell ⟨g, 6, none⟩ i) :=
  ((((((h.setCell (p := ⟨g, 0, none⟩) hg a).setCell (p := ⟨g, 1, none⟩) hg b).setCell (p := ⟨g, 2, none⟩) hg c).setCell (p := ⟨g, 3, none⟩) hg d).setCell (p := ⟨g, 4, none⟩) hg e).setCell (p := ⟨g, 5, none⟩) hg f).setCell (p := ⟨g, 6, none⟩) hg i
/-- a call, or a variable is made: both are ready, in whatever order -/
theorem wpAnyH_callAlloc {P : Program} {md : Region.Mode} {ops : Array Oper} {Q : Exit → Act → World → Prop} {S : World → Prop} {fuel : Nat} {listed : Array Bool} {a : Act} {w : World} {i j : Nat} {oi oj : Oper} (T : TypeId) (z : Array Value) (f : FuncId) (vs : Array Value) (R : World → Value → World → Prop)
    (hr : Region.ready md ops listed = [i, j]) (hoi : ops[i]? = some oi) (hoj : ops[j]? = some oj) (hgi : oi.guard = none) (hgj : oj.guard = none)
    (hri : (execOp a.eval oi).run P w = .ok (.enter f vs) w) (hrj : ∀ (a : Act) (w : World), (execOp a.eval oj).run P w = .ok (.value (.pointer (some ⟨w.heap.size, 0, none⟩))) (w.alloc (.cells z T)))
    (hS : ∀ W, Below w.heap.size w W → S W)
    (hc : Calls P f vs w fun e W => ∃ u, e = .returned u ∧ R w u W) (hb : ∀ W u W', R W u W' → Below W.heap.size W W')
    (h1 : ∀ u W, R w u W → S W → wpAnyH P md ops Q S fuel (listed.setIfInBounds i true) (a.put oi.dst u) W)
    (h2 : ∀ g W, Blk W g T z → w.heap.size ≤ g → Below w.heap.size w W → S W → wpAnyH P md ops Q S fuel (listed.setIfInBounds j true) (a.put oj.dst (.pointer (some ⟨g, 0, none⟩))) W) : wpAnyH P md ops Q S (fuel + 1) listed a w := by
  refine wpAnyH_all hr (by simp) fun k hk => ?_
  have hk2 : k = i ∨ k = j := by simpa using hk
  rcases hk2 with rfl | rfl
  · have hw : Region.wanted oi (yielded ops a.tmps) = true := by simp [Region.wanted, hgi]
    unfold wpOp
    simp only [hoi]
    rw [if_pos hw]
    left
    unfold Oper.wp
    rw [hri]
    refine hc.mono ?_
    rintro e W ⟨u, rfl, hR⟩
    exact ⟨hS _ (hb _ _ _ hR), h1 u W hR (hS _ (hb _ _ _ hR))⟩
  · have hw : Region.wanted oj (yielded ops a.tmps) = true := by simp [Region.wanted, hgj]
    unfold wpOp
    simp only [hoj]
    rw [if_pos hw]
    left
    unfold Oper.wp
    rw [hrj]
    exact ⟨hS _ ((Below.refl _ _).alloc (Nat.le_refl _) _), h2 _ _ (Blk.new _ _ _) (Nat.le_refl _) ((Below.refl _ _).alloc (Nat.le_refl _) _) (hS _ ((Below.refl _ _).alloc (Nat.le_refl _) _))⟩
/-- a call that makes memory, ready alone; what it answers is not told ahead -/
theorem wpAnyH_callE {P : Program} {md : Region.Mode} {ops : Array Oper} {Q : Exit → Act → World → Prop} {S : World → Prop} {fuel : Nat} {listed : Array Bool} {a : Act} {w : World} {i : Nat} {o : Oper} (f : FuncId) (vs : Array Value) (R : Value → World → Prop) (hr : Region.ready md ops listed = [i]) (ho : ops[i]? = some o) (hg : o.guard = none)
    (hrun : (execOp a.eval o).run P w = .ok (.enter f vs) w) (h : Calls P f vs w fun e w' => ∃ u, e = .returned u ∧ R u w') (hS : ∀ u Y, R u Y → S Y)
    (hn : ∀ u Y, R u Y → S Y → wpAnyH P md ops Q S fuel (listed.setIfInBounds i true) (a.put o.dst u) Y) : wpAnyH P md ops Q S (fuel + 1) listed a w :=
  wpAnyH_all hr (by simp) fun j hj => by
    obtain rfl : j = i := by simpa using hj
    have hw : Region.wanted o (yielded ops a.tmps) = true := by simp [Region.wanted, hg]
    unfold wpOp
    simp only [ho]
    rw [if_pos hw]
    left
    unfold Oper.wp
    rw [hrun]
    refine h.mono ?_
    rintro e w' ⟨u, rfl, h2⟩
    exact ⟨hS _ _ h2, hn _ _ h2 (hS _ _ h2)⟩
/-- a variable is made, ready alone -/
theorem wpAnyH_alloc1 {P : Program} {md : Region.Mode} {ops : Array Oper} {Q : Exit → Act → World → Prop} {S : World → Prop} {fuel : Nat} {listed : Array Bool} {a : Act} {w : World} {j : Nat} {oj : Oper} (T : TypeId) (z : Array Value)
    (hr : Region.ready md ops listed = [j]) (hoj : ops[j]? = some oj) (hgj : oj.guard = none)
    (hrj : ∀ (a : Act) (w : World), (execOp a.eval oj).run P w = .ok (.value (.pointer (some ⟨w.heap.size, 0, none⟩))) (w.alloc (.cells z T)))
    (hS : ∀ W, Below w.heap.size w W → S W)
    (h2 : ∀ g W, Blk W g T z → w.heap.size ≤ g → Below w.heap.size w W → S W → wpAnyH P md ops Q S fuel (listed.setIfInBounds j true) (a.put oj.dst (.pointer (some ⟨g, 0, none⟩))) W) : wpAnyH P md ops Q S (fuel + 1) listed a w := by
  refine wpAnyH_all hr (by simp) fun k hk => ?_
  obtain rfl : k = j := by simpa using hk
  have hw : Region.wanted oj (yielded ops a.tmps) = true := by simp [Region.wanted, hgj]
  unfold wpOp
  simp only [hoj]
  rw [if_pos hw]
  left
  unfold Oper.wp
  rw [hrj]
  exact ⟨hS _ ((Below.refl _ _).alloc (Nat.le_refl _) _), h2 _ _ (Blk.new _ _ _) (Nat.le_refl _) ((Below.refl _ _).alloc (Nat.le_refl _) _) (hS _ ((Below.refl _ _).alloc (Nat.le_refl _) _))⟩
theorem abs_goal {P : Program} {md : Region.Mode} {ops : Array Oper} {Q : Exit → Act → World → Prop} {S : World → Prop} {fuel : Nat} {listed : Array Bool} {a : Act} {w : World} (hp : ∀ c (a : Act) (t : Tmp) (u : Value) (w : World), Q (.panic c) (a.put (some t) u) w → Q (.panic c) a w)
    (h : ∀ Q' a', Hid (∀ c (a : Act) (t : Tmp) (u : Value) (w : World), Q' (.panic c) (a.put (some t) u) w → Q' (.panic c) a w) → Q' = Q → a' = a → wpAnyH P md ops Q' S fuel listed a' w) : wpAnyH P md ops Q S fuel listed a w := h Q a (Lib.hid hp) rfl rfl
/-- what a node of document order is -/
structure OrdIs (next : Int) (nds : List Nd) (y : Int) (i : Nat) (nd : Nd) (d : Nat) : Prop where
  ix : ixOf nds y = some i
  gi : nds[i]? = some nd
  id : nd.id = y
  ok : NdOk nd
  d1 : 1 ≤ d
  d2 : d ≤ 64
  ln : lineD nd d ++ [10] = lineN nd d
  ch : chunkV nds y = lineN nd d ++ (nd.props.map (lineP · d)).flatten ++ (nd.refs.map (lineR · d)).flatten
  dr : depthR next nds y = d
theorem ord_is {next : Int} {nds : List Nd} (hrt : rightB next nds = true) {y : Int} (hy : y ∈ orderV nds) : ∃ i nd d, OrdIs next nds y i nd d := by
  have hR := rightM hrt
  obtain ⟨nd, hnd⟩ := order_mem hR hy
  obtain ⟨i, hix, hgi, hid⟩ := ndOf_some hnd
  obtain ⟨h1, h2, h3⟩ := hR.depth hnd
  refine ⟨i, nd, depthV nds y, hix, hgi, hid, nd_ok hR (List.mem_of_getElem? hgi), h2, h3, lineD_is (par_depth hR hnd), ?_, ?_⟩
  · unfold chunkV nodeT
    simp only [hnd]
    unfold nodeL
    rw [List.flatten_cons, List.flatten_append, List.append_assoc]
  · unfold depthR
    rw [hrt, hix]
    simp
theorem page_step {next : Int} {nds : List Nd} {ord : List Int} {k : Nat} {y : Int} {L : List UInt8} (hL : pageV (headL next) ((ord.take k).map (chunkV nds)) = L) (hy : ord[k]? = some y) (hl : ¬ 1048576 < L.length) :
    pageV (headL next) ((ord.take (k + 1)).map (chunkV nds)) = L ++ chunkV nds y := by
  rw [List.take_add_one, hy]
  simp only [Option.toList_some, List.map_append, List.map_cons, List.map_nil]
  rw [pageV_append, hL, pageV_cons, pageV_nil]
  unfold pageA
  rw [if_neg hl]
theorem page_end {next : Int} {nds : List Nd} {ord : List Int} {k : Nat} {L : List UInt8} (hL : pageV (headL next) ((ord.take k).map (chunkV nds)) = L) (h : ord.length ≤ k ∨ 1048576 < L.length) :
    pageV (headL next) (ord.map (chunkV nds)) = L := by
  rcases h with h | h
  · rw [List.take_of_length_le h] at hL
    exact hL
  · rw [← List.take_append_drop k ord, List.map_append, pageV_append, hL]
    exact pageV_stuck _ _ h
set_option maxRecDepth 20000 in
set_option maxHeartbeats 6400000 in
theorem refPrint_any (w : World) (hi : Nat) (next : Int) (A : Option Addr) (n c : Nat) (nds : List Nd) (h : NodesIn w 0 hi A n c nds) (hh : hi ≤ w.heap.size) (hsz : ∀ nd ∈ nds, nd.props.length + nd.refs.length ≤ 1000) :
    Calls Tryd.prog 7 #[.agg #[.int .i64 next, .slice A n c]] w (PrintP w (printV next nds)) := by
  have HH := Lib.hid h
  have HSZ := Lib.hid hsz
  have HM0 : Hid (Blk (w.alloc (.cells #[.int .i64 next, .slice A n c] 24)) w.heap.size 24 #[.int .i64 next, .slice A n c]) := Lib.hid (Blk.new _ _ _)
  have HB0 : Hid (Below w.heap.size w (w.alloc (.cells #[.int .i64 next, .slice A n c] 24))) := Lib.hid ((Below.refl _ _).alloc (Nat.le_refl _) _)
  have hc := h.2.2.1
  have hnc := h.2.1
  unfold maxLen at hc
  clear h hsz
  generalize hpv : printV next nds = pv
  have HPV := Lib.hid hpv
  clear hpv
  go_enter Tryd.func7, Tryd.ntmps7
  go_upto_region 1 with (fail)
  generalize w.alloc (.cells #[.int .i64 next, .slice A n c] 24) = W0 at HM0 HB0 ⊢
  have a0 := (HM0.out.cell 0).trans (show _ = some (.int .i64 next) from rfl)
  have a1 := (HM0.out.cell 1).trans (show _ = some (.slice A n c) from rfl)
  have HCh := Lib.hid (refRight_any W0 hi next A n c nds (HH.out.below (HB0.out.mono hh)) (Nat.le_trans hh HB0.out.size))
  cases hrt : rightB next nds with
  | false =>
    have HX : Hid (pv = ([], 29)) := Lib.hid (by rw [← HPV.out]; unfold printV; rw [hrt]; rfl)
    rw [hrt] at HCh
    clear hrt
    go_wp2_with (go_at_call 17; refine HCh.out.mono ?_; rintro e w2 ⟨rfl, hb2⟩; have HB2 := Lib.hid (HB0.out.trans (hb2.mono HB0.out.size)); clear hb2)
    go_ret2
    exact printP HX.out HB2.out
  | true =>
    have hR := rightM hrt
    have HR := Lib.hid hR
    have HRT := Lib.hid hrt
    have hn4 : n ≤ 4096 := by rw [← HH.out.1]; exact hR.len
    have HX : Hid (pv = toldV (headL next ++ ((orderV nds).map (chunkV nds)).flatten)) := Lib.hid (by rw [← HPV.out, printV_order hrt])
    rw [hrt] at HCh
    obtain ⟨T, hT, hTs, hTe⟩ := itoa_text next (by have := hR.lo; omega) (by have := hR.hi; omega)
    have hlo := hR.lo
    have hhi2 := hR.hi
    have HORD : Hid (orderR next nds = orderV nds) := Lib.hid (by unfold orderR; rw [if_pos hrt])
    have hol : (orderV nds).length ≤ 4096 := Nat.le_trans (order_len hR) hR.len
    clear hrt hR
    have HSH : Hid (∀ Y, Calls Tryd.prog 18 #[.int .i64 next] Y fun e w' => e = .returned (.string T) ∧ Below Y.heap.size Y w') := Lib.hid fun Y => calls_text (shown_any next Y (by omega) (by omega)) hTe (Below.refl _ _)
    have z1 : ¬ 9223372036854775807 < 5 + T.size := by omega
    have z2 : ¬ 9223372036854775807 < 5 + T.size + 1 := by omega
    have HHL : Hid (((⟨#[110, 101, 120, 116, 32]⟩ : ByteArray) ++ T ++ ⟨#[10]⟩).data.toList = headL next) := Lib.hid (by
      unfold headL
      rw [append_list, append_list, hT])
    have hS5 : ((⟨#[110, 101, 120, 116, 32]⟩ : ByteArray) ++ T ++ ⟨#[10]⟩).size ≤ 27 := by
      simp only [ByteArray.size_append]
      have : (⟨#[110, 101, 120, 116, 32]⟩ : ByteArray).size = 5 := rfl
      have : (⟨#[10]⟩ : ByteArray).size = 1 := rfl
      omega
    have HCV : Hid (∀ Y, ∃ v w', (convert 9 40 (.string ((⟨#[110, 101, 120, 116, 32]⟩ : ByteArray) ++ T ++ ⟨#[10]⟩))).run Tryd.prog Y = .ok v w' ∧ ownF w' Y.heap.size v (headL next) ∧ Below Y.heap.size Y w') := Lib.hid fun Y => by
      rw [← HHL.out]
      exact conv_bytes Y _ (by omega)
    go_upto_region 3 with (go_at_call 17; refine HCh.out.mono ?_; rintro e w2 ⟨rfl, hb2⟩; have HB2 := Lib.hid (HB0.out.trans (hb2.mono HB0.out.size)); have HM2 := Lib.hid (HM0.out.after hb2); clear hb2)
    clear a0 a1 HCh
    have a2 := (HM2.out.cell 0).trans (show _ = some (.int .i64 next) from rfl)
    go_upto_region 4 with (first | (go_at_call 18; refine (HSH.out _).mono ?_; rintro e w3 ⟨rfl, hb3⟩; have HB3 := Lib.hid (HB2.out.trans (hb3.mono HB2.out.size)); have HM3 := Lib.hid (HM2.out.after hb3); clear hb3; obtain ⟨v4, w4, hv4, ho4, hb4⟩ := HCV.out w3) | ((with_reducible show wpList _ _ _ (Oper.mk _ (Op.convert 9 40 _) _ _ _ _ :: _) _ _); refine wpList_conv9 rfl _ rfl (by go_simp) hv4 ?_))
    have HB4 := Lib.hid (HB3.out.trans (hb4.mono HB3.out.size))
    have HM4 := Lib.hid (HM3.out.after hb4)
    have HO4 := Lib.hid ho4
    have HGG : Hid (w.heap.size < w3.heap.size) := Lib.hid HM3.out.lt
    have HG4 : Hid (w3.heap.size ≤ w4.heap.size) := Lib.hid hb4.size
    clear hb4 ho4 hv4 HB3 HM3 HB2 HM2 a2
    generalize w3.heap.size = G at HO4 HGG HG4
    have a4 := (HM4.out.cell 0).trans (show _ = some (.int .i64 next) from rfl)
    have a5 := (HM4.out.cell 1).trans (show _ = some (.slice A n c) from rfl)
    have HOR := Lib.hid (refOrder_any w4 hi next A n c nds (HH.out.below (HB4.out.mono hh)) (Nat.le_trans hh HB4.out.size))
    have HFd : Hid (∀ X, Below w.heap.size w X → ∀ (y : Int) (i : Nat) (nd : Nd), ixOf nds y = some i → nds[i]? = some nd → Calls Tryd.prog 20 #[.agg #[.int .i64 next, .slice A n c], .int .i64 y] X (FindH X hi nd)) := Lib.hid fun X hX y i nd h1 h2 => refFindH_any X hi next y A n c nds (HH.out.below (hX.mono hh)) (Nat.le_trans hh hX.size) HRT.out i h1 nd h2
    have HDp : Hid (∀ X, Below w.heap.size w X → ∀ (y : Int), Calls Tryd.prog 21 #[.agg #[.int .i64 next, .slice A n c], .int .i64 y] X (Ret X (.int .i64 (depthR next nds y)))) := Lib.hid fun X hX y => refDepthQ_any X hi next y A n c nds (HH.out.below (hX.mono hh)) (Nat.le_trans hh hX.size)
    have HOM : Hid (∀ y ∈ orderV nds, ∃ i nd d, OrdIs next nds y i nd d) := Lib.hid fun y hy => ord_is HRT.out hy
    rw [HORD.out] at HOR
    clear HORD HR HRT
    generalize orderV nds = ord at HX hol HOM HOR
    go_wp2_with (go_at_call 19; refine HOR.out.mono ?_; rintro e w5 ⟨ov, rfl, ho5, hb5⟩; have HRP : Hid (RP w next A n c G ov ord v4 (headL next) w5) := Lib.hid ⟨HB4.out.trans (hb5.mono HB4.out.size), HGG.out, HM4.out.after hb5, HO4.out.below hb5, own_mono ho5 HG4.out⟩; obtain ⟨Ao, co, rfl, hAo⟩ := ownI_form ho5; have HAo := Lib.hid hAo; clear hAo ho5 hb5 a4 a5)
    obtain ⟨on, hon⟩ : ∃ m, ord.length = m := ⟨_, rfl⟩
    rw [hon] at hol HAo ⊢
    go_loopw [4, 6] (fun v i wr => ∃ k : Nat, k ≤ on ∧ i = .int .i64 k ∧ Hid (RP w next A n c G (.slice Ao on co) ord v (pageV (headL next) ((ord.take k).map (chunkV nds))) wr)) (fun _ i _ => on - (intOf i).toNat)
    case atStart => exact ⟨0, Nat.zero_le _, rfl, by rw [hon] at HRP; exact HRP⟩
    case round =>
      rename World => wr
      obtain ⟨k, hk, rfl, HRw⟩ := hrel
      generalize hL : pageV (headL next) ((ord.take k).map (chunkV nds)) = L at HRw
      have HL := Lib.hid hL
      clear hL HRP HOR
      obtain ⟨A4, m4, c4, rfl, rfl, hm4m⟩ := HRw.out.o.form
      by_cases hkn : k < on
      · by_cases hll : (L.length : Int) ≤ 1048576
        · have hlL : ¬ 1048576 < L.length := by omega
          obtain ⟨y, hy⟩ : ∃ y, ord[k]? = some y := ⟨ord[k]'(by omega), List.getElem?_eq_getElem _⟩
          obtain ⟨i, nd, d, hO⟩ := HOM.out y (List.mem_of_getElem? hy)
          have HO := Lib.hid hO
          have HNX := Lib.hid (page_step HL.out hy hlL)
          have hd1 := hO.d1
          have hd2 := hO.d2
          have hok := hO.ok
          have hps := HSZ.out nd (List.mem_of_getElem? hO.gi)
          have HDd : Hid (∀ X, Below w.heap.size w X → Calls Tryd.prog 21 #[.agg #[.int .i64 next, .slice A n c], .int .i64 nd.id] X (Ret X (.int .i64 d))) := Lib.hid fun X hX => by
            have := HDp.out X hX nd.id
            rw [HO.out.id, HO.out.dr] at this
            rw [HO.out.id]
            exact this
          have HCH : Hid (chunkV nds y = lineN nd d ++ (nd.props.map (lineP · d)).flatten ++ (nd.refs.map (lineR · d)).flatten) := Lib.hid hO.ch
          have HLN : Hid (lineD nd d ++ [10] = lineN nd d) := Lib.hid hO.ln
          have HOK := Lib.hid hok
          obtain ⟨T1, hT1, hT1s, hT1e⟩ := list_text (lineD nd d)
          have hT1l := lineD_len hok hd2
          have HT1 : Hid ((T1 ++ ⟨#[10]⟩).data.toList = lineN nd d) := Lib.hid (by rw [append_list, hT1]; exact hO.ln)
          obtain ⟨gO, hgO⟩ := HAo.out (by omega)
          subst hgO
          have HCs : Hid (∀ Y, Below wr.heap.size wr Y → Y.cell? ⟨w.heap.size, 0, none⟩ = some (.int .i64 next) ∧ Y.cell? ⟨w.heap.size, 1, none⟩ = some (.slice A n c) ∧ Y.cell? ⟨gO, k, none⟩ = some (.int .i64 y)) := Lib.hid fun Y hY => by
            have h1 := HRw.out.after hY
            exact ⟨(h1.m.cell 0).trans rfl, (h1.m.cell 1).trans rfl, ordI_at h1.d hon hy⟩
          have HFc : Hid (∀ Y, Below wr.heap.size wr Y → Calls Tryd.prog 20 #[.agg #[.int .i64 next, .slice A n c], .int .i64 y] Y fun e W => ∃ u, e = .returned u ∧ FindH Y hi nd (.returned u) W) := Lib.hid fun Y hY => (HFd.out Y (HRw.out.bel.trans (hY.mono HRw.out.bel.size)) y i nd hO.ix hO.gi).mono fun e W he => by
            obtain ⟨M, rfl, h2⟩ := he
            exact ⟨_, rfl, M, rfl, h2⟩
          clear hO hok hy HDp HFd HOM
          go_upto_region 8 with (fail)
          refine wp_region_held_drew (S := fun Y => Below wr.heap.size wr Y ∧ Y.cell? ⟨w.heap.size, 0, none⟩ = some (.int .i64 next) ∧ Y.cell? ⟨w.heap.size, 1, none⟩ = some (.slice A n c) ∧ Y.cell? ⟨gO, k, none⟩ = some (.int .i64 y)) (by kernel_rfl) ?hS8 (fun hHeld => ?q8)
          case hS8 => exact ⟨below_drew1' wr, HCs.out _ (below_drew1' wr)⟩
          case q8 =>
            show wpAnyH _ _ _ _ _ 12 (Array.replicate 12 false) _ wr.drew
            refine wpAnyH_take (i := 0) (oi := ⟨some 35, _, _, _, _, _⟩) (v := (.agg #[.int .i64 next, .slice A n c])) rfl (by kernel_rfl) (by kernel_rfl) (by kernel_rfl) (fun _ _ _ h => h) (Or.inl ⟨by rfl, ?tay0⟩) (by assumption) ?taq0
            case tay0 => (intro w hSw; (try dsimp only at hSw); go_simp)
            case taq0 =>
              (try simp only [Act.put]); (try simp only [List.setIfInBounds_toArray])
              refine wpAnyH_take (i := 1) (oi := ⟨some 36, _, _, _, _, _⟩) (v := (.slice (some ⟨gO, 0, none⟩) on co)) rfl (by kernel_rfl) (by kernel_rfl) (by kernel_rfl) (fun _ _ _ h => h) (Or.inl ⟨by rfl, ?tay1⟩) (by assumption) ?taq1
              case tay1 => (intro w hSw; (try dsimp only at hSw); go_simp)
              case taq1 =>
                (try simp only [Act.put]); (try simp only [List.setIfInBounds_toArray])
                refine wpAnyH_take (i := 2) (oi := ⟨some 37, _, _, _, _, _⟩) (v := (.int .i64 (k : Int))) rfl (by kernel_rfl) (by kernel_rfl) (by kernel_rfl) (fun _ _ _ h => h) (Or.inl ⟨by rfl, ?tay2⟩) (by assumption) ?taq2
                case tay2 => (intro w hSw; (try dsimp only at hSw); go_simp)
                case taq2 =>
                  (try simp only [Act.put]); (try simp only [List.setIfInBounds_toArray])
                  refine wpAnyH_take (i := 3) (oi := ⟨some 38, _, _, _, _, _⟩) (v := (.pointer (some ⟨gO, k, none⟩))) rfl (by kernel_rfl) (by kernel_rfl) (by kernel_rfl) (fun _ _ _ h => h) (Or.inl ⟨by rfl, ?tay3⟩) (by assumption) ?taq3
                  case tay3 => (intro w hSw; (try dsimp only at hSw); go_simp)
                  case taq3 =>
                    (try simp only [Act.put]); (try simp only [List.setIfInBounds_toArray])
                    refine wpAnyH_take (i := 4) (oi := ⟨some 39, _, _, _, _, _⟩) (v := (.int .i64 y)) rfl (by kernel_rfl) (by kernel_rfl) (by kernel_rfl) (fun _ _ _ h => h) (Or.inl ⟨by rfl, ?tay4⟩) (by assumption) ?taq4
                    case tay4 => (intro w hSw; (try dsimp only at hSw); go_simp)
                    case taq4 =>
                      (try simp only [Act.put]); (try simp only [List.setIfInBounds_toArray])
                      refine abs_goal (fun _ _ _ _ _ h => h) fun Q' a' HQP hQ' ha' => ?_
                      have HI : Hid (hi ≤ wr.heap.size) := Lib.hid (Nat.le_trans hh HRw.out.bel.size)
                      have HC : ∀ (g : Nat) (Y : World) (Ap : Option Addr) (np cp : Nat) (Ak : Option Addr) (nk ck : Nat) (Ar : Option Addr) (nr cr : Nat), RNd w next A n c G (.slice (some ⟨gO, 0, none⟩) on co) ord (.slice A4 L.length c4) L hi nd ⟨⟨Ap, np, cp⟩, ⟨Ak, nk, ck⟩, ⟨Ar, nr, cr⟩⟩ g Y →
                          Q' .normal ((((((a'.put (some 40) (.tuple #[.agg #[.int .i64 nd.id, .string nd.con, .int .i64 nd.par, .string nd.role, .slice Ap np cp, .slice Ak nk ck, .slice Ar nr cr], .bool true])).put (some 34) (.tuple #[.agg #[.int .i64 nd.id, .string nd.con, .int .i64 nd.par, .string nd.role, .slice Ap np cp, .slice Ak nk ck, .slice Ar nr cr], .bool true])).put (some 41) (.agg #[.int .i64 nd.id, .string nd.con, .int .i64 nd.par, .string nd.role, .slice Ap np cp, .slice Ak nk ck, .slice Ar nr cr])).put (some 42) (.bool true)).put (some 7) (.pointer (some ⟨g, 0, none⟩))).put (some 8) (.bool true)) Y := by
                        intro g Y Ap np cp Ak nk ck Ar nr cr hN
                        rw [hQ', ha']
                        clear hQ' ha' HQP
                        have HN := Lib.hid hN
                        clear hN hHeld
                        (try simp only [Act.put]); (try simp only [List.setIfInBounds_toArray])
                        have HLP : Hid (np = nd.props.length) := Lib.hid HN.out.l.pn
                        have HLR : Hid (nr = nd.refs.length) := Lib.hid HN.out.l.rn
                        have HBX : Hid (∀ Y v L', RNd w next A n c G (.slice (some ⟨gO, 0, none⟩) on co) ord v L' hi nd ⟨⟨Ap, np, cp⟩, ⟨Ak, nk, ck⟩, ⟨Ar, nr, cr⟩⟩ g Y → Y.cell? ⟨g, 0, none⟩ = some (.int .i64 nd.id) ∧ Y.cell? ⟨g, 1, none⟩ = some (.string nd.con) ∧ Y.cell? ⟨g, 2, none⟩ = some (.int .i64 nd.par) ∧ Y.cell? ⟨g, 3, none⟩ = some (.string nd.role) ∧ Y.cell? ⟨g, 4, none⟩ = some (.slice Ap np cp) ∧ Y.cell? ⟨g, 5, none⟩ = some (.slice Ak nk ck) ∧ Y.cell? ⟨g, 6, none⟩ = some (.slice Ar nr cr)) := Lib.hid fun Y v L' h => ⟨(h.b.cell 0).trans rfl, (h.b.cell 1).trans rfl, (h.b.cell 2).trans rfl, (h.b.cell 3).trans rfl, (h.b.cell 4).trans rfl, (h.b.cell 5).trans rfl, (h.b.cell 6).trans rfl⟩
                        have HLc : Hid (∀ Y, Calls Tryd.prog 22 #[.agg #[.int .i64 nd.id, .string nd.con, .int .i64 nd.par, .string nd.role, .slice Ap np cp, .slice Ak nk ck, .slice Ar nr cr], .int .i64 d] Y fun e w' => e = .returned (.string T1) ∧ Below Y.heap.size Y w') := Lib.hid fun Y => calls_text (refLine_any Y nd ⟨⟨Ap, np, cp⟩, ⟨Ak, nk, ck⟩, ⟨Ar, nr, cr⟩⟩ d hd1 hd2 HOK.out) hT1e (Below.refl _ _)
                        have b0 := (HN.out.r.m.cell 0).trans (show _ = some (.int .i64 next) from rfl)
                        have b1 := (HN.out.r.m.cell 1).trans (show _ = some (.slice A n c) from rfl)
                        obtain ⟨c0, c1, c2, c3, c4', c5, c6⟩ := HBX.out _ _ _ HN.out
                        clear HCs HFc HRw HI hT1e
                        go_upto_region 10 with (go_at_call 21; refine (HDd.out _ HN.out.r.bel).mono ?_; rintro e w6 ⟨rfl, hb6⟩; have HN6 := Lib.hid (HN.out.after hh hb6); clear hb6)
                        clear b0 b1 c0 c1 c2 c3 c4' c5 c6 HN HDd
                        obtain ⟨c0, c1, c2, c3, c4', c5, c6⟩ := HBX.out _ _ _ HN6.out
                        have y1 : ¬ 9223372036854775807 < T1.size + 1 := by omega
                        have hs1 : (T1 ++ (⟨#[10]⟩ : ByteArray)).size = T1.size + 1 := by rw [ByteArray.size_append]; rfl
                        go_upto_region 11 with (first | (go_at_call 22; refine (HLc.out _).mono ?_; rintro e w7 ⟨rfl, hb7⟩; have HN7 := Lib.hid (HN6.out.after hh hb7); clear hb7) | ((with_reducible show wpList _ _ _ (Oper.mk _ (Op.call { callee := .builtin .append, args := _, argTypes := _ }) _ _ _ _ :: _) _ _); refine app_strF rfl _ _ rfl G (.slice A4 L.length c4) L (by go_simp) HN7.out.r.o (T1 ++ ⟨#[10]⟩) (by go_simp) (by rw [hs1]; omega) HN7.out.r.sz ?_; intro v8 w8 ho8 hg8; have HN8 := Lib.hid (HN7.out.app hh hg8 (by rw [HT1.out] at ho8; exact ho8)); clear ho8 hg8))
                        clear c0 c1 c2 c3 c4' c5 c6 HN6 HN7 HLc HT1 hT1 hT1s y1 hs1
                        have hLNl : (lineN nd d).length ≤ 32001 := by
                          have := HLN.out
                          rw [← this, List.length_append]
                          simp only [List.length_singleton]
                          omega
                        go_wp2_with fail
                        go_loopw [4, 10] (fun v i ws => ∃ j : Nat, j ≤ np ∧ i = .int .i64 j ∧ Hid (RNd w next A n c G (.slice (some ⟨gO, 0, none⟩) on co) ord v (L ++ lineN nd d ++ ((nd.props.take j).map (lineP · d)).flatten) hi nd ⟨⟨Ap, np, cp⟩, ⟨Ak, nk, ck⟩, ⟨Ar, nr, cr⟩⟩ g ws)) (fun _ i _ => np - (intOf i).toNat)
                        case atStart => exact ⟨0, Nat.zero_le _, rfl, Lib.hid (by rw [List.take_zero, List.map_nil, List.flatten_nil, List.append_nil]; exact HN8.out)⟩
                        case round =>
                          rename World => ws
                          obtain ⟨j, hj, rfl, HNs⟩ := hrel
                          clear HN8
                          obtain ⟨c0, c1, c2, c3, c4', c5, c6⟩ := HBX.out _ _ _ HNs.out
                          by_cases hjn : j < np
                          · obtain ⟨p, hp⟩ : ∃ p, nd.props[j]? = some p := ⟨nd.props[j]'(by have := HLP.out; omega), List.getElem?_eq_getElem _⟩
                            obtain ⟨bp, op, hAp, _, hbp, hcp⟩ := HNs.out.l.p.at_ (show 0 < np by omega)
                            simp only at hAp
                            subst hAp
                            have q0 := hcp (j * 2) _ (propCells_get hp).1
                            have q1 := hcp (j * 2 + 1) _ (propCells_get hp).2
                            rw [← Nat.add_assoc] at q1
                            have hpk := HOK.out.props p (List.mem_of_getElem? hp)
                            have HTK : Hid (L ++ lineN nd d ++ ((nd.props.take j).map (lineP · d)).flatten ++ lineP p d = L ++ lineN nd d ++ ((nd.props.take (j + 1)).map (lineP · d)).flatten) := Lib.hid (by
                              rw [List.take_add_one, hp]
                              simp [List.append_assoc])
                            have hln : (L ++ lineN nd d ++ ((nd.props.take j).map (lineP · d)).flatten).length ≤ 40000000 := by
                              have := lineP_len HOK.out hd2 j (by have := HLP.out; omega)
                              simp only [List.length_append]
                              omega
                            generalize L ++ lineN nd d ++ ((nd.props.take j).map (lineP · d)).flatten = LL at HNs HTK hln
                            obtain ⟨p1, p2⟩ := p
                            simp only at q0 q1 hpk
                            obtain ⟨T2, hT2, hT2s, hT2e⟩ := list_text (propLD (p1, p2) d)
                            have hT2l := propLD_len (p := (p1, p2)) hpk.1 hpk.2 hd2
                            have HT2 : Hid ((T2 ++ ⟨#[10]⟩).data.toList = lineP (p1, p2) d) := Lib.hid (by rw [append_list, hT2]; rfl)
                            have HPc : Hid (∀ Y, Calls Tryd.prog 23 #[.agg #[.string p1, .string p2], .int .i64 d] Y fun e w' => e = .returned (.string T2) ∧ Below Y.heap.size Y w') := Lib.hid fun Y => calls_text (refProp_any Y p1 p2 d hd2 hpk.1 hpk.2) hT2e (Below.refl _ _)
                            have y2 : ¬ 9223372036854775807 < T2.size + 1 := by omega
                            have hjb : j < 2000 := by have := HLP.out; omega
                            have hs2 : (T2 ++ (⟨#[10]⟩ : ByteArray)).size = T2.size + 1 := by rw [ByteArray.size_append]; rfl
                            obtain ⟨A5, m5, c5', rfl, rfl, hm5⟩ := HNs.out.r.o.form
                            clear hcp hp hT2 hT2e
                            go_wp2_with (first | (go_at_call 23; refine (HPc.out _).mono ?_; rintro e w7 ⟨rfl, hb7⟩; have HN7 := Lib.hid (HNs.out.after hh hb7); clear hb7) | ((with_reducible show wpList _ _ _ (Oper.mk _ (Op.call { callee := .builtin .append, args := _, argTypes := _ }) _ _ _ _ :: _) _ _); refine app_strF rfl _ _ rfl G (.slice A5 LL.length c5') LL (by go_simp) HN7.out.r.o (T2 ++ ⟨#[10]⟩) (by go_simp) (by rw [hs2]; omega) HN7.out.r.sz ?_; intro v9 w9 ho9 hg9; have HN9 := Lib.hid (HN7.out.app hh hg9 (by rw [HT2.out, HTK.out] at ho9; exact ho9)); clear ho9 hg9))
                            go_roundw
                            case rel => exact ⟨j + 1, by omega, by go_num, HN9⟩
                            case measure => simp [intOf]; omega
                          · have hjn2 : ¬ (j : Int) < (np : Int) := by omega
                            have HNt : Hid (RNd w next A n c G (.slice (some ⟨gO, 0, none⟩) on co) ord _ (L ++ lineN nd d ++ (nd.props.map (lineP · d)).flatten) hi nd ⟨⟨Ap, np, cp⟩, ⟨Ak, nk, ck⟩, ⟨Ar, nr, cr⟩⟩ g ws) := Lib.hid (by have := HNs.out; rw [List.take_of_length_le (by have := HLP.out; omega)] at this; exact this)
                            have hlp : (L ++ lineN nd d ++ (nd.props.map (lineP · d)).flatten).length ≤ 40000000 := by
                              have := lineP_len HOK.out hd2 nd.props.length (by omega)
                              rw [List.take_of_length_le (Nat.le_refl _)] at this
                              simp only [List.length_append]
                              omega
                            clear HNs
                            have HCE : Hid (L ++ chunkV nds y = (L ++ lineN nd d ++ (nd.props.map (lineP · d)).flatten) ++ (nd.refs.map (lineR · d)).flatten) := Lib.hid (by rw [HCH.out]; simp [List.append_assoc])
                            generalize L ++ lineN nd d ++ (nd.props.map (lineP · d)).flatten = LP at HNt HCE hlp
                            go_wp2_with fail
                            go_loopw [4, 11] (fun v i ws => ∃ j : Nat, j ≤ nr ∧ i = .int .i64 j ∧ Hid (RNd w next A n c G (.slice (some ⟨gO, 0, none⟩) on co) ord v (LP ++ ((nd.refs.take j).map (lineR · d)).flatten) hi nd ⟨⟨Ap, np, cp⟩, ⟨Ak, nk, ck⟩, ⟨Ar, nr, cr⟩⟩ g ws)) (fun _ i _ => nr - (intOf i).toNat)
                            case atStart => exact ⟨0, Nat.zero_le _, rfl, Lib.hid (by rw [List.take_zero, List.map_nil, List.flatten_nil, List.append_nil]; exact HNt.out)⟩
                            case round =>
                              clear c0 c1 c2 c3 c4' c5 c6
                              rename World => wt
                              obtain ⟨m, hm, rfl, HNs⟩ := hrel
                              clear HNt
                              obtain ⟨c0, c1, c2, c3, c4', c5, c6⟩ := HBX.out _ _ _ HNs.out
                              by_cases hmn : m < nr
                              · obtain ⟨p, hp⟩ : ∃ p, nd.refs[m]? = some p := ⟨nd.refs[m]'(by have := HLR.out; omega), List.getElem?_eq_getElem _⟩
                                obtain ⟨bp, op, hAp, _, hbp, hcp⟩ := HNs.out.l.r.at_ (show 0 < nr by omega)
                                simp only at hAp
                                subst hAp
                                have q0 := hcp (m * 2) _ (refCells_get hp).1
                                have q1 := hcp (m * 2 + 1) _ (refCells_get hp).2
                                rw [← Nat.add_assoc] at q1
                                have hpk := HOK.out.refs p (List.mem_of_getElem? hp)
                                have HTK : Hid (LP ++ ((nd.refs.take m).map (lineR · d)).flatten ++ lineR p d = LP ++ ((nd.refs.take (m + 1)).map (lineR · d)).flatten) := Lib.hid (by
                                  rw [List.take_add_one, hp]
                                  simp [List.append_assoc])
                                have hln : (LP ++ ((nd.refs.take m).map (lineR · d)).flatten).length ≤ 80000000 := by
                                  have := lineR_len HOK.out hd2 m (by have := HLR.out; omega)
                                  simp only [List.length_append]
                                  omega
                                generalize LP ++ ((nd.refs.take m).map (lineR · d)).flatten = LL at HNs HTK hln
                                obtain ⟨p1, p2⟩ := p
                                simp only at q0 q1 hpk
                                obtain ⟨T2, hT2, hT2s, hT2e⟩ := list_text (refLD (p1, p2) d)
                                have hT2l := refLD_len (r := (p1, p2)) hpk.1 hpk.2.1 hpk.2.2 hd2
                                have HT2 : Hid ((T2 ++ ⟨#[10]⟩).data.toList = lineR (p1, p2) d) := Lib.hid (by rw [append_list, hT2]; rfl)
                                have HPc : Hid (∀ Y, Calls Tryd.prog 24 #[.agg #[.string p1, .int .i64 p2], .int .i64 d] Y fun e w' => e = .returned (.string T2) ∧ Below Y.heap.size Y w') := Lib.hid fun Y => calls_text (refRefL_any Y p1 p2 d hd2 hpk.1 hpk.2.1 hpk.2.2) hT2e (Below.refl _ _)
                                have y2 : ¬ 9223372036854775807 < T2.size + 1 := by omega
                                have hmb : m < 2000 := by have := HLR.out; omega
                                have hs2 : (T2 ++ (⟨#[10]⟩ : ByteArray)).size = T2.size + 1 := by rw [ByteArray.size_append]; rfl
                                obtain ⟨A5, m5, c5', rfl, rfl, hm5⟩ := HNs.out.r.o.form
                                clear hcp hp hT2 hT2e
                                go_wp2_with (first | (go_at_call 24; refine (HPc.out _).mono ?_; rintro e w7 ⟨rfl, hb7⟩; have HN7 := Lib.hid (HNs.out.after hh hb7); clear hb7) | ((with_reducible show wpList _ _ _ (Oper.mk _ (Op.call { callee := .builtin .append, args := _, argTypes := _ }) _ _ _ _ :: _) _ _); refine app_strF rfl _ _ rfl G (.slice A5 LL.length c5') LL (by go_simp) HN7.out.r.o (T2 ++ ⟨#[10]⟩) (by go_simp) (by rw [hs2]; omega) HN7.out.r.sz ?_; intro v9 w9 ho9 hg9; have HN9 := Lib.hid (HN7.out.app hh hg9 (by rw [HT2.out, HTK.out] at ho9; exact ho9)); clear ho9 hg9))
                                go_roundw
                                case rel => exact ⟨m + 1, by omega, by go_num, HN9⟩
                                case measure => simp [intOf]; omega
                              · have hmn2 : ¬ (m : Int) < (nr : Int) := by omega
                                have HRe : Hid (RP w next A n c G (.slice (some ⟨gO, 0, none⟩) on co) ord _ (pageV (headL next) ((ord.take (k + 1)).map (chunkV nds))) wt) := Lib.hid (by have := HNs.out.r; rw [List.take_of_length_le (by have := HLR.out; omega), ← HCE.out, ← HNX.out] at this; exact this)
                                clear HNs
                                go_wp2_with fail
                                go_roundw
                                case rel => exact ⟨k + 1, by omega, by go_num, HRe⟩
                                case measure => simp [intOf]; omega
                      subst ha'
                      refine wpAnyH_callAlloc (i := 5) (j := 9) (oi := ⟨some 40, _, _, _, _, _⟩) (oj := ⟨some 7, _, _, _, _, _⟩) 37 #[.int .i64 0, .string ByteArray.empty, .int .i64 0, .string ByteArray.empty, .slice none 0 0, .slice none 0 0, .slice none 0 0] 20 #[.agg #[.int .i64 next, .slice A n c], .int .i64 y] (fun W u W' => FindH W hi nd (.returned u) W') (by kernel_rfl) rfl rfl rfl rfl ?hri ?hrj (fun W hW => ⟨(below_drew1' wr).trans (hW.mono (below_drew1' wr).size), HCs.out _ ((below_drew1' wr).trans (hW.mono (below_drew1' wr).size))⟩) (HFc.out _ (below_drew1' wr)) (fun W u W' h => h.choose_spec.2.2) ?b1 ?b2
                      case hri => go_simp
                      case hrj => (intro a9 w9; go_simp; rfl)
                      case b1 =>
                        intro u W hR hSw
                        obtain ⟨⟨⟨Ap, np, cp⟩, ⟨Ak, nk, ck⟩, ⟨Ar, nr, cr⟩⟩, hu, hlf, hbW⟩ := hR
                        injection hu with hu
                        subst hu
                        (try simp only at hlf)
                        clear hHeld
                        have HBW : Hid (Below wr.heap.size wr W) := Lib.hid ((below_drew1' wr).trans (hbW.mono (below_drew1' wr).size))
                        (try simp only [Act.put]); (try simp only [List.setIfInBounds_toArray])
                        refine wpAnyH_take (i := 6) (oi := ⟨some 34, _, _, _, _, _⟩) (v := (.tuple #[.agg #[.int .i64 nd.id, .string nd.con, .int .i64 nd.par, .string nd.role, .slice Ap np cp, .slice Ak nk ck, .slice Ar nr cr], .bool true])) rfl (by kernel_rfl) (by kernel_rfl) (by kernel_rfl) (fun _ _ _ h => HQP.out _ _ _ _ _ h) (Or.inl ⟨by rfl, ?tby0⟩) (by assumption) ?tbq0
                        case tby0 => (intro w hSw; (try dsimp only at hSw); go_simp)
                        case tbq0 =>
                          (try simp only [Act.put]); (try simp only [List.setIfInBounds_toArray])
                          refine wpAnyH_take (i := 7) (oi := ⟨some 41, _, _, _, _, _⟩) (v := (.agg #[.int .i64 nd.id, .string nd.con, .int .i64 nd.par, .string nd.role, .slice Ap np cp, .slice Ak nk ck, .slice Ar nr cr])) rfl (by kernel_rfl) (by kernel_rfl) (by kernel_rfl) (fun _ _ _ h => HQP.out _ _ _ _ _ h) (Or.inl ⟨by rfl, ?tby1⟩) (by assumption) ?tbq1
                          case tby1 => (intro w hSw; (try dsimp only at hSw); go_simp)
                          case tbq1 =>
                            (try simp only [Act.put]); (try simp only [List.setIfInBounds_toArray])
                            refine wpAnyH_take (i := 8) (oi := ⟨some 42, _, _, _, _, _⟩) (v := (.bool true)) rfl (by kernel_rfl) (by kernel_rfl) (by kernel_rfl) (fun _ _ _ h => HQP.out _ _ _ _ _ h) (Or.inl ⟨by rfl, ?tby2⟩) (by assumption) ?tbq2
                            case tby2 => (intro w hSw; (try dsimp only at hSw); go_simp)
                            case tbq2 =>
                              (try simp only [Act.put]); (try simp only [List.setIfInBounds_toArray])
                              refine wpAnyH_alloc1 (j := 9) (oj := ⟨some 7, _, _, _, _, _⟩) 37 #[.int .i64 0, .string ByteArray.empty, .int .i64 0, .string ByteArray.empty, .slice none 0 0, .slice none 0 0, .slice none 0 0] (by kernel_rfl) rfl rfl ?hrk (fun W2 hW2 => ⟨HBW.out.trans (hW2.mono HBW.out.size), HCs.out _ (HBW.out.trans (hW2.mono HBW.out.size))⟩) ?b1b
                              case hrk => (intro a9 w9; go_simp; rfl)
                              case b1b =>
                                intro g X hbg hg hbX hS2
                                clear hSw
                                have HBG := Lib.hid hbg
                                have HWX : Hid (Below W.heap.size W (((((((X.setCell ⟨g, 0, none⟩ (.int .i64 nd.id)).setCell ⟨g, 1, none⟩ (.string nd.con)).setCell ⟨g, 2, none⟩ (.int .i64 nd.par)).setCell ⟨g, 3, none⟩ (.string nd.role)).setCell ⟨g, 4, none⟩ (.slice Ap np cp)).setCell ⟨g, 5, none⟩ (.slice Ak nk ck)).setCell ⟨g, 6, none⟩ (.slice Ar nr cr))) := Lib.hid (below_seven hbX hg)
                                have HWY : Hid (Below wr.heap.size wr (((((((X.setCell ⟨g, 0, none⟩ (.int .i64 nd.id)).setCell ⟨g, 1, none⟩ (.string nd.con)).setCell ⟨g, 2, none⟩ (.int .i64 nd.par)).setCell ⟨g, 3, none⟩ (.string nd.role)).setCell ⟨g, 4, none⟩ (.slice Ap np cp)).setCell ⟨g, 5, none⟩ (.slice Ak nk ck)).setCell ⟨g, 6, none⟩ (.slice Ar nr cr))) := Lib.hid (HBW.out.trans (HWX.out.mono HBW.out.size))
                                have HLF : Hid (LeafIn (((((((X.setCell ⟨g, 0, none⟩ (.int .i64 nd.id)).setCell ⟨g, 1, none⟩ (.string nd.con)).setCell ⟨g, 2, none⟩ (.int .i64 nd.par)).setCell ⟨g, 3, none⟩ (.string nd.role)).setCell ⟨g, 4, none⟩ (.slice Ap np cp)).setCell ⟨g, 5, none⟩ (.slice Ak nk ck)).setCell ⟨g, 6, none⟩ (.slice Ar nr cr)) 0 hi nd ⟨⟨Ap, np, cp⟩, ⟨Ak, nk, ck⟩, ⟨Ar, nr, cr⟩⟩) := Lib.hid (hlf.below (HWX.out.mono (Nat.le_trans HI.out HBW.out.size)))
                                clear hbg hbX hg HWX hlf hbW
                                (try simp only [Act.put]); (try simp only [List.setIfInBounds_toArray])
                                refine wpAnyH_ready (rs := [10]) (by kernel_rfl) (by simp) ?_
                                refine AllReadyH.cons rfl (fun K hK => ?su1) ?mu1
                                case mu1 => exact AllReadyH.nil
                                case su1 =>
                                  have e0 := HBG.out.cell 0
                                  have e1 := HBG.out.cell 1
                                  have e2 := HBG.out.cell 2
                                  have e3 := HBG.out.cell 3
                                  have e4 := HBG.out.cell 4
                                  have e5 := HBG.out.cell 5
                                  have e6 := HBG.out.cell 6
                                  have f0 := HBG.out.frozen 0
                                  have f1 := HBG.out.frozen 1
                                  have f2 := HBG.out.frozen 2
                                  have f3 := HBG.out.frozen 3
                                  have f4 := HBG.out.frozen 4
                                  have f5 := HBG.out.frozen 5
                                  have f6 := HBG.out.frozen 6
                                  go_simp
                                  refine hK.out _ _ ⟨HWY.out, HCs.out _ HWY.out⟩ (fun hHeld => ?_)
                                  clear hK K e0 e1 e2 e3 e4 e5 e6 f0 f1 f2 f3 f4 f5 f6
                                  (try simp only [Act.put]); (try simp only [List.setIfInBounds_toArray])
                                  refine wpAnyH_take (i := 11) (oi := ⟨some 8, _, _, _, _, _⟩) (v := (.bool true)) rfl (by kernel_rfl) (by kernel_rfl) (by kernel_rfl) (fun _ _ _ h => HQP.out _ _ _ _ _ h) (Or.inl ⟨by rfl, ?tdy0⟩) (by assumption) ?tdq0
                                  case tdy0 => (intro w hSw; (try dsimp only at hSw); go_simp)
                                  case tdq0 =>
                                    (try simp only [Act.put]); (try simp only [List.setIfInBounds_toArray])
                                    refine wpAnyH_done (by kernel_rfl) ?_ _
                                    have hz := HC g _ Ap np cp Ak nk ck Ar nr cr ⟨HRw.out.after HWY.out, blk_seven HBG.out, HLF.out⟩
                                    simp only [Act.put, List.setIfInBounds_toArray, List.set_cons_succ, List.set_cons_zero, hll, decide_true] at hz ⊢
                                    exact hz
                      case b2 =>
                        intro g W hbg hg hbW hSw
                        clear hHeld
                        have HBW : Hid (Below wr.heap.size wr W) := Lib.hid ((below_drew1' wr).trans (hbW.mono (below_drew1' wr).size))
                        (try simp only [Act.put]); (try simp only [List.setIfInBounds_toArray])
                        refine wpAnyH_callE (i := 5) (o := ⟨some 40, _, _, _, _, _⟩) 20 #[.agg #[.int .i64 next, .slice A n c], .int .i64 y] (fun u W' => FindH W hi nd (.returned u) W') (by kernel_rfl) rfl rfl ?hri2 (HFc.out _ HBW.out) (fun u Y h => ⟨HBW.out.trans (h.choose_spec.2.2.mono HBW.out.size), HCs.out _ (HBW.out.trans (h.choose_spec.2.2.mono HBW.out.size))⟩) ?b2b
                        case hri2 => go_simp
                        case b2b =>
                          intro u X hR hS2
                          obtain ⟨⟨⟨Ap, np, cp⟩, ⟨Ak, nk, ck⟩, ⟨Ar, nr, cr⟩⟩, hu, hlf, hbX⟩ := hR
                          injection hu with hu
                          subst hu
                          (try simp only at hlf)
                          clear hSw
                          have HBG : Hid (Blk X g 37 #[.int .i64 0, .string ByteArray.empty, .int .i64 0, .string ByteArray.empty, .slice none 0 0, .slice none 0 0, .slice none 0 0]) := Lib.hid (hbg.after hbX)
                          have HWY : Hid (Below wr.heap.size wr (((((((X.setCell ⟨g, 0, none⟩ (.int .i64 nd.id)).setCell ⟨g, 1, none⟩ (.string nd.con)).setCell ⟨g, 2, none⟩ (.int .i64 nd.par)).setCell ⟨g, 3, none⟩ (.string nd.role)).setCell ⟨g, 4, none⟩ (.slice Ap np cp)).setCell ⟨g, 5, none⟩ (.slice Ak nk ck)).setCell ⟨g, 6, none⟩ (.slice Ar nr cr))) := Lib.hid (below_seven (HBW.out.trans (hbX.mono HBW.out.size)) hg)
                          have HLF : Hid (LeafIn (((((((X.setCell ⟨g, 0, none⟩ (.int .i64 nd.id)).setCell ⟨g, 1, none⟩ (.string nd.con)).setCell ⟨g, 2, none⟩ (.int .i64 nd.par)).setCell ⟨g, 3, none⟩ (.string nd.role)).setCell ⟨g, 4, none⟩ (.slice Ap np cp)).setCell ⟨g, 5, none⟩ (.slice Ak nk ck)).setCell ⟨g, 6, none⟩ (.slice Ar nr cr)) 0 hi nd ⟨⟨Ap, np, cp⟩, ⟨Ak, nk, ck⟩, ⟨Ar, nr, cr⟩⟩) := Lib.hid (hlf.below (below_seven (Below.refl hi X) (Nat.le_trans HI.out hg)))
                          clear hbg hbX hg hlf hbW
                          (try simp only [Act.put]); (try simp only [List.setIfInBounds_toArray])
                          refine wpAnyH_take (i := 6) (oi := ⟨some 34, _, _, _, _, _⟩) (v := (.tuple #[.agg #[.int .i64 nd.id, .string nd.con, .int .i64 nd.par, .string nd.role, .slice Ap np cp, .slice Ak nk ck, .slice Ar nr cr], .bool true])) rfl (by kernel_rfl) (by kernel_rfl) (by kernel_rfl) (fun _ _ _ h => HQP.out _ _ _ _ _ h) (Or.inl ⟨by rfl, ?tcy0⟩) (by assumption) ?tcq0
                          case tcy0 => (intro w hSw; (try dsimp only at hSw); go_simp)
                          case tcq0 =>
                            (try simp only [Act.put]); (try simp only [List.setIfInBounds_toArray])
                            refine wpAnyH_take (i := 7) (oi := ⟨some 41, _, _, _, _, _⟩) (v := (.agg #[.int .i64 nd.id, .string nd.con, .int .i64 nd.par, .string nd.role, .slice Ap np cp, .slice Ak nk ck, .slice Ar nr cr])) rfl (by kernel_rfl) (by kernel_rfl) (by kernel_rfl) (fun _ _ _ h => HQP.out _ _ _ _ _ h) (Or.inl ⟨by rfl, ?tcy1⟩) (by assumption) ?tcq1
                            case tcy1 => (intro w hSw; (try dsimp only at hSw); go_simp)
                            case tcq1 =>
                              (try simp only [Act.put]); (try simp only [List.setIfInBounds_toArray])
                              refine wpAnyH_take (i := 8) (oi := ⟨some 42, _, _, _, _, _⟩) (v := (.bool true)) rfl (by kernel_rfl) (by kernel_rfl) (by kernel_rfl) (fun _ _ _ h => HQP.out _ _ _ _ _ h) (Or.inl ⟨by rfl, ?tcy2⟩) (by assumption) ?tcq2
                              case tcy2 => (intro w hSw; (try dsimp only at hSw); go_simp)
                              case tcq2 =>
                                (try simp only [Act.put]); (try simp only [List.setIfInBounds_toArray])
                                refine wpAnyH_ready (rs := [10]) (by kernel_rfl) (by simp) ?_
                                refine AllReadyH.cons rfl (fun K hK => ?su2) ?mu2
                                case mu2 => exact AllReadyH.nil
                                case su2 =>
                                  have e0 := HBG.out.cell 0
                                  have e1 := HBG.out.cell 1
                                  have e2 := HBG.out.cell 2
                                  have e3 := HBG.out.cell 3
                                  have e4 := HBG.out.cell 4
                                  have e5 := HBG.out.cell 5
                                  have e6 := HBG.out.cell 6
                                  have f0 := HBG.out.frozen 0
                                  have f1 := HBG.out.frozen 1
                                  have f2 := HBG.out.frozen 2
                                  have f3 := HBG.out.frozen 3
                                  have f4 := HBG.out.frozen 4
                                  have f5 := HBG.out.frozen 5
                                  have f6 := HBG.out.frozen 6
                                  go_simp
                                  refine hK.out _ _ ⟨HWY.out, HCs.out _ HWY.out⟩ (fun hHeld => ?_)
                                  clear hK K e0 e1 e2 e3 e4 e5 e6 f0 f1 f2 f3 f4 f5 f6
                                  (try simp only [Act.put]); (try simp only [List.setIfInBounds_toArray])
                                  refine wpAnyH_take (i := 11) (oi := ⟨some 8, _, _, _, _, _⟩) (v := (.bool true)) rfl (by kernel_rfl) (by kernel_rfl) (by kernel_rfl) (fun _ _ _ h => HQP.out _ _ _ _ _ h) (Or.inl ⟨by rfl, ?tey0⟩) (by assumption) ?teq0
                                  case tey0 => (intro w hSw; (try dsimp only at hSw); go_simp)
                                  case teq0 =>
                                    (try simp only [Act.put]); (try simp only [List.setIfInBounds_toArray])
                                    refine wpAnyH_done (by kernel_rfl) ?_ _
                                    have hz := HC g _ Ap np cp Ak nk ck Ar nr cr ⟨HRw.out.after HWY.out, blk_seven HBG.out, HLF.out⟩
                                    simp only [Act.put, List.setIfInBounds_toArray, List.set_cons_succ, List.set_cons_zero, hll, decide_true] at hz ⊢
                                    exact hz
        · have hlL : 1048576 < L.length := by omega
          have HPE := Lib.hid (page_end HL.out (.inr hlL))
          have HTO := Lib.hid (toldV_page (headL next) (ord.map (chunkV nds)))
          have HPR : Hid (pv = ([], 3)) := Lib.hid (by rw [HX.out, ← HTO.out, HPE.out, if_pos hlL])
          have hlg : (1048576 : Int) < (L.length : Int) := by omega
          have HBW := Lib.hid HRw.out.bel
          go_wp2_with fail
          go_ret2
          exact printP HPR.out HBW.out
      · have HPE := Lib.hid (page_end HL.out (.inl (by omega)))
        have HTO := Lib.hid (toldV_page (headL next) (ord.map (chunkV nds)))
        have hkn2 : ¬ (k : Int) < (on : Int) := by omega
        have HBW := Lib.hid HRw.out.bel
        by_cases hlL : 1048576 < L.length
        · have HPR : Hid (pv = ([], 3)) := Lib.hid (by rw [HX.out, ← HTO.out, HPE.out, if_pos hlL])
          have hlg : (1048576 : Int) < (L.length : Int) := by omega
          go_wp2_with fail
          go_ret2
          exact printP HPR.out HBW.out
        · have HPR : Hid (pv = (L, 0)) := Lib.hid (by rw [HX.out, ← HTO.out, HPE.out, if_neg hlL])
          have hlg : ¬ (1048576 : Int) < (L.length : Int) := by omega
          have hcv := conv_F HRw.out.o
          go_wp2_with ((with_reducible show wpList _ _ _ (Oper.mk _ (Op.convert 40 9 _) _ _ _ _ :: _) _ _); refine wpList_conv9 rfl _ rfl (by go_simp) hcv ?_)
          go_ret2
          exact printP HPR.out HBW.out
end Go.Proofs.YtdeoblhdojbbbaaDoor

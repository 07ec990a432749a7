/-
  WALKS: a model lent, with marks in the room behind its lists.
-/
import Derived.Test.YtfljndlmafcjeaaZ5
import Derived.Deep.RegionLaw
import Derived.Deep.DeepCutAuto
import Derived.Deep.DrawnRows
import Derived.Deep.DeepMust
namespace Go.Proofs.Ytfljndlmafcjeaa
open Go Go.RowKit Go.Sort
set_option linter.unusedVariables false
attribute [local go_sem ↓] Go.wp_at_zero Go.wp_at_succ
theorem propInfo : (Try.prog.info? 46).map (fun i => (i.zero, i.size, i.bytes)) = some (some (.agg #[.string ByteArray.empty, .string ByteArray.empty]), 2, 32) := by kernel_rfl
theorem refInfo : (Try.prog.info? 48).map (fun i => (i.zero, i.size, i.bytes)) = some (some (.agg #[.string ByteArray.empty, .int .i64 0]), 2, 24) := by kernel_rfl
theorem nodeInfo : (Try.prog.info? 44).map (fun i => (i.zero, i.size, i.bytes)) = some (some (.agg #[.int .i64 0, .string ByteArray.empty, .int .i64 0, .string ByteArray.empty, .slice none 0 0, .slice none 0 0, .slice none 0 0]), 7, 120) := by kernel_rfl
def markS : ByteArray := ⟨#[109, 97, 114, 107]⟩
/-- the slice s of n elements holds xs, and behind its end, in its room, the mark -/
def MarkIn (w : World) (B : Nat) (e : TypeId) (size : Nat) (s : Sl) (n : Nat) (xs mark : List Value) : Prop :=
  s.n = n ∧ s.A ≠ none ∧ w.ownsRow B e size (.slice s.A (n + 1) s.c) (n + 1) (xs ++ mark)
theorem MarkIn.after {w w' : World} {B : Nat} {e : TypeId} {size n : Nat} {s : Sl} {xs mark : List Value} (h : MarkIn w B e size s n xs mark) (hb : Below w.heap.size w w') : MarkIn w' B e size s n xs mark := ⟨h.1, h.2.1, own_after h.2.2 hb⟩
theorem MarkIn.other {w : World} {B : Nat} {e : TypeId} {size n : Nat} {s : Sl} {xs mark : List Value} (h : MarkIn w B e size s n xs mark) {g : Nat} {t : TypeId} {cs : Array Value} (hg : Blk w g t cs) (hne : e ≠ t) (i : Nat) (u : Value) : MarkIn (w.setCell ⟨g, i, none⟩ u) B e size s n xs mark := ⟨h.1, h.2.1, own_other h.2.2 hg hne i u⟩
theorem MarkIn.kept {w w' : World} {B : Nat} {e : TypeId} {size n : Nat} {s : Sl} {xs mark : List Value} (h : MarkIn w B e size s n xs mark) {row : Option Nat} (hg : w.grownBy w' row) (hne : Value.ownBlock (.slice s.A (n + 1) s.c) ≠ row) : MarkIn w' B e size s n xs mark := ⟨h.1, h.2.1, World.ownsRow.kept h.2.2 hg (.inr hne)⟩
theorem MarkIn.len {w : World} {B : Nat} {e : TypeId} {size n n' : Nat} {s : Sl} {xs mark : List Value} (h : MarkIn w B e size s n xs mark) (hn : n = n') : MarkIn w B e size s n' xs mark := hn ▸ h
theorem MarkIn.mono {w : World} {B B' : Nat} {e : TypeId} {size n : Nat} {s : Sl} {xs mark : List Value} (h : MarkIn w B e size s n xs mark) (hB : B' ≤ B) : MarkIn w B' e size s n xs mark := ⟨h.1, h.2.1, own_mono h.2.2 hB⟩
theorem MarkIn.ne {w : World} {B : Nat} {e : TypeId} {size n : Nat} {s : Sl} {xs mark : List Value} (h : MarkIn w B e size s n xs mark) {B' : Nat} {e' : TypeId} {size' n' : Nat} {v' : Value} {xs' : List Value} (h' : w.ownsRow B' e' size' v' n' xs') (hne : e ≠ e') : Value.ownBlock (.slice s.A (n + 1) s.c) ≠ v'.ownBlock := by
  rcases own_own_ne h.2.2 h' hne with h0 | h0
  · rcases h.2.2.2 with ⟨_, h1⟩ | ⟨g, cap, cur, hv, _⟩
    · omega
    · rw [hv] at h0; simp [Value.ownBlock] at h0
  · exact h0
structure LentLeaf (w : World) (B : Nat) (nd : Nd) (L : Leaf) : Prop where
  p : MarkIn w B 46 2 L.p nd.props.length (propCells nd.props) [.string markS, .string ⟨#[]⟩]
  k : MarkIn w B 3 1 L.k nd.kids.length (intCells nd.kids) [.int .i64 (-7)]
  r : MarkIn w B 48 2 L.r nd.refs.length (refCells nd.refs) [.string markS, .int .i64 0]
  sz : SzN nd
theorem LentLeaf.after {w w' : World} {B : Nat} {nd : Nd} {L : Leaf} (h : LentLeaf w B nd L) (hb : Below w.heap.size w w') : LentLeaf w' B nd L := ⟨h.p.after hb, h.k.after hb, h.r.after hb, h.sz⟩
theorem LentLeaf.other {w : World} {B : Nat} {nd : Nd} {L : Leaf} (h : LentLeaf w B nd L) {g : Nat} {t : TypeId} {cs : Array Value} (hg : Blk w g t cs) (h1 : 46 ≠ t) (h2 : 3 ≠ t) (h3 : 48 ≠ t) (i : Nat) (u : Value) : LentLeaf (w.setCell ⟨g, i, none⟩ u) B nd L := ⟨h.p.other hg h1 i u, h.k.other hg h2 i u, h.r.other hg h3 i u, h.sz⟩
theorem LentLeaf.kept {w w' : World} {B : Nat} {nd : Nd} {L : Leaf} (h : LentLeaf w B nd L) {B' : Nat} {size' n' : Nat} {v' : Value} {xs' : List Value} (h' : w.ownsRow B' 44 size' v' n' xs') (hg : w.grownBy w' v'.ownBlock) : LentLeaf w' B nd L :=
  ⟨h.p.kept hg (h.p.ne h' (by decide)), h.k.kept hg (h.k.ne h' (by decide)), h.r.kept hg (h.r.ne h' (by decide)), h.sz⟩
/-- what is asked of the world while a region goes on: nothing old has turned, the box reads as it did -/
theorem s3_of {W w' : World} {g i : Nat} {v : Value} (h : Below W.heap.size W w') (hc : W.cell? ⟨g, i, none⟩ = some v) (hf : W.frozen? ⟨g, i, none⟩ = false) (hg : g < W.heap.size) :
    Below W.heap.size W w' ∧ w'.cell? ⟨g, i, none⟩ = some v ∧ w'.frozen? ⟨g, i, none⟩ = false :=
  ⟨h, (h.cell (p := ⟨g, i, none⟩) hg).trans hc, (h.frozen (p := ⟨g, i, none⟩) hg).trans hf⟩
theorem Blk.drew {w : World} {g : Nat} {t : TypeId} {cs : Array Value} (h : Blk w g t cs) : Blk w.drew g t cs := h
theorem below_drew {B : Nat} {a w : World} (h : Below B a w) : Below B a w.drew := ⟨h.os, h.tape, h.output, h.size, h.block⟩
theorem below_more {W w' : World} (h : Below W.heap.size W w') (o : Obj) : Below W.heap.size W (w'.alloc o) := h.alloc h.size o
theorem below_grows {W w' w'' : World} (h : Below W.heap.size W w') {v : Value} (hg : w'.grownBy w'' v.ownBlock) {e : TypeId} {size n B : Nat} {xs : List Value} (hown : w'.ownsRow B e size v n xs) (hB : W.heap.size ≤ B) : Below W.heap.size W w'' :=
  h.grown hg h.size (fun k hk => Nat.le_trans hB (World.ownsRow.lt hown k hk).1)
theorem own_slice {w : World} {base n size : Nat} {e : TypeId} {v : Value} {xs : List Value} (h : w.ownsRow base e size v (n + 1) xs) : ∃ G cap, v = .slice (some ⟨G, 0, none⟩) (n + 1) cap ∧ n + 1 ≤ cap ∧ cap ≤ maxLen := by
  obtain ⟨_, h2⟩ := h
  rcases h2 with ⟨_, h0⟩ | ⟨G, cap, cur, rfl, r1, r2, r3, r4, _⟩
  · omega
  · exact ⟨G, cap, rfl, r3, r4⟩
/-- append to a new, empty slice -/
theorem step_app_new {P : Program} (w : World) {ops : Array Oper} {o : Oper} {a : Act} {K : Act → World → Prop} {Q : Exit → Act → World → Prop} {E : Prop} (hgd : o.guard = none) (s x : Operand) (t : TypeId)
    (ho : o.op = .call { callee := .builtin .append, args := #[s, x], argTypes := #[t, t] })
    (base : Nat) (e : TypeId) (i : TypeInfo) (z : Value) (size bytes : Nat) (ht : P.underlying t = some (.slice e)) (hi : P.info? e = some i) (hz : i.zero = some z)
    (hsize : i.size = size) (hby : i.bytes = bytes) (hzs : z.cells.size = size) (hsz : 0 < size)
    (g : Nat) (hs : a.eval s = .slice (some ⟨g, 0, none⟩) 0 0) (hblk : w.heap[g]? = some (.cells #[] e (0, 0))) (hB : base ≤ g)
    (lo hi' : Nat) (A : Option Addr) (m c : Nat) (news : List Value) (hx : a.eval x = .slice A m c) (hr : Row w lo hi' size A m c news) (h1 : ∀ u ∈ news, u.oneCell' = true)
    (h63 : m ≤ maxLen) (hbytes : m * bytes ≤ 140737488355328) (hbase : base ≤ w.heap.size)
    (h : ∀ v' w', w'.ownsRow base e size v' m news → (∀ W, Below W.heap.size W w → W.heap.size ≤ base → Below W.heap.size W w') → (∀ gm cs, Blk w gm e cs → cs ≠ #[] → Blk w' gm e cs) → K (a.put o.dst v') w') :
    if Region.wanted o (yielded ops a.tmps) = true then Oper.wp P o a w K Q else E := by
  have hown := own_empty (size := size) hblk hB
  refine step_app w hgd s x t ho base e i z size bytes ht hi hz hsize hby hzs hsz _ 0 [] hs hown lo hi' A m c news hx hr h1 (by rw [Nat.zero_add]; exact h63) (by rw [Nat.zero_add]; exact hbytes) hbase ?_
  intro v' w' h2 h3 _
  rw [Nat.zero_add, List.nil_append] at h2
  refine h v' w' h2 (fun W hW hWb => below_grows hW h3 hown hWb) fun gm cs hgm hcs => hgm.grown h3 ?_
  intro he
  injection he with he
  subst he
  unfold Blk at hgm
  rw [hblk] at hgm
  injection hgm with hgm
  injection hgm with hgm
  exact hcs hgm.symm
/-- append of one element from a new block -/
theorem step_app_mark {P : Program} (w : World) {ops : Array Oper} {o : Oper} {a : Act} {K : Act → World → Prop} {Q : Exit → Act → World → Prop} {E : Prop} (hgd : o.guard = none) (s x : Operand) (t : TypeId)
    (ho : o.op = .call { callee := .builtin .append, args := #[s, x], argTypes := #[t, t] })
    (base : Nat) (e : TypeId) (i : TypeInfo) (z : Value) (size bytes : Nat) (ht : P.underlying t = some (.slice e)) (hi : P.info? e = some i) (hz : i.zero = some z)
    (hsize : i.size = size) (hby : i.bytes = bytes) (hzs : z.cells.size = size) (hsz : 0 < size)
    (v : Value) (n : Nat) (xs : List Value) (hs : a.eval s = v) (hown : w.ownsRow base e size v n xs)
    (gm : Nat) (cs : List Value) (hx : a.eval x = .slice (some ⟨gm, 0, none⟩) 1 1) (hblk : Blk w gm e cs.toArray) (hcs : cs.length = size) (h1 : ∀ u ∈ cs, u.oneCell' = true)
    (h63 : n + 1 ≤ maxLen) (hbytes : (n + 1) * bytes ≤ 140737488355328) (hbase : base ≤ w.heap.size)
    (h : ∀ G cap w', w'.ownsRow base e size (.slice (some ⟨G, 0, none⟩) (n + 1) cap) (n + 1) (xs ++ cs) → (∀ W, Below W.heap.size W w → W.heap.size ≤ base → Below W.heap.size W w') → n + 1 ≤ cap → cap ≤ maxLen → w.grownBy w' v.ownBlock → K (a.put o.dst (.slice (some ⟨G, 0, none⟩) (n + 1) cap)) w') :
    if Region.wanted o (yielded ops a.tmps) = true then Oper.wp P o a w K Q else E := by
  have hr : Row w gm (gm + 1) size (some ⟨gm, 0, none⟩) 1 1 cs := by
    have := row_blk (w := w) (size := size) (n := 1) (c := 1) hblk (by simpa using hcs) (Nat.le_refl _) (by unfold maxLen; omega)
    simpa using this
  refine step_app w hgd s x t ho base e i z size bytes ht hi hz hsize hby hzs hsz v n xs hs hown gm (gm + 1) _ 1 1 cs hx hr h1 h63 hbytes hbase ?_
  intro v' w' h2 h3 _
  obtain ⟨h2l, h2'⟩ := h2
  rcases h2' with ⟨_, h0⟩ | ⟨G, cap, cur, rfl, r1, r2, r3, r4, r5, r6⟩
  · omega
  · exact h G cap w' ⟨h2l, .inr ⟨G, cap, cur, rfl, r1, r2, r3, r4, r5, r6⟩⟩ (fun W hW hWb => below_grows hW h3 hown hWb) r3 r4 h3
/-- what a region of lent leaves: the list at the cell i of the box is a lent one -/
structure Lent1 (W : World) (B g i : Nat) (cs : Array Value) (e : TypeId) (size : Nat) (xs mark : List Value) (n : Nat) (s : Sl) (w' : World) : Prop where
  bel : Below g W w'
  box : Blk w' g 44 (cs.setIfInBounds i (.slice s.A s.n s.c))
  mark : MarkIn w' W.heap.size e size s n xs mark
  sz : W.heap.size ≤ w'.heap.size
  keep : ∀ (B' : Nat) (e' : TypeId) (size' n' : Nat) (s' : Sl) (xs' mark' : List Value), e' ≠ 44 → MarkIn W B' e' size' s' n' xs' mark' → MarkIn w' B' e' size' s' n' xs' mark'
theorem lent1_of {W w2 : World} {B g i n cap G : Nat} {cs : Array Value} {e : TypeId} {size : Nat} {xs mark : List Value} (hb : Below W.heap.size W w2) (hbox : Blk W g 44 cs) (hne : e ≠ 44)
    (hown : w2.ownsRow W.heap.size e size (.slice (some ⟨G, 0, none⟩) (n + 1) cap) (n + 1) (xs ++ mark)) :
    Lent1 W B g i cs e size xs mark n ⟨some ⟨G, 0, none⟩, n, cap⟩ (w2.setCell ⟨g, i, none⟩ (.slice (some ⟨G, 0, none⟩) n cap)) := by
  have hbx := hbox.after hb
  exact ⟨(hb.mono (Nat.le_of_lt hbox.lt)).setCell (p := ⟨g, i, none⟩) (Nat.le_refl _) _, hbx.set_ i _, ⟨rfl, by simp, own_other hown hbx hne i _⟩, by have := hb.size; simpa [World.setCell] using this, fun B' e' size' n' s' xs' mark' hne' hm => (hm.after hb).other hbx hne' _ _⟩
/-- what holds in lent, but for the list that grows -/
structure LE (w : World) (next : Int) (A : Option Addr) (n c : Nat) (ov : Value) (l : List (Nd × Leaf)) (wr : World) : Prop where
  md : Blk wr w.heap.size 24 #[.int .i64 next, .slice A n c]
  rs : Blk wr (w.heap.size + 1) 24 #[.int .i64 0, .slice none 0 0]
  out : Blk wr (w.heap.size + 2) 24 #[.int .i64 next, ov]
  leaf : ∀ p ∈ l, LentLeaf wr w.heap.size p.1 p.2
  bel : Below w.heap.size w wr
/-- what holds in the loop of lent -/
structure LW (w : World) (next : Int) (A : Option Addr) (n c : Nat) (ov : Value) (l : List (Nd × Leaf)) (wr : World) : Prop where
  e : LE w next A n c ov l wr
  own : OwnN wr w.heap.size ov l
section
variable {w : World} {next : Int} {A : Option Addr} {n c : Nat} {ov : Value} {l : List (Nd × Leaf)} {X X' : World}
theorem LE.after (h : LE w next A n c ov l X) (hb : Below X.heap.size X X') : LE w next A n c ov l X' :=
  ⟨h.md.after hb, h.rs.after hb, h.out.after hb, fun p hp => (h.leaf p hp).after hb, h.bel.trans (hb.mono h.bel.size)⟩
theorem LW.after (h : LW w next A n c ov l X) (hb : Below X.heap.size X X') : LW w next A n c ov l X' := ⟨h.e.after hb, own_after h.own hb⟩
/-- the list has grown -/
theorem LE.kept (h : LE w next A n c ov l X) (hown : OwnN X w.heap.size ov l) (hg : X.grownBy X' ov.ownBlock) : LE w next A n c ov l X' :=
  ⟨h.md.grown hg (Ne.symm (own_blk_ne hown h.md (by decide))), h.rs.grown hg (Ne.symm (own_blk_ne hown h.rs (by decide))), h.out.grown hg (Ne.symm (own_blk_ne hown h.out (by decide))),
    fun p hp => (h.leaf p hp).kept hown hg, below_grows h.bel hg hown (Nat.le_refl _)⟩
theorem LE.out_set (h : LE w next A n c ov l X) (u : Value) : LE w next A n c u l (X.setCell ⟨w.heap.size + 2, 1, none⟩ u) :=
  ⟨h.md.far (by simp) u, h.rs.far (by simp) u, by simpa using h.out.set_ 1 u,
    fun p hp => (h.leaf p hp).other h.out (by decide) (by decide) (by decide) 1 u, h.bel.setCell (p := ⟨w.heap.size + 2, 1, none⟩) (by simp) u⟩
theorem LW.push {p : Nd × Leaf} {v' : Value} (h : LW w next A n c ov l X) (hg : X.grownBy X' ov.ownBlock) (hown : X'.ownsRow w.heap.size 44 7 v' (l.length + 1) (allCells l ++ ndCells p))
    (hp : LentLeaf X w.heap.size p.1 p.2) : LW w next A n c v' (l ++ [p]) (X'.setCell ⟨w.heap.size + 2, 1, none⟩ v') := by
  have h1 := h.e.kept h.own hg
  have h2 := hp.kept h.own hg
  have h3 := h1.out_set v'
  refine ⟨⟨h3.md, h3.rs, h3.out, fun q hq => ?_, h3.bel⟩, ?_⟩
  · rcases List.mem_append.1 hq with hq | hq
    · exact h3.leaf q hq
    · obtain rfl : q = p := by simpa using hq
      exact h2.other h1.out (by decide) (by decide) (by decide) 1 v'
  · have : OwnN X' w.heap.size v' (l ++ [p]) := by
      unfold OwnN
      have e : allCells (l ++ [p]) = allCells l ++ ndCells p := by simp [allCells]
      rw [e, List.length_append, List.length_singleton]
      exact hown
    exact own_other this h1.out (by decide) 1 v'
end
def markNd : List Value := [.int .i64 (-7), .string ByteArray.empty, .int .i64 0, .string ByteArray.empty, .slice none 0 0, .slice none 0 0, .slice none 0 0]
/-- a model lent: its nodes in own memory, with marks behind each row -/
structure LentAt (w : World) (B : Nat) (A : Option Addr) (n c : Nat) (nds : List Nd) (l : List (Nd × Leaf)) : Prop where
  nds_ : l.map (·.1) = nds
  len : l.length = n
  leaf : ∀ p ∈ l, LentLeaf w B p.1 p.2
  some_ : A ≠ none
  own : w.ownsRow B 44 7 (.slice A (n + 1) c) (n + 1) (allCells l ++ markNd)
  le : n + 1 ≤ c
  max : c ≤ maxLen
/-- what is asked of the world while the last region goes on -/
def S10 (w : World) (next : Int) (A : Option Addr) (n c : Nat) (ov : Value) (l : List (Nd × Leaf)) (w' : World) : Prop :=
  Hid (LE w next A n c ov l w') ∧ w'.cell? ⟨w.heap.size + 1 + 1, 1, none⟩ = some ov ∧ w'.frozen? ⟨w.heap.size + 1 + 1, 1, none⟩ = false ∧ w'.cell? ⟨w.heap.size, 1, none⟩ = some (.slice A n c)
theorem s10_of {w w' : World} {next : Int} {A : Option Addr} {n c : Nat} {ov : Value} {l : List (Nd × Leaf)} (h : LE w next A n c ov l w') :
    Hid (LE w next A n c ov l w') ∧ w'.cell? ⟨w.heap.size + 1 + 1, 1, none⟩ = some ov ∧ w'.frozen? ⟨w.heap.size + 1 + 1, 1, none⟩ = false ∧ w'.cell? ⟨w.heap.size, 1, none⟩ = some (.slice A n c) := by
  have h1 := h.out.cell 1
  have h2 := h.out.frozen 1
  have h3 := h.md.cell 1
  simp at h1 h3
  exact ⟨Lib.hid h, h1, h2, h3⟩
theorem le_start (w : World) (next : Int) (A : Option Addr) (n c : Nat) : LW w next A n c (.slice none 0 0) []
    (((w.alloc (.cells #[.int .i64 next, .slice A n c] 24)).alloc (.cells #[.int .i64 0, .slice none 0 0] 24)).alloc (.cells #[.int .i64 next, .slice none 0 0] 24)) := by
  refine ⟨⟨?_, ?_, ?_, by simp, ?_⟩, ?_⟩
  · exact ((Blk.new w _ _).alloc _).alloc _
  · exact (Blk.new' (by simp)).alloc _
  · exact Blk.new' (by simp)
  · exact below_more (below_more (below_more (Below.refl _ _) _) _) _
  · exact ⟨rfl, .inl ⟨rfl, rfl⟩⟩
theorem lent_end {w X : World} {next : Int} {A : Option Addr} {n c k cap G : Nat} {ov : Value} {l : List (Nd × Leaf)} {nds : List Nd} (hB : LE w next A n c ov l X) (hT : l.map (·.1) = nds) (hl : l.length = k)
    (hO : X.ownsRow w.heap.size 44 7 (.slice (some ⟨G, 0, none⟩) (l.length + 1) cap) (l.length + 1) (allCells l ++ markNd)) (h1 : l.length + 1 ≤ cap) (h2 : cap ≤ maxLen) (v1 v2 v3 : Value) :
    Below w.heap.size w (((X.setCell ⟨w.heap.size + 1 + 1, 1, none⟩ v1).setCell ⟨w.heap.size + 1, 0, none⟩ v2).setCell ⟨w.heap.size + 1, 1, none⟩ v3) ∧
    LentAt (((X.setCell ⟨w.heap.size + 1 + 1, 1, none⟩ v1).setCell ⟨w.heap.size + 1, 0, none⟩ v2).setCell ⟨w.heap.size + 1, 1, none⟩ v3) w.heap.size (some ⟨G, 0, none⟩) k cap nds l := by
  subst hl
  have hE := hB.out_set v1
  have hr1 := hE.rs
  have hr2 := hr1.set_ 0 v2
  have ho1 := own_other hO hB.out (by decide) 1 v1
  have ho2 := own_other ho1 hr1 (by decide) 0 v2
  have ho3 := own_other ho2 hr2 (by decide) 1 v3
  refine ⟨(hE.bel.setCell (p := ⟨w.heap.size + 1, 0, none⟩) (by simp) v2).setCell (p := ⟨w.heap.size + 1, 1, none⟩) (by simp) v3, ⟨hT, rfl, fun p hp => ?_, by simp, ho3, h1, h2⟩⟩
  exact ((hE.leaf p hp).other hr1 (by decide) (by decide) (by decide) 0 v2).other hr2 (by decide) (by decide) (by decide) 1 v3
/-- the lists are no longer than a slice that was read can be -/
structure Fits (j : Nat) (nd : Nd) : Prop where
  p : (nd.props.length + j) * 32 ≤ 140737488355328
  k : (nd.kids.length + j) * 8 ≤ 140737488355328
  r : (nd.refs.length + j) * 24 ≤ 140737488355328
set_option maxRecDepth 100000 in
set_option maxHeartbeats 6400000 in
theorem lent_any (w : World) (hi : Nat) (next : Int) (A : Option Addr) (n c : Nat) (nds : List Nd) (h : NodesIn w 0 hi A n c nds) (hh : hi ≤ w.heap.size) (hn : n ≤ 300) (hf : ∀ nd ∈ nds, Fits 1 nd) :
    Calls Try.prog 5 #[.agg #[.int .i64 next, .slice A n c]] w fun e w' => ∃ A' c' l, e = .returned (.agg #[.int .i64 next, .slice A' n c']) ∧ Below w.heap.size w w' ∧ LentAt w' w.heap.size A' n c' nds l := by
  have hc := h.2.2.1
  have hnc := h.2.1
  have HL := Lib.hid h.1
  unfold maxLen at hc
  go_enter Try.func5, Try.ntmps5
  go_wp2_with fail
  go_loopg [4] n (fun gk i wr => ∃ (k : Nat) (ov : Value) (l : List (Nd × Leaf)), k ≤ n ∧ Hid (gk = n - k) ∧ i = .int .i64 k ∧ LW w next A n c ov l wr ∧ Hid (l.map (·.1) = nds.take k))
  case atStart =>
    exact ⟨0, _, [], Nat.zero_le _, Lib.hid rfl, rfl, le_start w next A n c, Lib.hid rfl⟩
  case round =>
    obtain ⟨k, ov, l, hk, HG, rfl, W, HT⟩ := hrel
    have c1 := W.e.md.cell 1
    have o1 := W.e.out.cell 1
    simp at c1 o1
    have HW := Lib.hid W
    have hbel := W.e.bel
    clear W
    by_cases hlt : k < n
    · obtain ⟨b, o, hA, _, hb, V, hV⟩ := h.all (by omega)
      obtain ⟨nd, hnd⟩ : ∃ nd, nds[k]? = some nd := ⟨nds[k]'(by have := HL.out; omega), List.getElem?_eq_getElem _⟩
      have hat := (hV k nd hnd).1.below hbel (by omega)
      have hlf := (hV k nd hnd).2
      have hfi := hf nd (List.mem_of_getElem? hnd)
      generalize V k = Lk at hat hlf
      obtain ⟨⟨Ap, np, cp⟩, ⟨Ak, nk, ck⟩, ⟨Ar, nr, cr⟩⟩ := Lk
      subst hA
      obtain ⟨a0, a1, a2, a3, a4, a5, a6⟩ := hat
      obtain ⟨f1, f2, f3, f4, f5, f6, f7⟩ := hlf
      simp only at a4 a5 a6 f1 f2 f3 f4 f5 f6
      have HRp := Lib.hid f4
      have HRk := Lib.hid f5
      have HRr := Lib.hid f6
      have hFp := hfi.p
      have hFk := hfi.k
      have hFr := hfi.r
      rw [← f1] at hFp
      rw [← f2] at hFk
      rw [← f3] at hFr
      have HFitp : Hid (np + 1 ≤ maxLen ∧ (np + 1) * 32 ≤ 140737488355328) := Lib.hid ⟨by unfold maxLen; omega, hFp⟩
      have HFitk : Hid (nk + 1 ≤ maxLen ∧ (nk + 1) * 8 ≤ 140737488355328) := Lib.hid ⟨by unfold maxLen; omega, hFk⟩
      have HFitr : Hid (nr + 1 ≤ maxLen ∧ (nr + 1) * 24 ≤ 140737488355328) := Lib.hid ⟨by unfold maxLen; omega, hFr⟩
      have np1 := f4.2.1
      have np2 := f4.2.2.1
      have nk1 := f5.2.1
      have nk2 := f5.2.2.1
      have nr1 := f6.2.1
      have nr2 := f6.2.2.1
      have HN1 := Lib.hid f1
      have HN2 := Lib.hid f2
      have HN3 := Lib.hid f3
      have HSZN := Lib.hid f7
      have HND := Lib.hid hnd
      have hbr : b < wr.heap.size := by have := hbel.size; omega
      have hwz := hbel.size
      clear hV hnd hFp hFk hFr hfi f1 f2 f3 f4 f5 f6 f7
      have hBx0 := Blk.new wr 44 #[.int .i64 nd.id, .string nd.con, .int .i64 nd.par, .string nd.role, .slice Ap np cp, .slice Ak nk ck, .slice Ar nr cr]
      have hBw0 := hbel.alloc hwz (.cells #[.int .i64 nd.id, .string nd.con, .int .i64 nd.par, .string nd.role, .slice Ap np cp, .slice Ak nk ck, .slice Ar nr cr] 44)
      have HHI0 : hi ≤ (wr.alloc (.cells #[.int .i64 nd.id, .string nd.con, .int .i64 nd.par, .string nd.role, .slice Ap np cp, .slice Ak nk ck, .slice Ar nr cr] 44)).heap.size := by simp; omega
      have hBx := Lib.hid hBx0
      have HBW2 := Lib.hid hBw0
      have HHI := Lib.hid HHI0
      clear hBx0 hBw0 HHI0
      go_upto_region 6 with (fail)
      obtain ⟨g5, hg5⟩ : ∃ g5, g5 = wr.heap.size := ⟨_, rfl⟩
      rw [← hg5] at hBx ⊢
      have HG5 := Lib.hid hg5
      clear hg5
      have HBR0 : Below g5 wr (wr.alloc (.cells #[.int .i64 nd.id, .string nd.con, .int .i64 nd.par, .string nd.role, .slice Ap np cp, .slice Ak nk ck, .slice Ar nr cr] 44)) := by rw [HG5.out]; exact (Below.refl _ _).alloc (Nat.le_refl _) _
      have HBR := Lib.hid HBR0
      have hwg : w.heap.size ≤ g5 := by rw [HG5.out]; exact hbel.size
      clear HBR0
      generalize wr.alloc (.cells #[.int .i64 nd.id, .string nd.con, .int .i64 nd.par, .string nd.role, .slice Ap np cp, .slice Ak nk ck, .slice Ar nr cr] 44) = W2 at hBx HBW2 HHI HBR ⊢
      go_cut [5] (fun s5 wx => s5 = .pointer (some ⟨g5, 0, none⟩) ∧ ∃ s : Sl, Hid (Lent1 W2 W2.heap.size g5 4 #[.int .i64 nd.id, .string nd.con, .int .i64 nd.par, .string nd.role, .slice Ap np cp, .slice Ak nk ck, .slice Ar nr cr] 46 2 (propCells nd.props) [.string markS, .string ⟨#[]⟩] np s wx))
      case first =>
        obtain ⟨i0, hi0, hz0, hz1, hz2⟩ := info_parts propInfo
        have hcb := (hBx.out).cell 4
        have hfb := (hBx.out).frozen 4
        have hlt5 := (hBx.out).lt
        simp at hcb
        have HCB := Lib.hid hcb
        have HFB := Lib.hid hfb
        have hrow : ∀ w', (Below W2.heap.size W2 w' ∧ w'.cell? ⟨g5, 4, none⟩ = some (.slice Ap np cp) ∧ w'.frozen? ⟨g5, 4, none⟩ = false) → Row w' 0 hi 2 Ap np cp (propCells nd.props) := fun w' hb' => HRp.out.below ((HBW2.out.mono hh).trans (hb'.1.mono HHI.out))
        have HROW := Lib.hid hrow
        have hbnd : np + 1 ≤ maxLen ∧ (np + 1) * 32 ≤ 140737488355328 := HFitp.out
        have HBND := Lib.hid hbnd
        clear hcb hfb hrow hbnd
        have HSZ : ∀ w', (Below W2.heap.size W2 w' ∧ w'.cell? ⟨g5, 4, none⟩ = some (.slice Ap np cp) ∧ w'.frozen? ⟨g5, 4, none⟩ = false) → W2.heap.size ≤ w'.heap.size := fun _ h => h.1.size
        refine wp_region_held_tail 10 (fun w' => Below W2.heap.size W2 w' ∧ w'.cell? ⟨g5, 4, none⟩ = some (.slice Ap np cp) ∧ w'.frozen? ⟨g5, 4, none⟩ = false) (by kernel_rfl) (by kernel_rfl) ?hS4 (fun hHeld => ?q40)
        case hS4 => exact s3_of (below_drew (Below.refl _ _)) HCB.out HFB.out hlt5
        case q40 =>
          simp only [List.take_succ_cons, List.take_zero, List.drop_succ_cons, List.drop_zero]
          refine wpAnyH_take (i := 1) (v := (.pointer (some ⟨g5, 4, none⟩))) rfl (by kernel_rfl) (by kernel_rfl) (by kernel_rfl) (fun _ _ _ h => h) (Or.inl ⟨by rfl, ?y4_1⟩) (by assumption) ?q4_1
          case y4_1 => (intro w hSw; (try dsimp only at hSw); go_simp)
          case q4_1 =>
            (try simp only [Act.put]); (try simp only [List.setIfInBounds_toArray])
            refine wpAnyH_take (i := 2) (v := (.slice Ap np cp)) rfl (by kernel_rfl) (by kernel_rfl) (by kernel_rfl) (fun _ _ _ h => h) (Or.inl ⟨by rfl, ?y4_2⟩) (by assumption) ?q4_2
            case y4_2 => (intro w hSw; (try dsimp only at hSw); go_simp)
            case q4_2 =>
              (try simp only [Act.put]); (try simp only [List.setIfInBounds_toArray])
              refine wpAnyH_take (i := 4) (v := ?v4_3) rfl (by kernel_rfl) (by kernel_rfl) (by kernel_rfl) (fun _ _ _ h => h) (Or.inl ⟨by rfl, ?y4_3⟩) (by assumption) ?q4_3
              case y4_3 => (intro w hSw; (try dsimp only at hSw); go_simp <;> with_reducible rfl)
              case q4_3 =>
                (try simp only [Act.put]); (try simp only [List.setIfInBounds_toArray])
                refine wpAnyH_take (i := 7) (v := (.pointer (some ⟨g5, 4, none⟩))) rfl (by kernel_rfl) (by kernel_rfl) (by kernel_rfl) (fun _ _ _ h => h) (Or.inl ⟨by rfl, ?y4_4⟩) (by assumption) ?q4_4
                case y4_4 => (intro w hSw; (try dsimp only at hSw); go_simp)
                case q4_4 =>
                  (try simp only [Act.put]); (try simp only [List.setIfInBounds_toArray])
                  refine wpAnyH_take (i := 8) (v := (.slice Ap np cp)) rfl (by kernel_rfl) (by kernel_rfl) (by kernel_rfl) (fun _ _ _ h => h) (Or.inl ⟨by rfl, ?y4_5⟩) (by assumption) ?q4_5
                  case y4_5 => (intro w hSw; (try dsimp only at hSw); go_simp)
                  case q4_5 =>
                    (try simp only [Act.put]); (try simp only [List.setIfInBounds_toArray])
                    refine wpAnyH_take (i := 9) (v := (.int .i64 np)) rfl (by kernel_rfl) (by kernel_rfl) (by kernel_rfl) (fun _ _ _ h => h) (Or.inl ⟨by rfl, ?y4_6⟩) (by assumption) ?q4_6
                    case y4_6 => (intro w hSw; (try dsimp only at hSw); go_simp)
                    case q4_6 =>
                      (try simp only [Act.put]); (try simp only [List.setIfInBounds_toArray])
                      refine wpAnyH_ready (rs := [0, 5]) (by kernel_rfl) (by simp) ?_
                      refine AllReadyH.cons rfl (fun K hK => ?s4_7) ?m4_7
                      case s4_7 =>
                        go_simp
                        refine hK.out _ _ ?k4_7 (fun hHeld => ?q4_7)
                        case k4_7 => ((try dsimp only); first | exact s3_of (by (repeat (first | assumption | exact Below.refl _ _ | refine below_drew ?_ | refine below_more ?_ _ | refine hb2 _ ?_ (Nat.le_refl _) | refine hb1 _ ?_ (Nat.le_refl _)))) HCB.out HFB.out hlt5 | assumption)
                        case q4_7 =>
                          clear hK K
                          (try simp only [Act.put]); (try simp only [List.setIfInBounds_toArray])
                          refine wpAnyH_ready (rs := [3, 5]) (by kernel_rfl) (by simp) ?_
                          refine AllReadyH.cons rfl (fun K hK => ?s4_8) ?m4_8
                          case s4_8 =>
                            (refine step_app_new _ (by rfl) (.tmp 21) (.tmp 23) _ (by rfl) W2.heap.size 46 i0 _ 2 32 Try.underlying40 hi0 hz0 hz1 hz2 rfl (by omega) _ (by rfl) (by (repeat (first | exact Blk.new' (by simp) | exact Blk.new' (by simp [World.drew, World.drewN]) | refine Blk.drew ?_ | refine Blk.alloc ?_ _))) (by first | exact Nat.le_refl _ | exact Nat.le_succ _ | exact HSZ _ (by assumption)) 0 hi Ap np cp (propCells nd.props) (by rfl) (HROW.out _ (by assumption)) (propCells_one _) (Nat.le_of_succ_le HBND.out.1) (by have := HBND.out.2; omega) (HSZ _ (by assumption)) ?_; intro v1 w1 hown1 hb1 hk1)
                            refine hK.out _ _ ?k4_8 (fun hHeld => ?q4_8)
                            case k4_8 => ((try dsimp only); first | exact s3_of (by (repeat (first | assumption | exact Below.refl _ _ | refine below_drew ?_ | refine below_more ?_ _ | refine hb2 _ ?_ (Nat.le_refl _) | refine hb1 _ ?_ (Nat.le_refl _)))) HCB.out HFB.out hlt5 | assumption)
                            case q4_8 =>
                              clear hK K
                              (try simp only [Act.put]); (try simp only [List.setIfInBounds_toArray])
                              refine wpAnyH_ready (rs := [5]) (by kernel_rfl) (by simp) ?_
                              refine AllReadyH.cons rfl (fun K hK => ?s4_9) ?m4_9
                              case s4_9 =>
                                go_simp
                                refine hK.out _ _ ?k4_9 (fun hHeld => ?q4_9)
                                case k4_9 => ((try dsimp only); first | exact s3_of (by (repeat (first | assumption | exact Below.refl _ _ | refine below_drew ?_ | refine below_more ?_ _ | refine hb2 _ ?_ (Nat.le_refl _) | refine hb1 _ ?_ (Nat.le_refl _)))) HCB.out HFB.out hlt5 | assumption)
                                case q4_9 =>
                                  clear hK K
                                  (try simp only [Act.put]); (try simp only [List.setIfInBounds_toArray])
                                  refine wpAnyH_ready (rs := [6]) (by kernel_rfl) (by simp) ?_
                                  refine AllReadyH.cons rfl (fun K hK => ?s4_10) ?m4_10
                                  case s4_10 =>
                                    (refine step_app_mark _ (by rfl) (.tmp 24) (.tmp 26) _ (by rfl) W2.heap.size 46 i0 _ 2 32 Try.underlying40 hi0 hz0 hz1 hz2 rfl (by omega) _ np (propCells nd.props) (by rfl) (own_after hown1 (below_more (Below.refl _ _) _)) _ [.string markS, .string ⟨#[]⟩] (by rfl) (Blk.new' rfl) rfl (by simp [Value.oneCell']) HBND.out.1 HBND.out.2 (HSZ _ (by assumption)) ?_; intro G1 cap1 w2 hown2 hb2 hca1 hca2 hgr2)
                                    refine hK.out _ _ ?k4_10 (fun hHeld => ?q4_10)
                                    case k4_10 => ((try dsimp only); first | exact s3_of (by (repeat (first | assumption | exact Below.refl _ _ | refine below_drew ?_ | refine below_more ?_ _ | refine hb2 _ ?_ (Nat.le_refl _) | refine hb1 _ ?_ (Nat.le_refl _)))) HCB.out HFB.out hlt5 | assumption)
                                    case q4_10 =>
                                      clear hK K
                                      (try simp only [Act.put]); (try simp only [List.setIfInBounds_toArray])
                                      refine wpAnyH_done (by kernel_rfl) ?_ _
                                      change wpList _ _ _ _ _ w2
                                      obtain ⟨hB1, hB2, hB3⟩ := hHeld
                                      have hcz : np ≤ cap1 := by omega
                                      go_wp2_with fail
                                      go_meet
                                      exact ⟨rfl, ⟨some ⟨G1, 0, none⟩, np, cap1⟩, Lib.hid (lent1_of hB1 hBx.out (by decide) hown2)⟩
                                  case m4_10 =>
                                    exact AllReadyH.nil
                              case m4_9 =>
                                exact AllReadyH.nil
                          case m4_8 =>
                            refine AllReadyH.cons rfl (fun K hK => ?s4_11) ?m4_11
                            case s4_11 =>
                              go_simp
                              refine hK.out _ _ ?k4_11 (fun hHeld => ?q4_11)
                              case k4_11 => ((try dsimp only); first | exact s3_of (by (repeat (first | assumption | exact Below.refl _ _ | refine below_drew ?_ | refine below_more ?_ _ | refine hb2 _ ?_ (Nat.le_refl _) | refine hb1 _ ?_ (Nat.le_refl _)))) HCB.out HFB.out hlt5 | assumption)
                              case q4_11 =>
                                clear hK K
                                (try simp only [Act.put]); (try simp only [List.setIfInBounds_toArray])
                                refine wpAnyH_ready (rs := [3]) (by kernel_rfl) (by simp) ?_
                                refine AllReadyH.cons rfl (fun K hK => ?s4_12) ?m4_12
                                case s4_12 =>
                                  (refine step_app_new _ (by rfl) (.tmp 21) (.tmp 23) _ (by rfl) W2.heap.size 46 i0 _ 2 32 Try.underlying40 hi0 hz0 hz1 hz2 rfl (by omega) _ (by rfl) (by (repeat (first | exact Blk.new' (by simp) | exact Blk.new' (by simp [World.drew, World.drewN]) | refine Blk.drew ?_ | refine Blk.alloc ?_ _))) (by first | exact Nat.le_refl _ | exact Nat.le_succ _ | exact HSZ _ (by assumption)) 0 hi Ap np cp (propCells nd.props) (by rfl) (HROW.out _ (by assumption)) (propCells_one _) (Nat.le_of_succ_le HBND.out.1) (by have := HBND.out.2; omega) (HSZ _ (by assumption)) ?_; intro v1 w1 hown1 hb1 hk1)
                                  refine hK.out _ _ ?k4_12 (fun hHeld => ?q4_12)
                                  case k4_12 => ((try dsimp only); first | exact s3_of (by (repeat (first | assumption | exact Below.refl _ _ | refine below_drew ?_ | refine below_more ?_ _ | refine hb2 _ ?_ (Nat.le_refl _) | refine hb1 _ ?_ (Nat.le_refl _)))) HCB.out HFB.out hlt5 | assumption)
                                  case q4_12 =>
                                    clear hK K
                                    (try simp only [Act.put]); (try simp only [List.setIfInBounds_toArray])
                                    refine wpAnyH_ready (rs := [6]) (by kernel_rfl) (by simp) ?_
                                    refine AllReadyH.cons rfl (fun K hK => ?s4_13) ?m4_13
                                    case s4_13 =>
                                      (refine step_app_mark _ (by rfl) (.tmp 24) (.tmp 26) _ (by rfl) W2.heap.size 46 i0 _ 2 32 Try.underlying40 hi0 hz0 hz1 hz2 rfl (by omega) _ np (propCells nd.props) (by rfl) hown1 _ [.string markS, .string ⟨#[]⟩] (by rfl) (hk1 _ _ (Blk.drew (Blk.new' (by simp))) (by simp)) rfl (by simp [Value.oneCell']) HBND.out.1 HBND.out.2 (HSZ _ (by assumption)) ?_; intro G1 cap1 w2 hown2 hb2 hca1 hca2 hgr2)
                                      refine hK.out _ _ ?k4_13 (fun hHeld => ?q4_13)
                                      case k4_13 => ((try dsimp only); first | exact s3_of (by (repeat (first | assumption | exact Below.refl _ _ | refine below_drew ?_ | refine below_more ?_ _ | refine hb2 _ ?_ (Nat.le_refl _) | refine hb1 _ ?_ (Nat.le_refl _)))) HCB.out HFB.out hlt5 | assumption)
                                      case q4_13 =>
                                        clear hK K
                                        (try simp only [Act.put]); (try simp only [List.setIfInBounds_toArray])
                                        refine wpAnyH_done (by kernel_rfl) ?_ _
                                        change wpList _ _ _ _ _ w2
                                        obtain ⟨hB1, hB2, hB3⟩ := hHeld
                                        have hcz : np ≤ cap1 := by omega
                                        go_wp2_with fail
                                        go_meet
                                        exact ⟨rfl, ⟨some ⟨G1, 0, none⟩, np, cap1⟩, Lib.hid (lent1_of hB1 hBx.out (by decide) hown2)⟩
                                    case m4_13 =>
                                      exact AllReadyH.nil
                                case m4_12 =>
                                  exact AllReadyH.nil
                            case m4_11 =>
                              exact AllReadyH.nil
                      case m4_7 =>
                        refine AllReadyH.cons rfl (fun K hK => ?s4_14) ?m4_14
                        case s4_14 =>
                          go_simp
                          refine hK.out _ _ ?k4_14 (fun hHeld => ?q4_14)
                          case k4_14 => ((try dsimp only); first | exact s3_of (by (repeat (first | assumption | exact Below.refl _ _ | refine below_drew ?_ | refine below_more ?_ _ | refine hb2 _ ?_ (Nat.le_refl _) | refine hb1 _ ?_ (Nat.le_refl _)))) HCB.out HFB.out hlt5 | assumption)
                          case q4_14 =>
                            clear hK K
                            (try simp only [Act.put]); (try simp only [List.setIfInBounds_toArray])
                            refine wpAnyH_ready (rs := [0]) (by kernel_rfl) (by simp) ?_
                            refine AllReadyH.cons rfl (fun K hK => ?s4_15) ?m4_15
                            case s4_15 =>
                              go_simp
                              refine hK.out _ _ ?k4_15 (fun hHeld => ?q4_15)
                              case k4_15 => ((try dsimp only); first | exact s3_of (by (repeat (first | assumption | exact Below.refl _ _ | refine below_drew ?_ | refine below_more ?_ _ | refine hb2 _ ?_ (Nat.le_refl _) | refine hb1 _ ?_ (Nat.le_refl _)))) HCB.out HFB.out hlt5 | assumption)
                              case q4_15 =>
                                clear hK K
                                (try simp only [Act.put]); (try simp only [List.setIfInBounds_toArray])
                                refine wpAnyH_ready (rs := [3]) (by kernel_rfl) (by simp) ?_
                                refine AllReadyH.cons rfl (fun K hK => ?s4_16) ?m4_16
                                case s4_16 =>
                                  (refine step_app_new _ (by rfl) (.tmp 21) (.tmp 23) _ (by rfl) W2.heap.size 46 i0 _ 2 32 Try.underlying40 hi0 hz0 hz1 hz2 rfl (by omega) _ (by rfl) (by (repeat (first | exact Blk.new' (by simp) | exact Blk.new' (by simp [World.drew, World.drewN]) | refine Blk.drew ?_ | refine Blk.alloc ?_ _))) (by first | exact Nat.le_refl _ | exact Nat.le_succ _ | exact HSZ _ (by assumption)) 0 hi Ap np cp (propCells nd.props) (by rfl) (HROW.out _ (by assumption)) (propCells_one _) (Nat.le_of_succ_le HBND.out.1) (by have := HBND.out.2; omega) (HSZ _ (by assumption)) ?_; intro v1 w1 hown1 hb1 hk1)
                                  refine hK.out _ _ ?k4_16 (fun hHeld => ?q4_16)
                                  case k4_16 => ((try dsimp only); first | exact s3_of (by (repeat (first | assumption | exact Below.refl _ _ | refine below_drew ?_ | refine below_more ?_ _ | refine hb2 _ ?_ (Nat.le_refl _) | refine hb1 _ ?_ (Nat.le_refl _)))) HCB.out HFB.out hlt5 | assumption)
                                  case q4_16 =>
                                    clear hK K
                                    (try simp only [Act.put]); (try simp only [List.setIfInBounds_toArray])
                                    refine wpAnyH_ready (rs := [6]) (by kernel_rfl) (by simp) ?_
                                    refine AllReadyH.cons rfl (fun K hK => ?s4_17) ?m4_17
                                    case s4_17 =>
                                      (refine step_app_mark _ (by rfl) (.tmp 24) (.tmp 26) _ (by rfl) W2.heap.size 46 i0 _ 2 32 Try.underlying40 hi0 hz0 hz1 hz2 rfl (by omega) _ np (propCells nd.props) (by rfl) hown1 _ [.string markS, .string ⟨#[]⟩] (by rfl) (hk1 _ _ (Blk.drew ((Blk.new' rfl).alloc _)) (by simp)) rfl (by simp [Value.oneCell']) HBND.out.1 HBND.out.2 (HSZ _ (by assumption)) ?_; intro G1 cap1 w2 hown2 hb2 hca1 hca2 hgr2)
                                      refine hK.out _ _ ?k4_17 (fun hHeld => ?q4_17)
                                      case k4_17 => ((try dsimp only); first | exact s3_of (by (repeat (first | assumption | exact Below.refl _ _ | refine below_drew ?_ | refine below_more ?_ _ | refine hb2 _ ?_ (Nat.le_refl _) | refine hb1 _ ?_ (Nat.le_refl _)))) HCB.out HFB.out hlt5 | assumption)
                                      case q4_17 =>
                                        clear hK K
                                        (try simp only [Act.put]); (try simp only [List.setIfInBounds_toArray])
                                        refine wpAnyH_done (by kernel_rfl) ?_ _
                                        change wpList _ _ _ _ _ w2
                                        obtain ⟨hB1, hB2, hB3⟩ := hHeld
                                        have hcz : np ≤ cap1 := by omega
                                        go_wp2_with fail
                                        go_meet
                                        exact ⟨rfl, ⟨some ⟨G1, 0, none⟩, np, cap1⟩, Lib.hid (lent1_of hB1 hBx.out (by decide) hown2)⟩
                                    case m4_17 =>
                                      exact AllReadyH.nil
                                case m4_16 =>
                                  exact AllReadyH.nil
                            case m4_15 =>
                              exact AllReadyH.nil
                        case m4_14 =>
                          exact AllReadyH.nil
      case rest =>
        rename World => X4
        obtain ⟨rfl, ⟨sa4, n4, sc4⟩, hL⟩ := hcut
        have hLo := hL.out
        have hnn : n4 = np := hLo.mark.1
        subst hnn
        have hB' : Blk X4 g5 44 #[.int .i64 nd.id, .string nd.con, .int .i64 nd.par, .string nd.role, .slice sa4 n4 sc4, .slice Ak nk ck, .slice Ar nr cr] := by have := hLo.box; simpa using this
        replace hBx := Lib.hid hB'
        have M4 := Lib.hid (hLo.mark.mono HBW2.out.size)
        replace HBW2 := Lib.hid (HBW2.out.trans (hLo.bel.mono hwg))
        replace HHI := Lib.hid (Nat.le_trans HHI.out hLo.sz)
        replace HBR := Lib.hid (HBR.out.trans hLo.bel)
        clear hL hLo hB'
        go_upto_region 7 with (fail)
        go_cut [5] (fun s5 wx => s5 = .pointer (some ⟨g5, 0, none⟩) ∧ ∃ s : Sl, Hid (Lent1 X4 X4.heap.size g5 5 #[.int .i64 nd.id, .string nd.con, .int .i64 nd.par, .string nd.role, .slice sa4 n4 sc4, .slice Ak nk ck, .slice Ar nr cr] 3 1 (intCells nd.kids) [.int .i64 (-7)] nk s wx))
        case first =>
          obtain ⟨i0, hi0, hz0, hz1, hz2⟩ := info_parts intInfo
          have hcb := (hBx.out).cell 5
          have hfb := (hBx.out).frozen 5
          have hlt5 := (hBx.out).lt
          simp at hcb
          have HCB := Lib.hid hcb
          have HFB := Lib.hid hfb
          have hrow : ∀ w', (Below X4.heap.size X4 w' ∧ w'.cell? ⟨g5, 5, none⟩ = some (.slice Ak nk ck) ∧ w'.frozen? ⟨g5, 5, none⟩ = false) → Row w' 0 hi 1 Ak nk ck (intCells nd.kids) := fun w' hb' => HRk.out.below ((HBW2.out.mono hh).trans (hb'.1.mono HHI.out))
          have HROW := Lib.hid hrow
          have hbnd : nk + 1 ≤ maxLen ∧ (nk + 1) * 8 ≤ 140737488355328 := HFitk.out
          have HBND := Lib.hid hbnd
          clear hcb hfb hrow hbnd
          have HSZ : ∀ w', (Below X4.heap.size X4 w' ∧ w'.cell? ⟨g5, 5, none⟩ = some (.slice Ak nk ck) ∧ w'.frozen? ⟨g5, 5, none⟩ = false) → X4.heap.size ≤ w'.heap.size := fun _ h => h.1.size
          refine wp_region_held_tail 9 (fun w' => Below X4.heap.size X4 w' ∧ w'.cell? ⟨g5, 5, none⟩ = some (.slice Ak nk ck) ∧ w'.frozen? ⟨g5, 5, none⟩ = false) (by kernel_rfl) (by kernel_rfl) ?hS5 (fun hHeld => ?q50)
          case hS5 => exact s3_of (below_drew (Below.refl _ _)) HCB.out HFB.out hlt5
          case q50 =>
            simp only [List.take_succ_cons, List.take_zero, List.drop_succ_cons, List.drop_zero]
            refine wpAnyH_take (i := 1) (v := (.pointer (some ⟨g5, 5, none⟩))) rfl (by kernel_rfl) (by kernel_rfl) (by kernel_rfl) (fun _ _ _ h => h) (Or.inl ⟨by rfl, ?y5_1⟩) (by assumption) ?q5_1
            case y5_1 => (intro w hSw; (try dsimp only at hSw); go_simp)
            case q5_1 =>
              (try simp only [Act.put]); (try simp only [List.setIfInBounds_toArray])
              refine wpAnyH_take (i := 2) (v := (.slice Ak nk ck)) rfl (by kernel_rfl) (by kernel_rfl) (by kernel_rfl) (fun _ _ _ h => h) (Or.inl ⟨by rfl, ?y5_2⟩) (by assumption) ?q5_2
              case y5_2 => (intro w hSw; (try dsimp only at hSw); go_simp)
              case q5_2 =>
                (try simp only [Act.put]); (try simp only [List.setIfInBounds_toArray])
                refine wpAnyH_take (i := 6) (v := (.pointer (some ⟨g5, 5, none⟩))) rfl (by kernel_rfl) (by kernel_rfl) (by kernel_rfl) (fun _ _ _ h => h) (Or.inl ⟨by rfl, ?y5_3⟩) (by assumption) ?q5_3
                case y5_3 => (intro w hSw; (try dsimp only at hSw); go_simp)
                case q5_3 =>
                  (try simp only [Act.put]); (try simp only [List.setIfInBounds_toArray])
                  refine wpAnyH_take (i := 7) (v := (.slice Ak nk ck)) rfl (by kernel_rfl) (by kernel_rfl) (by kernel_rfl) (fun _ _ _ h => h) (Or.inl ⟨by rfl, ?y5_4⟩) (by assumption) ?q5_4
                  case y5_4 => (intro w hSw; (try dsimp only at hSw); go_simp)
                  case q5_4 =>
                    (try simp only [Act.put]); (try simp only [List.setIfInBounds_toArray])
                    refine wpAnyH_take (i := 8) (v := (.int .i64 nk)) rfl (by kernel_rfl) (by kernel_rfl) (by kernel_rfl) (fun _ _ _ h => h) (Or.inl ⟨by rfl, ?y5_5⟩) (by assumption) ?q5_5
                    case y5_5 => (intro w hSw; (try dsimp only at hSw); go_simp)
                    case q5_5 =>
                      (try simp only [Act.put]); (try simp only [List.setIfInBounds_toArray])
                      refine wpAnyH_ready (rs := [0, 4]) (by kernel_rfl) (by simp) ?_
                      refine AllReadyH.cons rfl (fun K hK => ?s5_6) ?m5_6
                      case s5_6 =>
                        go_simp
                        refine hK.out _ _ ?k5_6 (fun hHeld => ?q5_6)
                        case k5_6 => ((try dsimp only); first | exact s3_of (by (repeat (first | assumption | exact Below.refl _ _ | refine below_drew ?_ | refine below_more ?_ _ | refine hb2 _ ?_ (Nat.le_refl _) | refine hb1 _ ?_ (Nat.le_refl _)))) HCB.out HFB.out hlt5 | assumption)
                        case q5_6 =>
                          clear hK K
                          (try simp only [Act.put]); (try simp only [List.setIfInBounds_toArray])
                          refine wpAnyH_ready (rs := [3, 4]) (by kernel_rfl) (by simp) ?_
                          refine AllReadyH.cons rfl (fun K hK => ?s5_7) ?m5_7
                          case s5_7 =>
                            (refine step_app_new _ (by rfl) (.tmp 33) (.tmp 35) _ (by rfl) X4.heap.size 3 i0 _ 1 8 Try.underlying41 hi0 hz0 hz1 hz2 rfl (by omega) _ (by rfl) (by (repeat (first | exact Blk.new' (by simp) | exact Blk.new' (by simp [World.drew, World.drewN]) | refine Blk.drew ?_ | refine Blk.alloc ?_ _))) (by first | exact Nat.le_refl _ | exact Nat.le_succ _ | exact HSZ _ (by assumption)) 0 hi Ak nk ck (intCells nd.kids) (by rfl) (HROW.out _ (by assumption)) (intCells_one _) (Nat.le_of_succ_le HBND.out.1) (by have := HBND.out.2; omega) (HSZ _ (by assumption)) ?_; intro v1 w1 hown1 hb1 hk1)
                            refine hK.out _ _ ?k5_7 (fun hHeld => ?q5_7)
                            case k5_7 => ((try dsimp only); first | exact s3_of (by (repeat (first | assumption | exact Below.refl _ _ | refine below_drew ?_ | refine below_more ?_ _ | refine hb2 _ ?_ (Nat.le_refl _) | refine hb1 _ ?_ (Nat.le_refl _)))) HCB.out HFB.out hlt5 | assumption)
                            case q5_7 =>
                              clear hK K
                              (try simp only [Act.put]); (try simp only [List.setIfInBounds_toArray])
                              refine wpAnyH_ready (rs := [4]) (by kernel_rfl) (by simp) ?_
                              refine AllReadyH.cons rfl (fun K hK => ?s5_8) ?m5_8
                              case s5_8 =>
                                go_simp
                                refine hK.out _ _ ?k5_8 (fun hHeld => ?q5_8)
                                case k5_8 => ((try dsimp only); first | exact s3_of (by (repeat (first | assumption | exact Below.refl _ _ | refine below_drew ?_ | refine below_more ?_ _ | refine hb2 _ ?_ (Nat.le_refl _) | refine hb1 _ ?_ (Nat.le_refl _)))) HCB.out HFB.out hlt5 | assumption)
                                case q5_8 =>
                                  clear hK K
                                  (try simp only [Act.put]); (try simp only [List.setIfInBounds_toArray])
                                  refine wpAnyH_ready (rs := [5]) (by kernel_rfl) (by simp) ?_
                                  refine AllReadyH.cons rfl (fun K hK => ?s5_9) ?m5_9
                                  case s5_9 =>
                                    (refine step_app_mark _ (by rfl) (.tmp 36) (.tmp 37) _ (by rfl) X4.heap.size 3 i0 _ 1 8 Try.underlying41 hi0 hz0 hz1 hz2 rfl (by omega) _ nk (intCells nd.kids) (by rfl) (own_after hown1 (below_more (Below.refl _ _) _)) _ [.int .i64 (-7)] (by rfl) (Blk.new' rfl) rfl (by simp [Value.oneCell']) HBND.out.1 HBND.out.2 (HSZ _ (by assumption)) ?_; intro G1 cap1 w2 hown2 hb2 hca1 hca2 hgr2)
                                    refine hK.out _ _ ?k5_9 (fun hHeld => ?q5_9)
                                    case k5_9 => ((try dsimp only); first | exact s3_of (by (repeat (first | assumption | exact Below.refl _ _ | refine below_drew ?_ | refine below_more ?_ _ | refine hb2 _ ?_ (Nat.le_refl _) | refine hb1 _ ?_ (Nat.le_refl _)))) HCB.out HFB.out hlt5 | assumption)
                                    case q5_9 =>
                                      clear hK K
                                      (try simp only [Act.put]); (try simp only [List.setIfInBounds_toArray])
                                      refine wpAnyH_done (by kernel_rfl) ?_ _
                                      change wpList _ _ _ _ _ w2
                                      obtain ⟨hB1, hB2, hB3⟩ := hHeld
                                      have hcz : nk ≤ cap1 := by omega
                                      go_wp2_with fail
                                      go_meet
                                      exact ⟨rfl, ⟨some ⟨G1, 0, none⟩, nk, cap1⟩, Lib.hid (lent1_of hB1 hBx.out (by decide) hown2)⟩
                                  case m5_9 =>
                                    exact AllReadyH.nil
                              case m5_8 =>
                                exact AllReadyH.nil
                          case m5_7 =>
                            refine AllReadyH.cons rfl (fun K hK => ?s5_10) ?m5_10
                            case s5_10 =>
                              go_simp
                              refine hK.out _ _ ?k5_10 (fun hHeld => ?q5_10)
                              case k5_10 => ((try dsimp only); first | exact s3_of (by (repeat (first | assumption | exact Below.refl _ _ | refine below_drew ?_ | refine below_more ?_ _ | refine hb2 _ ?_ (Nat.le_refl _) | refine hb1 _ ?_ (Nat.le_refl _)))) HCB.out HFB.out hlt5 | assumption)
                              case q5_10 =>
                                clear hK K
                                (try simp only [Act.put]); (try simp only [List.setIfInBounds_toArray])
                                refine wpAnyH_ready (rs := [3]) (by kernel_rfl) (by simp) ?_
                                refine AllReadyH.cons rfl (fun K hK => ?s5_11) ?m5_11
                                case s5_11 =>
                                  (refine step_app_new _ (by rfl) (.tmp 33) (.tmp 35) _ (by rfl) X4.heap.size 3 i0 _ 1 8 Try.underlying41 hi0 hz0 hz1 hz2 rfl (by omega) _ (by rfl) (by (repeat (first | exact Blk.new' (by simp) | exact Blk.new' (by simp [World.drew, World.drewN]) | refine Blk.drew ?_ | refine Blk.alloc ?_ _))) (by first | exact Nat.le_refl _ | exact Nat.le_succ _ | exact HSZ _ (by assumption)) 0 hi Ak nk ck (intCells nd.kids) (by rfl) (HROW.out _ (by assumption)) (intCells_one _) (Nat.le_of_succ_le HBND.out.1) (by have := HBND.out.2; omega) (HSZ _ (by assumption)) ?_; intro v1 w1 hown1 hb1 hk1)
                                  refine hK.out _ _ ?k5_11 (fun hHeld => ?q5_11)
                                  case k5_11 => ((try dsimp only); first | exact s3_of (by (repeat (first | assumption | exact Below.refl _ _ | refine below_drew ?_ | refine below_more ?_ _ | refine hb2 _ ?_ (Nat.le_refl _) | refine hb1 _ ?_ (Nat.le_refl _)))) HCB.out HFB.out hlt5 | assumption)
                                  case q5_11 =>
                                    clear hK K
                                    (try simp only [Act.put]); (try simp only [List.setIfInBounds_toArray])
                                    refine wpAnyH_ready (rs := [5]) (by kernel_rfl) (by simp) ?_
                                    refine AllReadyH.cons rfl (fun K hK => ?s5_12) ?m5_12
                                    case s5_12 =>
                                      (refine step_app_mark _ (by rfl) (.tmp 36) (.tmp 37) _ (by rfl) X4.heap.size 3 i0 _ 1 8 Try.underlying41 hi0 hz0 hz1 hz2 rfl (by omega) _ nk (intCells nd.kids) (by rfl) hown1 _ [.int .i64 (-7)] (by rfl) (hk1 _ _ (Blk.drew (Blk.new' (by simp))) (by simp)) rfl (by simp [Value.oneCell']) HBND.out.1 HBND.out.2 (HSZ _ (by assumption)) ?_; intro G1 cap1 w2 hown2 hb2 hca1 hca2 hgr2)
                                      refine hK.out _ _ ?k5_12 (fun hHeld => ?q5_12)
                                      case k5_12 => ((try dsimp only); first | exact s3_of (by (repeat (first | assumption | exact Below.refl _ _ | refine below_drew ?_ | refine below_more ?_ _ | refine hb2 _ ?_ (Nat.le_refl _) | refine hb1 _ ?_ (Nat.le_refl _)))) HCB.out HFB.out hlt5 | assumption)
                                      case q5_12 =>
                                        clear hK K
                                        (try simp only [Act.put]); (try simp only [List.setIfInBounds_toArray])
                                        refine wpAnyH_done (by kernel_rfl) ?_ _
                                        change wpList _ _ _ _ _ w2
                                        obtain ⟨hB1, hB2, hB3⟩ := hHeld
                                        have hcz : nk ≤ cap1 := by omega
                                        go_wp2_with fail
                                        go_meet
                                        exact ⟨rfl, ⟨some ⟨G1, 0, none⟩, nk, cap1⟩, Lib.hid (lent1_of hB1 hBx.out (by decide) hown2)⟩
                                    case m5_12 =>
                                      exact AllReadyH.nil
                                case m5_11 =>
                                  exact AllReadyH.nil
                            case m5_10 =>
                              exact AllReadyH.nil
                      case m5_6 =>
                        refine AllReadyH.cons rfl (fun K hK => ?s5_13) ?m5_13
                        case s5_13 =>
                          go_simp
                          refine hK.out _ _ ?k5_13 (fun hHeld => ?q5_13)
                          case k5_13 => ((try dsimp only); first | exact s3_of (by (repeat (first | assumption | exact Below.refl _ _ | refine below_drew ?_ | refine below_more ?_ _ | refine hb2 _ ?_ (Nat.le_refl _) | refine hb1 _ ?_ (Nat.le_refl _)))) HCB.out HFB.out hlt5 | assumption)
                          case q5_13 =>
                            clear hK K
                            (try simp only [Act.put]); (try simp only [List.setIfInBounds_toArray])
                            refine wpAnyH_ready (rs := [0]) (by kernel_rfl) (by simp) ?_
                            refine AllReadyH.cons rfl (fun K hK => ?s5_14) ?m5_14
                            case s5_14 =>
                              go_simp
                              refine hK.out _ _ ?k5_14 (fun hHeld => ?q5_14)
                              case k5_14 => ((try dsimp only); first | exact s3_of (by (repeat (first | assumption | exact Below.refl _ _ | refine below_drew ?_ | refine below_more ?_ _ | refine hb2 _ ?_ (Nat.le_refl _) | refine hb1 _ ?_ (Nat.le_refl _)))) HCB.out HFB.out hlt5 | assumption)
                              case q5_14 =>
                                clear hK K
                                (try simp only [Act.put]); (try simp only [List.setIfInBounds_toArray])
                                refine wpAnyH_ready (rs := [3]) (by kernel_rfl) (by simp) ?_
                                refine AllReadyH.cons rfl (fun K hK => ?s5_15) ?m5_15
                                case s5_15 =>
                                  (refine step_app_new _ (by rfl) (.tmp 33) (.tmp 35) _ (by rfl) X4.heap.size 3 i0 _ 1 8 Try.underlying41 hi0 hz0 hz1 hz2 rfl (by omega) _ (by rfl) (by (repeat (first | exact Blk.new' (by simp) | exact Blk.new' (by simp [World.drew, World.drewN]) | refine Blk.drew ?_ | refine Blk.alloc ?_ _))) (by first | exact Nat.le_refl _ | exact Nat.le_succ _ | exact HSZ _ (by assumption)) 0 hi Ak nk ck (intCells nd.kids) (by rfl) (HROW.out _ (by assumption)) (intCells_one _) (Nat.le_of_succ_le HBND.out.1) (by have := HBND.out.2; omega) (HSZ _ (by assumption)) ?_; intro v1 w1 hown1 hb1 hk1)
                                  refine hK.out _ _ ?k5_15 (fun hHeld => ?q5_15)
                                  case k5_15 => ((try dsimp only); first | exact s3_of (by (repeat (first | assumption | exact Below.refl _ _ | refine below_drew ?_ | refine below_more ?_ _ | refine hb2 _ ?_ (Nat.le_refl _) | refine hb1 _ ?_ (Nat.le_refl _)))) HCB.out HFB.out hlt5 | assumption)
                                  case q5_15 =>
                                    clear hK K
                                    (try simp only [Act.put]); (try simp only [List.setIfInBounds_toArray])
                                    refine wpAnyH_ready (rs := [5]) (by kernel_rfl) (by simp) ?_
                                    refine AllReadyH.cons rfl (fun K hK => ?s5_16) ?m5_16
                                    case s5_16 =>
                                      (refine step_app_mark _ (by rfl) (.tmp 36) (.tmp 37) _ (by rfl) X4.heap.size 3 i0 _ 1 8 Try.underlying41 hi0 hz0 hz1 hz2 rfl (by omega) _ nk (intCells nd.kids) (by rfl) hown1 _ [.int .i64 (-7)] (by rfl) (hk1 _ _ (Blk.drew ((Blk.new' rfl).alloc _)) (by simp)) rfl (by simp [Value.oneCell']) HBND.out.1 HBND.out.2 (HSZ _ (by assumption)) ?_; intro G1 cap1 w2 hown2 hb2 hca1 hca2 hgr2)
                                      refine hK.out _ _ ?k5_16 (fun hHeld => ?q5_16)
                                      case k5_16 => ((try dsimp only); first | exact s3_of (by (repeat (first | assumption | exact Below.refl _ _ | refine below_drew ?_ | refine below_more ?_ _ | refine hb2 _ ?_ (Nat.le_refl _) | refine hb1 _ ?_ (Nat.le_refl _)))) HCB.out HFB.out hlt5 | assumption)
                                      case q5_16 =>
                                        clear hK K
                                        (try simp only [Act.put]); (try simp only [List.setIfInBounds_toArray])
                                        refine wpAnyH_done (by kernel_rfl) ?_ _
                                        change wpList _ _ _ _ _ w2
                                        obtain ⟨hB1, hB2, hB3⟩ := hHeld
                                        have hcz : nk ≤ cap1 := by omega
                                        go_wp2_with fail
                                        go_meet
                                        exact ⟨rfl, ⟨some ⟨G1, 0, none⟩, nk, cap1⟩, Lib.hid (lent1_of hB1 hBx.out (by decide) hown2)⟩
                                    case m5_16 =>
                                      exact AllReadyH.nil
                                case m5_15 =>
                                  exact AllReadyH.nil
                            case m5_14 =>
                              exact AllReadyH.nil
                        case m5_13 =>
                          exact AllReadyH.nil
        case rest =>
          rename World => X5
          obtain ⟨rfl, ⟨sa5, n5, sc5⟩, hL⟩ := hcut
          have hLo := hL.out
          have hnn : n5 = nk := hLo.mark.1
          subst hnn
          have hB' : Blk X5 g5 44 #[.int .i64 nd.id, .string nd.con, .int .i64 nd.par, .string nd.role, .slice sa4 n4 sc4, .slice sa5 n5 sc5, .slice Ar nr cr] := by have := hLo.box; simpa using this
          replace hBx := Lib.hid hB'
          have M5 := Lib.hid (hLo.mark.mono HBW2.out.size)
          replace M4 := Lib.hid (hLo.keep _ _ _ _ _ _ _ (by decide) M4.out)
          replace HBW2 := Lib.hid (HBW2.out.trans (hLo.bel.mono hwg))
          replace HHI := Lib.hid (Nat.le_trans HHI.out hLo.sz)
          replace HBR := Lib.hid (HBR.out.trans hLo.bel)
          clear hL hLo hB'
          go_upto_region 8 with (fail)
          go_cut [5] (fun s5 wx => s5 = .pointer (some ⟨g5, 0, none⟩) ∧ ∃ s : Sl, Hid (Lent1 X5 X5.heap.size g5 6 #[.int .i64 nd.id, .string nd.con, .int .i64 nd.par, .string nd.role, .slice sa4 n4 sc4, .slice sa5 n5 sc5, .slice Ar nr cr] 48 2 (refCells nd.refs) [.string markS, .int .i64 0] nr s wx))
          case first =>
            obtain ⟨i0, hi0, hz0, hz1, hz2⟩ := info_parts refInfo
            have hcb := (hBx.out).cell 6
            have hfb := (hBx.out).frozen 6
            have hlt5 := (hBx.out).lt
            simp at hcb
            have HCB := Lib.hid hcb
            have HFB := Lib.hid hfb
            have hrow : ∀ w', (Below X5.heap.size X5 w' ∧ w'.cell? ⟨g5, 6, none⟩ = some (.slice Ar nr cr) ∧ w'.frozen? ⟨g5, 6, none⟩ = false) → Row w' 0 hi 2 Ar nr cr (refCells nd.refs) := fun w' hb' => HRr.out.below ((HBW2.out.mono hh).trans (hb'.1.mono HHI.out))
            have HROW := Lib.hid hrow
            have hbnd : nr + 1 ≤ maxLen ∧ (nr + 1) * 24 ≤ 140737488355328 := HFitr.out
            have HBND := Lib.hid hbnd
            clear hcb hfb hrow hbnd
            have HSZ : ∀ w', (Below X5.heap.size X5 w' ∧ w'.cell? ⟨g5, 6, none⟩ = some (.slice Ar nr cr) ∧ w'.frozen? ⟨g5, 6, none⟩ = false) → X5.heap.size ≤ w'.heap.size := fun _ h => h.1.size
            refine wp_region_held_tail 10 (fun w' => Below X5.heap.size X5 w' ∧ w'.cell? ⟨g5, 6, none⟩ = some (.slice Ar nr cr) ∧ w'.frozen? ⟨g5, 6, none⟩ = false) (by kernel_rfl) (by kernel_rfl) ?hS6 (fun hHeld => ?q60)
            case hS6 => exact s3_of (below_drew (Below.refl _ _)) HCB.out HFB.out hlt5
            case q60 =>
              simp only [List.take_succ_cons, List.take_zero, List.drop_succ_cons, List.drop_zero]
              refine wpAnyH_take (i := 1) (v := (.pointer (some ⟨g5, 6, none⟩))) rfl (by kernel_rfl) (by kernel_rfl) (by kernel_rfl) (fun _ _ _ h => h) (Or.inl ⟨by rfl, ?y6_1⟩) (by assumption) ?q6_1
              case y6_1 => (intro w hSw; (try dsimp only at hSw); go_simp)
              case q6_1 =>
                (try simp only [Act.put]); (try simp only [List.setIfInBounds_toArray])
                refine wpAnyH_take (i := 2) (v := (.slice Ar nr cr)) rfl (by kernel_rfl) (by kernel_rfl) (by kernel_rfl) (fun _ _ _ h => h) (Or.inl ⟨by rfl, ?y6_2⟩) (by assumption) ?q6_2
                case y6_2 => (intro w hSw; (try dsimp only at hSw); go_simp)
                case q6_2 =>
                  (try simp only [Act.put]); (try simp only [List.setIfInBounds_toArray])
                  refine wpAnyH_take (i := 4) (v := ?v6_3) rfl (by kernel_rfl) (by kernel_rfl) (by kernel_rfl) (fun _ _ _ h => h) (Or.inl ⟨by rfl, ?y6_3⟩) (by assumption) ?q6_3
                  case y6_3 => (intro w hSw; (try dsimp only at hSw); go_simp <;> with_reducible rfl)
                  case q6_3 =>
                    (try simp only [Act.put]); (try simp only [List.setIfInBounds_toArray])
                    refine wpAnyH_take (i := 7) (v := (.pointer (some ⟨g5, 6, none⟩))) rfl (by kernel_rfl) (by kernel_rfl) (by kernel_rfl) (fun _ _ _ h => h) (Or.inl ⟨by rfl, ?y6_4⟩) (by assumption) ?q6_4
                    case y6_4 => (intro w hSw; (try dsimp only at hSw); go_simp)
                    case q6_4 =>
                      (try simp only [Act.put]); (try simp only [List.setIfInBounds_toArray])
                      refine wpAnyH_take (i := 8) (v := (.slice Ar nr cr)) rfl (by kernel_rfl) (by kernel_rfl) (by kernel_rfl) (fun _ _ _ h => h) (Or.inl ⟨by rfl, ?y6_5⟩) (by assumption) ?q6_5
                      case y6_5 => (intro w hSw; (try dsimp only at hSw); go_simp)
                      case q6_5 =>
                        (try simp only [Act.put]); (try simp only [List.setIfInBounds_toArray])
                        refine wpAnyH_take (i := 9) (v := (.int .i64 nr)) rfl (by kernel_rfl) (by kernel_rfl) (by kernel_rfl) (fun _ _ _ h => h) (Or.inl ⟨by rfl, ?y6_6⟩) (by assumption) ?q6_6
                        case y6_6 => (intro w hSw; (try dsimp only at hSw); go_simp)
                        case q6_6 =>
                          (try simp only [Act.put]); (try simp only [List.setIfInBounds_toArray])
                          refine wpAnyH_ready (rs := [0, 5]) (by kernel_rfl) (by simp) ?_
                          refine AllReadyH.cons rfl (fun K hK => ?s6_7) ?m6_7
                          case s6_7 =>
                            go_simp
                            refine hK.out _ _ ?k6_7 (fun hHeld => ?q6_7)
                            case k6_7 => ((try dsimp only); first | exact s3_of (by (repeat (first | assumption | exact Below.refl _ _ | refine below_drew ?_ | refine below_more ?_ _ | refine hb2 _ ?_ (Nat.le_refl _) | refine hb1 _ ?_ (Nat.le_refl _)))) HCB.out HFB.out hlt5 | assumption)
                            case q6_7 =>
                              clear hK K
                              (try simp only [Act.put]); (try simp only [List.setIfInBounds_toArray])
                              refine wpAnyH_ready (rs := [3, 5]) (by kernel_rfl) (by simp) ?_
                              refine AllReadyH.cons rfl (fun K hK => ?s6_8) ?m6_8
                              case s6_8 =>
                                (refine step_app_new _ (by rfl) (.tmp 44) (.tmp 46) _ (by rfl) X5.heap.size 48 i0 _ 2 24 Try.underlying42 hi0 hz0 hz1 hz2 rfl (by omega) _ (by rfl) (by (repeat (first | exact Blk.new' (by simp) | exact Blk.new' (by simp [World.drew, World.drewN]) | refine Blk.drew ?_ | refine Blk.alloc ?_ _))) (by first | exact Nat.le_refl _ | exact Nat.le_succ _ | exact HSZ _ (by assumption)) 0 hi Ar nr cr (refCells nd.refs) (by rfl) (HROW.out _ (by assumption)) (refCells_one _) (Nat.le_of_succ_le HBND.out.1) (by have := HBND.out.2; omega) (HSZ _ (by assumption)) ?_; intro v1 w1 hown1 hb1 hk1)
                                refine hK.out _ _ ?k6_8 (fun hHeld => ?q6_8)
                                case k6_8 => ((try dsimp only); first | exact s3_of (by (repeat (first | assumption | exact Below.refl _ _ | refine below_drew ?_ | refine below_more ?_ _ | refine hb2 _ ?_ (Nat.le_refl _) | refine hb1 _ ?_ (Nat.le_refl _)))) HCB.out HFB.out hlt5 | assumption)
                                case q6_8 =>
                                  clear hK K
                                  (try simp only [Act.put]); (try simp only [List.setIfInBounds_toArray])
                                  refine wpAnyH_ready (rs := [5]) (by kernel_rfl) (by simp) ?_
                                  refine AllReadyH.cons rfl (fun K hK => ?s6_9) ?m6_9
                                  case s6_9 =>
                                    go_simp
                                    refine hK.out _ _ ?k6_9 (fun hHeld => ?q6_9)
                                    case k6_9 => ((try dsimp only); first | exact s3_of (by (repeat (first | assumption | exact Below.refl _ _ | refine below_drew ?_ | refine below_more ?_ _ | refine hb2 _ ?_ (Nat.le_refl _) | refine hb1 _ ?_ (Nat.le_refl _)))) HCB.out HFB.out hlt5 | assumption)
                                    case q6_9 =>
                                      clear hK K
                                      (try simp only [Act.put]); (try simp only [List.setIfInBounds_toArray])
                                      refine wpAnyH_ready (rs := [6]) (by kernel_rfl) (by simp) ?_
                                      refine AllReadyH.cons rfl (fun K hK => ?s6_10) ?m6_10
                                      case s6_10 =>
                                        (refine step_app_mark _ (by rfl) (.tmp 47) (.tmp 49) _ (by rfl) X5.heap.size 48 i0 _ 2 24 Try.underlying42 hi0 hz0 hz1 hz2 rfl (by omega) _ nr (refCells nd.refs) (by rfl) (own_after hown1 (below_more (Below.refl _ _) _)) _ [.string markS, .int .i64 0] (by rfl) (Blk.new' rfl) rfl (by simp [Value.oneCell']) HBND.out.1 HBND.out.2 (HSZ _ (by assumption)) ?_; intro G1 cap1 w2 hown2 hb2 hca1 hca2 hgr2)
                                        refine hK.out _ _ ?k6_10 (fun hHeld => ?q6_10)
                                        case k6_10 => ((try dsimp only); first | exact s3_of (by (repeat (first | assumption | exact Below.refl _ _ | refine below_drew ?_ | refine below_more ?_ _ | refine hb2 _ ?_ (Nat.le_refl _) | refine hb1 _ ?_ (Nat.le_refl _)))) HCB.out HFB.out hlt5 | assumption)
                                        case q6_10 =>
                                          clear hK K
                                          (try simp only [Act.put]); (try simp only [List.setIfInBounds_toArray])
                                          refine wpAnyH_done (by kernel_rfl) ?_ _
                                          change wpList _ _ _ _ _ w2
                                          obtain ⟨hB1, hB2, hB3⟩ := hHeld
                                          have hcz : nr ≤ cap1 := by omega
                                          go_wp2_with fail
                                          go_meet
                                          exact ⟨rfl, ⟨some ⟨G1, 0, none⟩, nr, cap1⟩, Lib.hid (lent1_of hB1 hBx.out (by decide) hown2)⟩
                                      case m6_10 =>
                                        exact AllReadyH.nil
                                  case m6_9 =>
                                    exact AllReadyH.nil
                              case m6_8 =>
                                refine AllReadyH.cons rfl (fun K hK => ?s6_11) ?m6_11
                                case s6_11 =>
                                  go_simp
                                  refine hK.out _ _ ?k6_11 (fun hHeld => ?q6_11)
                                  case k6_11 => ((try dsimp only); first | exact s3_of (by (repeat (first | assumption | exact Below.refl _ _ | refine below_drew ?_ | refine below_more ?_ _ | refine hb2 _ ?_ (Nat.le_refl _) | refine hb1 _ ?_ (Nat.le_refl _)))) HCB.out HFB.out hlt5 | assumption)
                                  case q6_11 =>
                                    clear hK K
                                    (try simp only [Act.put]); (try simp only [List.setIfInBounds_toArray])
                                    refine wpAnyH_ready (rs := [3]) (by kernel_rfl) (by simp) ?_
                                    refine AllReadyH.cons rfl (fun K hK => ?s6_12) ?m6_12
                                    case s6_12 =>
                                      (refine step_app_new _ (by rfl) (.tmp 44) (.tmp 46) _ (by rfl) X5.heap.size 48 i0 _ 2 24 Try.underlying42 hi0 hz0 hz1 hz2 rfl (by omega) _ (by rfl) (by (repeat (first | exact Blk.new' (by simp) | exact Blk.new' (by simp [World.drew, World.drewN]) | refine Blk.drew ?_ | refine Blk.alloc ?_ _))) (by first | exact Nat.le_refl _ | exact Nat.le_succ _ | exact HSZ _ (by assumption)) 0 hi Ar nr cr (refCells nd.refs) (by rfl) (HROW.out _ (by assumption)) (refCells_one _) (Nat.le_of_succ_le HBND.out.1) (by have := HBND.out.2; omega) (HSZ _ (by assumption)) ?_; intro v1 w1 hown1 hb1 hk1)
                                      refine hK.out _ _ ?k6_12 (fun hHeld => ?q6_12)
                                      case k6_12 => ((try dsimp only); first | exact s3_of (by (repeat (first | assumption | exact Below.refl _ _ | refine below_drew ?_ | refine below_more ?_ _ | refine hb2 _ ?_ (Nat.le_refl _) | refine hb1 _ ?_ (Nat.le_refl _)))) HCB.out HFB.out hlt5 | assumption)
                                      case q6_12 =>
                                        clear hK K
                                        (try simp only [Act.put]); (try simp only [List.setIfInBounds_toArray])
                                        refine wpAnyH_ready (rs := [6]) (by kernel_rfl) (by simp) ?_
                                        refine AllReadyH.cons rfl (fun K hK => ?s6_13) ?m6_13
                                        case s6_13 =>
                                          (refine step_app_mark _ (by rfl) (.tmp 47) (.tmp 49) _ (by rfl) X5.heap.size 48 i0 _ 2 24 Try.underlying42 hi0 hz0 hz1 hz2 rfl (by omega) _ nr (refCells nd.refs) (by rfl) hown1 _ [.string markS, .int .i64 0] (by rfl) (hk1 _ _ (Blk.drew (Blk.new' (by simp))) (by simp)) rfl (by simp [Value.oneCell']) HBND.out.1 HBND.out.2 (HSZ _ (by assumption)) ?_; intro G1 cap1 w2 hown2 hb2 hca1 hca2 hgr2)
                                          refine hK.out _ _ ?k6_13 (fun hHeld => ?q6_13)
                                          case k6_13 => ((try dsimp only); first | exact s3_of (by (repeat (first | assumption | exact Below.refl _ _ | refine below_drew ?_ | refine below_more ?_ _ | refine hb2 _ ?_ (Nat.le_refl _) | refine hb1 _ ?_ (Nat.le_refl _)))) HCB.out HFB.out hlt5 | assumption)
                                          case q6_13 =>
                                            clear hK K
                                            (try simp only [Act.put]); (try simp only [List.setIfInBounds_toArray])
                                            refine wpAnyH_done (by kernel_rfl) ?_ _
                                            change wpList _ _ _ _ _ w2
                                            obtain ⟨hB1, hB2, hB3⟩ := hHeld
                                            have hcz : nr ≤ cap1 := by omega
                                            go_wp2_with fail
                                            go_meet
                                            exact ⟨rfl, ⟨some ⟨G1, 0, none⟩, nr, cap1⟩, Lib.hid (lent1_of hB1 hBx.out (by decide) hown2)⟩
                                        case m6_13 =>
                                          exact AllReadyH.nil
                                    case m6_12 =>
                                      exact AllReadyH.nil
                                case m6_11 =>
                                  exact AllReadyH.nil
                          case m6_7 =>
                            refine AllReadyH.cons rfl (fun K hK => ?s6_14) ?m6_14
                            case s6_14 =>
                              go_simp
                              refine hK.out _ _ ?k6_14 (fun hHeld => ?q6_14)
                              case k6_14 => ((try dsimp only); first | exact s3_of (by (repeat (first | assumption | exact Below.refl _ _ | refine below_drew ?_ | refine below_more ?_ _ | refine hb2 _ ?_ (Nat.le_refl _) | refine hb1 _ ?_ (Nat.le_refl _)))) HCB.out HFB.out hlt5 | assumption)
                              case q6_14 =>
                                clear hK K
                                (try simp only [Act.put]); (try simp only [List.setIfInBounds_toArray])
                                refine wpAnyH_ready (rs := [0]) (by kernel_rfl) (by simp) ?_
                                refine AllReadyH.cons rfl (fun K hK => ?s6_15) ?m6_15
                                case s6_15 =>
                                  go_simp
                                  refine hK.out _ _ ?k6_15 (fun hHeld => ?q6_15)
                                  case k6_15 => ((try dsimp only); first | exact s3_of (by (repeat (first | assumption | exact Below.refl _ _ | refine below_drew ?_ | refine below_more ?_ _ | refine hb2 _ ?_ (Nat.le_refl _) | refine hb1 _ ?_ (Nat.le_refl _)))) HCB.out HFB.out hlt5 | assumption)
                                  case q6_15 =>
                                    clear hK K
                                    (try simp only [Act.put]); (try simp only [List.setIfInBounds_toArray])
                                    refine wpAnyH_ready (rs := [3]) (by kernel_rfl) (by simp) ?_
                                    refine AllReadyH.cons rfl (fun K hK => ?s6_16) ?m6_16
                                    case s6_16 =>
                                      (refine step_app_new _ (by rfl) (.tmp 44) (.tmp 46) _ (by rfl) X5.heap.size 48 i0 _ 2 24 Try.underlying42 hi0 hz0 hz1 hz2 rfl (by omega) _ (by rfl) (by (repeat (first | exact Blk.new' (by simp) | exact Blk.new' (by simp [World.drew, World.drewN]) | refine Blk.drew ?_ | refine Blk.alloc ?_ _))) (by first | exact Nat.le_refl _ | exact Nat.le_succ _ | exact HSZ _ (by assumption)) 0 hi Ar nr cr (refCells nd.refs) (by rfl) (HROW.out _ (by assumption)) (refCells_one _) (Nat.le_of_succ_le HBND.out.1) (by have := HBND.out.2; omega) (HSZ _ (by assumption)) ?_; intro v1 w1 hown1 hb1 hk1)
                                      refine hK.out _ _ ?k6_16 (fun hHeld => ?q6_16)
                                      case k6_16 => ((try dsimp only); first | exact s3_of (by (repeat (first | assumption | exact Below.refl _ _ | refine below_drew ?_ | refine below_more ?_ _ | refine hb2 _ ?_ (Nat.le_refl _) | refine hb1 _ ?_ (Nat.le_refl _)))) HCB.out HFB.out hlt5 | assumption)
                                      case q6_16 =>
                                        clear hK K
                                        (try simp only [Act.put]); (try simp only [List.setIfInBounds_toArray])
                                        refine wpAnyH_ready (rs := [6]) (by kernel_rfl) (by simp) ?_
                                        refine AllReadyH.cons rfl (fun K hK => ?s6_17) ?m6_17
                                        case s6_17 =>
                                          (refine step_app_mark _ (by rfl) (.tmp 47) (.tmp 49) _ (by rfl) X5.heap.size 48 i0 _ 2 24 Try.underlying42 hi0 hz0 hz1 hz2 rfl (by omega) _ nr (refCells nd.refs) (by rfl) hown1 _ [.string markS, .int .i64 0] (by rfl) (hk1 _ _ (Blk.drew ((Blk.new' rfl).alloc _)) (by simp)) rfl (by simp [Value.oneCell']) HBND.out.1 HBND.out.2 (HSZ _ (by assumption)) ?_; intro G1 cap1 w2 hown2 hb2 hca1 hca2 hgr2)
                                          refine hK.out _ _ ?k6_17 (fun hHeld => ?q6_17)
                                          case k6_17 => ((try dsimp only); first | exact s3_of (by (repeat (first | assumption | exact Below.refl _ _ | refine below_drew ?_ | refine below_more ?_ _ | refine hb2 _ ?_ (Nat.le_refl _) | refine hb1 _ ?_ (Nat.le_refl _)))) HCB.out HFB.out hlt5 | assumption)
                                          case q6_17 =>
                                            clear hK K
                                            (try simp only [Act.put]); (try simp only [List.setIfInBounds_toArray])
                                            refine wpAnyH_done (by kernel_rfl) ?_ _
                                            change wpList _ _ _ _ _ w2
                                            obtain ⟨hB1, hB2, hB3⟩ := hHeld
                                            have hcz : nr ≤ cap1 := by omega
                                            go_wp2_with fail
                                            go_meet
                                            exact ⟨rfl, ⟨some ⟨G1, 0, none⟩, nr, cap1⟩, Lib.hid (lent1_of hB1 hBx.out (by decide) hown2)⟩
                                        case m6_17 =>
                                          exact AllReadyH.nil
                                    case m6_16 =>
                                      exact AllReadyH.nil
                                case m6_15 =>
                                  exact AllReadyH.nil
                            case m6_14 =>
                              exact AllReadyH.nil
          case rest =>
            rename World => X6
            obtain ⟨rfl, ⟨sa6, n6, sc6⟩, hL⟩ := hcut
            have hLo := hL.out
            have hnn : n6 = nr := hLo.mark.1
            subst hnn
            have hB' : Blk X6 g5 44 #[.int .i64 nd.id, .string nd.con, .int .i64 nd.par, .string nd.role, .slice sa4 n4 sc4, .slice sa5 n5 sc5, .slice sa6 n6 sc6] := by have := hLo.box; simpa using this
            replace hBx := Lib.hid hB'
            have M6 := Lib.hid (hLo.mark.mono HBW2.out.size)
            replace M4 := Lib.hid (hLo.keep _ _ _ _ _ _ _ (by decide) M4.out)
            replace M5 := Lib.hid (hLo.keep _ _ _ _ _ _ _ (by decide) M5.out)
            replace HBW2 := Lib.hid (HBW2.out.trans (hLo.bel.mono hwg))
            replace HHI := Lib.hid (Nat.le_trans HHI.out hLo.sz)
            replace HBR := Lib.hid (HBR.out.trans hLo.bel)
            clear hL hLo hB'
            have hW6 := HW.out.after (HG5.out ▸ HBR.out)
            have o6 := hW6.e.out.cell 1
            simp at o6
            have HW6 := Lib.hid hW6
            have b0 := hBx.out.cell 0
            have b1 := hBx.out.cell 1
            have b2 := hBx.out.cell 2
            have b3 := hBx.out.cell 3
            have b4 := hBx.out.cell 4
            have b5 := hBx.out.cell 5
            have b6 := hBx.out.cell 6
            simp at b0 b1 b2 b3 b4 b5 b6
            obtain ⟨i0, hi0, hz0, hz1, hz2⟩ := info_parts nodeInfo
            have hll : l.length = k := by have := congrArg List.length HT.out; rw [List.length_map, List.length_take, HL.out] at this; omega
            have HLL := Lib.hid hll
            have hlt6 := HW6.out.e.out.lt
            have hsz6 := HW6.out.e.bel.size
            clear hW6 hll hbel o1
            go_wp2_with (at_builtin; go_must (refine wpList_app _ rfl (.tmp 57) (.tmp 59) _ rfl w.heap.size 44 i0 _ 7 120 Try.underlying22 hi0 hz0 hz1 hz2 rfl (by omega) ov l.length (allCells l) rfl (own_after HW6.out.own (below_more (Below.refl _ _) _)) X6.heap.size (X6.heap.size + 1) (some ⟨X6.heap.size, 0, none⟩) 1 1 (ndCells (nd, ⟨⟨sa4, n4, sc4⟩, ⟨sa5, n5, sc5⟩, ⟨sa6, n6, sc6⟩⟩)) rfl (row_blk (n := 1) (Blk.new' rfl) rfl (Nat.le_refl _) (by unfold maxLen; omega)) (by simp [ndCells, Value.oneCell']) (by have := HLL.out; unfold maxLen; omega) (by have := HLL.out; omega) (by simp; omega) ?_); intro v7 w7 hown7 hg7 _; obtain ⟨G7, cap7, rfl, hca7, hcb7⟩ := own_slice hown7; have hE7 := (HW6.out.e.after (below_more (Below.refl _ _) _)).kept (own_after HW6.out.own (below_more (Below.refl _ _) _)) hg7; have o7 := hE7.out.cell 1; have f7 := hE7.out.frozen 1; simp at o7; have HE7 := Lib.hid hE7; have HO7 := Lib.hid hown7; have HGr7 := Lib.hid hg7; clear hE7 hown7 hg7)
            go_roundg (n - (k + 1))
            case measure => have := HG.out; omega
            case rel =>
              refine ⟨k + 1, .slice (some ⟨G7, 0, none⟩) (l.length + 1) cap7, l ++ [(nd, ⟨⟨sa4, n4, sc4⟩, ⟨sa5, n5, sc5⟩, ⟨sa6, n6, sc6⟩⟩)], by omega, Lib.hid rfl, by simp, ?_, Lib.hid ?_⟩
              · refine (HW6.out.after (below_more (Below.refl _ _) _)).push HGr7.out HO7.out ?_
                exact (LentLeaf.mk (M4.out.len HN1.out) (M5.out.len HN2.out) (M6.out.len HN3.out) HSZN.out).after (below_more (Below.refl _ _) _)
              · rw [List.map_append, HT.out, List.take_add_one, HND.out]; rfl
    · have hkn : k = n := by omega
      subst hkn
      have hT : l.map (·.1) = nds := by rw [HT.out, List.take_of_length_le (by rw [HL.out]; omega)]
      have HTT := Lib.hid hT
      have HLL : Hid (l.length = k) := Lib.hid (by have := congrArg List.length hT; rw [List.length_map, HL.out] at this; exact this)
      clear hT
      go_upto_region 10 with (fail)
      obtain ⟨i0, hi0, hz0, hz1, hz2⟩ := info_parts nodeInfo
      have hwsz := HW.out.e.bel.size
      clear h hlt hk hf hh hnc o1 c1
      refine wp_region_held_tail 8 (fun w' => Hid (LE w next A k c ov l w') ∧ w'.cell? ⟨w.heap.size + 1 + 1, 1, none⟩ = some ov ∧ w'.frozen? ⟨w.heap.size + 1 + 1, 1, none⟩ = false ∧ w'.cell? ⟨w.heap.size, 1, none⟩ = some (.slice A k c)) (by kernel_rfl) (by kernel_rfl) ?hSx (fun hHeld => ?qx0)
      case hSx => exact s10_of (HW.out.e.after (below_drew (Below.refl _ _)))
      case qx0 =>
        simp only [List.take_succ_cons, List.take_zero, List.drop_succ_cons, List.drop_zero]
        refine wpAnyH_take (i := 0) (v := (.pointer (some ⟨w.heap.size + 1 + 1, 1, none⟩))) rfl (by kernel_rfl) (by kernel_rfl) (by kernel_rfl) (fun _ _ _ h => h) (Or.inl ⟨by rfl, ?yx_1⟩) (by assumption) ?qx_1
        case yx_1 => (intro w hSw; (try dsimp only at hSw); go_simp)
        case qx_1 =>
          (try simp only [Act.put]); (try simp only [List.setIfInBounds_toArray])
          refine wpAnyH_take (i := 1) (v := ov) rfl (by kernel_rfl) (by kernel_rfl) (by kernel_rfl) (fun _ _ _ h => h) (Or.inl ⟨by rfl, ?yx_2⟩) (by assumption) ?qx_2
          case yx_2 => (intro w hSw; (try dsimp only at hSw); go_simp)
          case qx_2 =>
            (try simp only [Act.put]); (try simp only [List.setIfInBounds_toArray])
            refine wpAnyH_take (i := 2) (v := ?vx_3) rfl (by kernel_rfl) (by kernel_rfl) (by kernel_rfl) (fun _ _ _ h => h) (Or.inl ⟨by rfl, ?yx_3⟩) (by assumption) ?qx_3
            case yx_3 => (intro w hSw; (try dsimp only at hSw); go_simp <;> with_reducible rfl)
            case qx_3 =>
              (try simp only [Act.put]); (try simp only [List.setIfInBounds_toArray])
              refine wpAnyH_take (i := 5) (v := (.pointer (some ⟨w.heap.size, 1, none⟩))) rfl (by kernel_rfl) (by kernel_rfl) (by kernel_rfl) (fun _ _ _ h => h) (Or.inl ⟨by rfl, ?yx_4⟩) (by assumption) ?qx_4
              case yx_4 => (intro w hSw; (try dsimp only at hSw); go_simp)
              case qx_4 =>
                (try simp only [Act.put]); (try simp only [List.setIfInBounds_toArray])
                refine wpAnyH_take (i := 6) (v := (.slice A k c)) rfl (by kernel_rfl) (by kernel_rfl) (by kernel_rfl) (fun _ _ _ h => h) (Or.inl ⟨by rfl, ?yx_5⟩) (by assumption) ?qx_5
                case yx_5 => (intro w hSw; (try dsimp only at hSw); go_simp)
                case qx_5 =>
                  (try simp only [Act.put]); (try simp only [List.setIfInBounds_toArray])
                  refine wpAnyH_take (i := 7) (v := (.int .i64 k)) rfl (by kernel_rfl) (by kernel_rfl) (by kernel_rfl) (fun _ _ _ h => h) (Or.inl ⟨by rfl, ?yx_6⟩) (by assumption) ?qx_6
                  case yx_6 => (intro w hSw; (try dsimp only at hSw); go_simp)
                  case qx_6 =>
                    (try simp only [Act.put]); (try simp only [List.setIfInBounds_toArray])
                    refine wpAnyH_ready (rs := [3]) (by kernel_rfl) (by simp) ?_
                    refine AllReadyH.cons rfl (fun K hK => ?sx_7) ?mx_7
                    case sx_7 =>
                      go_simp
                      refine hK.out _ _ ?kx_7 (fun hHeld => ?qx_7)
                      case kx_7 => ((try dsimp only); first | exact s10_of ((HW.out.e.after (below_more (below_drew (Below.refl _ _)) _)).kept (own_after HW.out.own (below_more (below_drew (Below.refl _ _)) _)) hgr2) | exact s10_of (HW.out.e.after (below_more (below_drew (Below.refl _ _)) _)) | assumption)
                      case qx_7 =>
                        clear hK K
                        (try simp only [Act.put]); (try simp only [List.setIfInBounds_toArray])
                        refine wpAnyH_ready (rs := [4]) (by kernel_rfl) (by simp) ?_
                        refine AllReadyH.cons rfl (fun K hK => ?sx_8) ?mx_8
                        case sx_8 =>
                          (refine step_app_mark _ (by rfl) (.tmp 63) (.tmp 65) _ (by rfl) w.heap.size 44 i0 _ 7 120 Try.underlying22 hi0 hz0 hz1 hz2 rfl (by omega) ov l.length (allCells l) (by rfl) (own_after HW.out.own (below_more (below_drew (Below.refl _ _)) _)) _ markNd (by rfl) (Blk.new' rfl) rfl (by simp [markNd, Value.oneCell']) (by have := HLL.out; unfold maxLen; omega) (by have := HLL.out; omega) (by simp [World.drew]; omega) ?_; intro G1 cap1 w2 hown2 _ hca1 hca2 hgr2)
                          refine hK.out _ _ ?kx_8 (fun hHeld => ?qx_8)
                          case kx_8 => ((try dsimp only); first | exact s10_of ((HW.out.e.after (below_more (below_drew (Below.refl _ _)) _)).kept (own_after HW.out.own (below_more (below_drew (Below.refl _ _)) _)) hgr2) | exact s10_of (HW.out.e.after (below_more (below_drew (Below.refl _ _)) _)) | assumption)
                          case qx_8 =>
                            clear hK K
                            (try simp only [Act.put]); (try simp only [List.setIfInBounds_toArray])
                            refine wpAnyH_done (by kernel_rfl) ?_ _
                            change wpList _ _ _ _ _ w2
                            obtain ⟨hB1, hB2, hB3, hB4⟩ := hHeld
                            have hcz : k ≤ cap1 := by have := HLL.out; omega
                            have hE2 := hB1.out.out_set (.slice (some ⟨G1, 0, none⟩) k cap1)
                            have e0 := hE2.out.cell 0
                            have e1 := hE2.out.cell 1
                            have r0 := hE2.rs.cell 0
                            have r1 := hE2.rs.cell 1
                            have r2 := hE2.rs.frozen 0
                            have r3 := hE2.rs.frozen 1
                            simp at e0 e1 r0 r1
                            have HE2 := Lib.hid hE2
                            have HO2 := Lib.hid hown2
                            clear hE2 hown2 hgr2
                            go_wp2_with fail
                            (try rw [Exit.noGoto_ret])
                            (try simp only [Exit.inBlock, Exit.then])
                            have hres : Try.f5.results = #[.cell 2 24] := by kernel_rfl
                            refine bodyPost_ret (v := .agg #[.int .i64 next, .slice (some ⟨G1, 0, none⟩) k cap1]) ?hr rfl ?_
                            case hr =>
                              simp only [results, hres]
                              go_simp
                            exact ⟨some ⟨G1, 0, none⟩, cap1, l, rfl, lent_end hB1.out HTT.out HLL.out HO2.out hca1 hca2 _ _ _⟩
                        case mx_8 =>
                          exact AllReadyH.nil
                    case mx_7 =>
                      exact AllReadyH.nil
end Go.Proofs.Ytfljndlmafcjeaa

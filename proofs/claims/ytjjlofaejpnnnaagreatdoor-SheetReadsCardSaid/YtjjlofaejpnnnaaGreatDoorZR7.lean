/-
  A NODE LET STAND, step by step, in memory: the reader's box, the nodes, the set, the new node's own box.
  WALKS over package names: addForm, Quote.
  A PAGE IN MEMORY: a box that holds bytes of the call's own; WALKS over package sheet: long, line, show.
  BYTES THAT A CONVERSION MADE, and append of a string's bytes to them (a conversion's block bears a mark behind its last cell).
  WALKS over package names: Unquote.
  WALKS over package sheet: number, word; strings.Cut at one byte.
-/
import Derived.Test.YtjjlofaejpnnnaaGreatDoorZR6
import Derived.Deep.Cut
import Derived.Laws.CopyRow
import Derived.WalkMore
import Derived.Lib.IndexLaws
namespace Go.Proofs.YtjjlofaejpnnnaaGreatDoor
open Go Go.RowKit Go.Sort
set_option linter.unusedVariables false
theorem drewS_below (w : World) : Below w.heap.size w w.drew := ⟨rfl, rfl, rfl, Nat.le_refl _, fun _ _ => rfl⟩
theorem below_own {B0 : Nat} {w W W' : World} {r : Option Nat} (h : Below B0 w W) (hs : B0 ≤ W.heap.size) (hg : W.grownBy W' r) (hr : ∀ g, r = some g → B0 ≤ g) : Below B0 w W' :=
  ⟨hg.os.trans h.os, hg.tape.trans h.tape, hg.output.trans h.output, Nat.le_trans h.size hg.size, fun g hb => (hg.block g (by omega) (fun he => by have := hr g he.symm; omega)).trans (h.block g hb)⟩
def ndBox (nd : Nd) : Array Value := #[.int .i64 nd.id, .string nd.con, .int .i64 nd.par, .string nd.role, .slice none 0 0, .slice none 0 0, .slice none 0 0]
def rdBox (next : Int) (v : Value) (gm : Nat) (root : Int) (vw : Value) : Array Value := #[.int .i64 next, v, .map (some gm), .int .i64 root, vw]
structure Mid (B0 B gr gm gn k : Nat) (next root : Int) (v vw : Value) (l : List (Nd × Leaf)) (ws ids : List Int) (nn : Nd) (w W : World) : Prop where
  bx : Blk W gr 45 (rdBox next v gm root vw)
  np : NP B v vw l ws W
  set : SeenIs W gm k ids
  nb : Blk W gn 55 (ndBox nn)
  bel : Below B0 w W
  l0 : B0 ≤ gr
  l1 : B0 ≤ gm
  l2 : gr < B
  l3 : gm < B
  lgn : B0 ≤ gn
  gv : v.ownBlock ≠ some gn
theorem NP.otherN {B g i : Nat} {v vw : Value} {l : List (Nd × Leaf)} {ws : List Int} {w : World} {cs : Array Value} {u : Value} (h : NP B v vw l ws w) (hg : Blk w g 55 cs) (hv : v.ownBlock ≠ some g) : NP B v vw l ws (w.setCell ⟨g, i, none⟩ u) := by
  refine ⟨?_, fun p hp => (h.leaf p hp).other hg (by decide) (by decide) (by decide) i u, own_other h.way hg (by decide) i u, h.ap, h.ak, h.ar, ?_⟩
  · exact World.ownsRow.kept h.own (row := some g) ⟨rfl, rfl, rfl, by simp, fun k _ hk => heap_setCell_other w ⟨g, i, none⟩ k u (fun e => hk (by simp [e]))⟩ (.inr hv)
  · have := ((Below.refl 0 w).setCell (p := ⟨g, i, none⟩) (Nat.zero_le _) u).size
    exact Nat.le_trans h.hB this
section
variable {B0 B gr gm gn k : Nat} {next root : Int} {v vw : Value} {l : List (Nd × Leaf)} {ws ids : List Int} {nn : Nd} {w W W' : World}
theorem Mid.hs (h : Mid B0 B gr gm gn k next root v vw l ws ids nn w W) : B0 ≤ W.heap.size := Nat.le_trans h.l0 (Nat.le_of_lt h.bx.lt)
theorem Mid.after (h : Mid B0 B gr gm gn k next root v vw l ws ids nn w W) (hb : Below W.heap.size W W') : Mid B0 B gr gm gn k next root v vw l ws ids nn w W' :=
  ⟨h.bx.after hb, h.np.after hb, h.set.after hb, h.nb.after hb, h.bel.trans (hb.mono h.hs), h.l0, h.l1, h.l2, h.l3, h.lgn, h.gv⟩
theorem Mid.drew (h : Mid B0 B gr gm gn k next root v vw l ws ids nn w W) : Mid B0 B gr gm gn k next root v vw l ws ids nn w W.drew := h.after (drewS_below _)
theorem Mid.alloc (h : Mid B0 B gr gm gn k next root v vw l ws ids nn w W) (o : Obj) : Mid B0 B gr gm gn k next root v vw l ws ids nn w (W.alloc o) := h.after ((Below.refl _ _).alloc (Nat.le_refl _) o)
theorem Mid.ne (h : Mid B0 B gr gm gn k next root v vw l ws ids nn w W) : gn ≠ gr := by
  rintro rfl
  exact absurd rfl (Blk.ne_ h.nb h.bx (by decide))
/-- the last root is another one -/
theorem Mid.rootS (h : Mid B0 B gr gm gn k next root v vw l ws ids nn w W) (r : Int) : Mid B0 B gr gm gn k next r v vw l ws ids nn w (W.setCell ⟨gr, 3, none⟩ (.int .i64 r)) :=
  ⟨by have := h.bx.set_ 3 (.int .i64 r); simpa [rdBox] using this, h.np.other h.bx (by decide) (by decide) (by decide) (by decide) _ _, h.set.set (p := ⟨gr, 3, none⟩) (h.set.blk_ne h.bx) _, h.nb.far (p := ⟨gr, 3, none⟩) h.ne _, h.bel.setCell (p := ⟨gr, 3, none⟩) h.l0 _, h.l0, h.l1, h.l2, h.l3, h.lgn, h.gv⟩
/-- the parent is known -/
theorem Mid.par (h : Mid B0 B gr gm gn k next root v vw l ws ids nn w W) (y : Int) : Mid B0 B gr gm gn k next root v vw l ws ids { nn with par := y } w (W.setCell ⟨gn, 2, none⟩ (.int .i64 y)) :=
  ⟨h.bx.far (p := ⟨gn, 2, none⟩) (Ne.symm h.ne) _, h.np.otherN h.nb h.gv, h.set.set (p := ⟨gn, 2, none⟩) (h.set.blk_ne h.nb) _, by have := h.nb.set_ 2 (.int .i64 y); simpa [ndBox] using this, h.bel.setCell (p := ⟨gn, 2, none⟩) h.lgn _, h.l0, h.l1, h.l2, h.l3, h.lgn, h.gv⟩
/-- a kid more -/
theorem Mid.kid {n c g i : Nat} {nd : Nd} {P K R : Sl} {Ak : Option Addr} {ck : Nat} {y : Int} (h : Mid B0 B gr gm gn k next root (.slice (some ⟨g, 0, none⟩) n c) vw l ws ids nn w W) (hB : B0 ≤ B) (hl : l.length = n) (hi : l[i]? = some (nd, ⟨P, K, R⟩))
    (ho : W'.ownsRow B 3 1 (.slice Ak (K.n + 1) ck) (K.n + 1) (intCells nd.kids ++ [.int .i64 y])) (hg : W.grownBy W' (Value.slice K.A K.n K.c).ownBlock) (hnew : (Value.slice Ak (K.n + 1) ck).ownBlock = (Value.slice K.A K.n K.c).ownBlock ∨ (Value.slice Ak (K.n + 1) ck).ownBlock = some W.heap.size) :
    Mid B0 B gr gm gn k next root (.slice (some ⟨g, 0, none⟩) n c) vw (l.set i ({ nd with kids := nd.kids ++ [y] }, ⟨P, ⟨Ak, K.n + 1, ck⟩, R⟩)) ws ids nn w (W'.setCell ⟨g, i * 7 + 5, none⟩ (.slice Ak (K.n + 1) ck)) := by
  have hkr : W.ownsRow B 3 1 (.slice K.A K.n K.c) K.n (intCells nd.kids) := (h.np.leaf _ (List.mem_of_getElem? hi)).k
  have hbx := h.bx.grown hg (Ne.symm (own_blk_ne hkr h.bx (by decide)))
  have hnb := h.nb.grown hg (Ne.symm (own_blk_ne hkr h.nb (by decide)))
  have hst := h.set.grown hkr hg
  have hgB : B ≤ g := (World.ownsRow.lt h.np.own g rfl).1
  have hgg : g ≠ gr := by have := h.l2; omega
  have hgn : g ≠ gn := fun e => h.gv (by rw [e]; rfl)
  have hgm : g ≠ gm := by have := h.l3; omega
  exact ⟨hbx.far (p := ⟨g, _, none⟩) (Ne.symm hgg) _, h.np.kid hl hi ho hg hnew, hst.set (p := ⟨g, _, none⟩) (Ne.symm hgm) _, hnb.far (p := ⟨g, _, none⟩) (Ne.symm hgn) _,
    (below_own h.bel h.hs hg fun x hx => by have := (World.ownsRow.lt hkr x hx).1; omega).setCell (p := ⟨g, _, none⟩) (by show B0 ≤ g; omega) _, h.l0, h.l1, h.l2, h.l3, h.lgn, h.gv⟩
/-- a number more is told -/
theorem Mid.put {y : Int} (h : Mid B0 B gr gm gn k next root v vw l ws ids nn w W) (hs : SeenIs W' gm (k + 1) (ids ++ [y])) (hg : W.grownBy W' (some gm)) : Mid B0 B gr gm gn (k + 1) next root v vw l ws (ids ++ [y]) nn w W' :=
  ⟨h.bx.grown hg (fun e => absurd (Option.some.inj e).symm (h.set.blk_ne h.bx)), h.np.map hg (fun g cs t e => by obtain rfl := Option.some.inj e; exact h.set.not_cells _ _ _), hs, h.nb.grown hg (fun e => absurd (Option.some.inj e).symm (h.set.blk_ne h.nb)),
    below_own h.bel h.hs hg fun x hx => by obtain rfl := Option.some.inj hx; exact h.l1, h.l0, h.l1, h.l2, h.l3, h.lgn, h.gv⟩
/-- the way: cut, and a place more -/
theorem Mid.wayA {vw' : Value} {ws' : List Int} (h : Mid B0 B gr gm gn k next root v vw l ws ids nn w W) (hB : B0 ≤ B) (ho : W'.ownsRow B 3 1 vw' ws'.length (intCells ws')) (hg : W.grownBy W' vw.ownBlock) (hnew : vw'.ownBlock = vw.ownBlock ∨ vw'.ownBlock = some W.heap.size) :
    Mid B0 B gr gm gn k next root v vw' l ws' ids nn w (W'.setCell ⟨gr, 4, none⟩ vw') := by
  have hbx := h.bx.grown hg (Ne.symm (own_blk_ne h.np.way h.bx (by decide)))
  have hnb := h.nb.grown hg (Ne.symm (own_blk_ne h.np.way h.nb (by decide)))
  have hst := h.set.grown h.np.way hg
  exact ⟨by have := hbx.set_ 4 vw'; simpa [rdBox] using this, (h.np.wayA ho hg hnew).other hbx (by decide) (by decide) (by decide) (by decide) _ _, hst.set (p := ⟨gr, 4, none⟩) (hst.blk_ne hbx) _, hnb.far (p := ⟨gr, 4, none⟩) h.ne _,
    (below_own h.bel h.hs hg fun x hx => by have := (World.ownsRow.lt h.np.way x hx).1; omega).setCell (p := ⟨gr, 4, none⟩) h.l0 _, h.l0, h.l1, h.l2, h.l3, h.lgn, h.gv⟩
/-- what there is behind the last step -/
structure MidE (B0 B gr gm k : Nat) (next root : Int) (v vw : Value) (l : List (Nd × Leaf)) (ws ids : List Int) (w W : World) : Prop where
  bx : Blk W gr 45 (rdBox next v gm root vw)
  np : NP B v vw l ws W
  set : SeenIs W gm k ids
  bel : Below B0 w W
theorem Mid.node {v' : Value} (h : Mid B0 B gr gm gn k next root v vw l ws ids nn w W) (hB : B0 ≤ B) (h1 : nn.props = []) (h2 : nn.kids = []) (h3 : nn.refs = []) (hz : SzN nn)
    (ho : OwnN W' B v' (l ++ [(nn, ⟨⟨none, 0, 0⟩, ⟨none, 0, 0⟩, ⟨none, 0, 0⟩⟩)])) (hg : W.grownBy W' v.ownBlock) :
    MidE B0 B gr gm k next root v' vw (l ++ [(nn, ⟨⟨none, 0, 0⟩, ⟨none, 0, 0⟩, ⟨none, 0, 0⟩⟩)]) ws ids w (W'.setCell ⟨gr, 1, none⟩ v') := by
  have hbx := h.bx.grown hg (Ne.symm (own_blk_ne h.np.own h.bx (by decide)))
  have hst := h.set.grown h.np.own hg
  exact ⟨by have := hbx.set_ 1 v'; simpa [rdBox] using this, (h.np.node ho hg h1 h2 h3 rfl hz).other hbx (by decide) (by decide) (by decide) (by decide) _ _, hst.set (p := ⟨gr, 1, none⟩) (hst.blk_ne hbx) _,
    (below_own h.bel h.hs hg fun x hx => by have := (World.ownsRow.lt h.np.own x hx).1; omega).setCell (p := ⟨gr, 1, none⟩) h.l0 _⟩
end
end Go.Proofs.YtjjlofaejpnnnaaGreatDoor
namespace Go.Proofs.YtjjlofaejpnnnaaGreatDoor
open Go Go.RowKit
set_option linter.unusedVariables false
theorem cells_new (w : World) (news : List UInt8) (cs : Array Value) (T : TypeId) (hc : cs.toList = news.map enc) : ∀ j u, (news.map enc)[j]? = some u → (w.alloc (.cells cs T)).cell? ((⟨w.heap.size, 0, none⟩ : Addr).add j) = some u := by
  intro j u h
  have e : (⟨w.heap.size, 0, none⟩ : Addr).add j = ⟨w.heap.size, j, none⟩ := by simp [Addr.add]; exact fun h => h.symm
  rw [e, World.cell?_alloc_at _ _ _ _ rfl, ← Array.getElem?_toList, hc, h]
theorem and_15 (c : UInt8) : bits BinOp.and IntKind.u8 (c.toNat : Int) 15 = (c.toNat : Int) % 16 := by
  revert c; apply all256; decide +kernel
theorem hex_at (k : Nat) (h : k < 16) : (⟨#[48, 49, 50, 51, 52, 53, 54, 55, 56, 57, 97, 98, 99, 100, 101, 102]⟩ : ByteArray)[k]'h = hexOf k := by
  have : ∀ k : Fin 16, (⟨#[48, 49, 50, 51, 52, 53, 54, 55, 56, 57, 97, 98, 99, 100, 101, 102]⟩ : ByteArray)[k.val]'k.isLt = hexOf k.val := by decide +kernel
  exact this ⟨k, h⟩
theorem toNat_q (n : Nat) : ((n : Int) / 16).toNat = n / 16 := by omega
theorem toNat_r (n : Nat) : ((n : Int) % 16).toNat = n % 16 := by omega
end Go.Proofs.YtjjlofaejpnnnaaGreatDoor
namespace Go.Proofs.YtjjlofaejpnnnaaGreatDoor
open Go Go.RowKit
set_option linter.unusedVariables false
/-- not bytes -/
def not8 (o : Obj) : Bool := match o with
  | .cells _ t _ => t != 5
  | _ => true
/-- what is kept by one who writes on the page: all below B, and all that isn't bytes, but the page's box -/
structure KeepP (gp B : Nat) (X X' : World) : Prop where
  os : X'.os = X.os
  tape : X'.tape = X.tape
  output : X'.output = X.output
  size : X.heap.size ≤ X'.heap.size
  same : ∀ (g : Nat) (o : Obj), g ≠ gp → X.heap[g]? = some o → g < B ∨ not8 o = true → X'.heap[g]? = some o
theorem KeepP.refl (gp B : Nat) (X : World) : KeepP gp B X X := ⟨rfl, rfl, rfl, Nat.le_refl _, fun _ _ _ h _ => h⟩
theorem KeepP.trans {gp B : Nat} {X Y Z : World} (h : KeepP gp B X Y) (h' : KeepP gp B Y Z) : KeepP gp B X Z := ⟨h'.os.trans h.os, h'.tape.trans h.tape, h'.output.trans h.output, Nat.le_trans h.size h'.size, fun g o h1 h2 h3 => h'.same g o h1 (h.same g o h1 h2 h3) h3⟩
theorem KeepP.after {gp B : Nat} {X Y : World} (h : Below X.heap.size X Y) : KeepP gp B X Y := ⟨h.os, h.tape, h.output, h.size, fun g o _ h2 _ => (h.block g (Array.getElem?_eq_some_iff.1 h2).1).trans h2⟩
theorem KeepP.below {gp B : Nat} {X Y : World} (h : KeepP gp B X Y) (hl : gp ≤ B) (hs : gp ≤ X.heap.size) : Below gp X Y := ⟨h.os, h.tape, h.output, h.size, fun g hg => by
  have e : X.heap[g]? = some X.heap[g] := Array.getElem?_eq_getElem (by omega)
  rw [e]
  exact h.same g _ (by omega) e (.inl (by omega))⟩
theorem KeepP.blk {gp B g : Nat} {X Y : World} {t : TypeId} {cs : Array Value} (h : KeepP gp B X Y) (hb : Blk X g t cs) (h2 : g ≠ gp) (ht : (t != 5) = true := by rfl) : Blk Y g t cs := h.same g _ h2 hb (.inr ht)
theorem KeepP.set {gp B i : Nat} {X : World} {u : Value} : KeepP gp B X (X.setCell ⟨gp, i, none⟩ u) := by
  have hb := (Below.refl gp X).setCell (p := ⟨gp, i, none⟩) (Nat.le_refl _) u
  exact ⟨hb.os, hb.tape, hb.output, hb.size, fun g o h1 h2 _ => (Below.heap_setCell X ⟨gp, i, none⟩ u g h1).trans h2⟩
theorem ownB_cells {X : World} {B : Nat} {v : Value} {L : List UInt8} (h : ownB X B v L) : ∀ k, v.ownBlock = some k → B ≤ k ∧ ∃ cs fr, X.heap[k]? = some (.cells cs 5 fr) := by
  intro k hk
  rcases h.2 with ⟨rfl, _⟩ | ⟨g, cap, cur, rfl, hb, hg, _⟩
  · cases hk
  · obtain rfl : g = k := Option.some.inj hk
    exact ⟨hb, cur, _, hg⟩
theorem KeepP.grown {gp B : Nat} {X Y : World} {v : Value} {L : List UInt8} (ho : ownB X B v L) (hg : X.grownBy Y v.ownBlock) : KeepP gp B X Y :=
  ⟨hg.os, hg.tape, hg.output, hg.size, fun g o _ h2 h3 => (hg.block g (Array.getElem?_eq_some_iff.1 h2).1 (fun he => by
    obtain ⟨h4, cs, fr, h5⟩ := ownB_cells ho g he.symm
    rcases h3 with h3 | h3
    · omega
    · rw [h5] at h2
      obtain rfl := Option.some.inj h2
      simp [not8] at h3)).trans h2⟩
/-- the page's box, and its bytes -/
structure PB (gp B : Nat) (L : List UInt8) (v : Value) (X : World) : Prop where
  t : Blk X gp 65 #[v]
  o : ownB X B v L
  lt : gp < B
  sz : B ≤ X.heap.size
section
variable {gp B : Nat} {L L' : List UInt8} {v v' : Value} {X Y : World}
theorem PB.after (h : PB gp B L v X) (hb : Below X.heap.size X Y) : PB gp B L v Y := ⟨h.t.after hb, h.o.below hb, h.lt, Nat.le_trans h.sz hb.size⟩
theorem ownB_set {g : Nat} {u : Value} (h : ownB X B v L) (hg : g < B) : ownB (X.setCell ⟨g, 0, none⟩ u) B v L := by
  refine ⟨h.1, ?_⟩
  rcases h.2 with hn | ⟨k, cap, cur, rfl, hb, hgg, rest⟩
  · exact .inl hn
  · exact .inr ⟨k, cap, cur, rfl, hb, (Below.heap_setCell X ⟨g, 0, none⟩ u k (by show k ≠ g; omega)).trans hgg, rest⟩
theorem PB.put (h : PB gp B L v X) (hb : X.grownBy Y v.ownBlock) (ho : ownB Y B v' L') : PB gp B L' v' (Y.setCell ⟨gp, 0, none⟩ v') := by
  have hlt := h.lt
  have ht : Blk Y gp 65 #[v] := h.t.grown hb (fun he => by have := (ownB_cells h.o gp he.symm).1; omega)
  refine ⟨?_, ownB_set ho h.lt, h.lt, ?_⟩
  · have := ht.set_ 0 v'
    simpa using this
  · have h1 := ((Below.refl gp Y).setCell (p := ⟨gp, 0, none⟩) (Nat.le_refl _) v').size
    have h2 := h.sz
    have h3 := hb.size
    omega
theorem PB.box (h : PB gp B L v X) (hb : X.grownBy Y v.ownBlock) : Blk Y gp 65 #[v] := h.t.grown hb (fun he => by have := (ownB_cells h.o gp he.symm).1; have := h.lt; omega)
theorem PB.alloc (h : PB gp B L v X) (o : Obj) : PB gp B L v (X.alloc o) := h.after ((Below.refl _ _).alloc (Nat.le_refl _) o)
end
end Go.Proofs.YtjjlofaejpnnnaaGreatDoor
namespace Go.Proofs.YtjjlofaejpnnnaaGreatDoor
open Go Go.RowKit
set_option linter.unusedVariables false
/-- the slice v of bytes holds l, in a block of the call's own (from B on), none of its cells frozen -/
def ownF (w : World) (B : Nat) (v : Value) (l : List UInt8) : Prop :=
  ∃ (g cap : Nat) (cur : Array Value) (fr : Nat × Nat), v = .slice (some ⟨g, 0, none⟩) l.length cap ∧ B ≤ g ∧ w.heap[g]? = some (.cells cur 5 fr) ∧ (fr.2 = 0 ∨ cap ≤ fr.1) ∧ l.length ≤ cap ∧ cap ≤ maxLen ∧ cur.size = cap ∧ cur.toList.take l.length = l.map enc
theorem ownF.below {w w' : World} {B : Nat} {v : Value} {l : List UInt8} (h : ownF w B v l) (hb : Below w.heap.size w w') : ownF w' B v l := by
  obtain ⟨g, cap, cur, fr, h1, h2, h3, rest⟩ := h
  exact ⟨g, cap, cur, fr, h1, h2, (hb.block g (Array.getElem?_eq_some_iff.1 h3).1).trans h3, rest⟩
theorem ownF.lt {w : World} {B : Nat} {v : Value} {l : List UInt8} (h : ownF w B v l) : ∀ k, v.ownBlock = some k → B ≤ k ∧ k < w.heap.size := by
  obtain ⟨g, cap, cur, fr, rfl, h2, h3, rest⟩ := h
  intro k hk
  obtain rfl : g = k := Option.some.inj hk
  exact ⟨h2, (Array.getElem?_eq_some_iff.1 h3).1⟩
theorem ownF.form {w : World} {B : Nat} {v : Value} {l : List UInt8} (h : ownF w B v l) : ∃ A m c, v = .slice A m c ∧ m = l.length ∧ m ≤ 9223372036854775807 := by
  obtain ⟨g, cap, cur, fr, rfl, h2, h3, h4, h5, h6, _⟩ := h
  unfold maxLen at h6
  exact ⟨_, _, _, rfl, rfl, by omega⟩
/-- []byte(s) -/
theorem conv_bytes (w : World) (s : ByteArray) (hs : s.size ≤ 140737488355328) : ∃ v w', (convert 9 63 (.string s)).run Tryz.prog w = .ok v w' ∧ ownF w' w.heap.size v s.data.toList ∧ Below w.heap.size w w' := by
  have h0 := Lib.run_convert_string_bytes (P := Tryz.prog) w 9 63 5 s Tryz.underlying9 Tryz.underlying63 Tryz.underlying5
  have hge := grownCap_ge w s.size 0 5
  have hcm : grownCap w s.size 0 5 ≤ maxLen := grownCap_le_maxLen w s.size 0 5 (by unfold maxLen; omega)
  have hsl : s.data.toList.length = s.size := by rw [Array.length_toList]; rfl
  have hcs : (Lib.bytesCells w 5 s).size = grownCap w s.size 0 5 := by
    unfold Lib.bytesCells
    rw [Array.size_append, Array.size_map, Array.size_replicate]
    have : s.data.size = s.size := rfl
    omega
  refine ⟨_, _, h0, ⟨w.heap.size, _, _, _, by rw [hsl], Nat.le_refl _, Lib.bytesWorld_at_new w _ s, .inr (by rw [hcs]; exact Nat.le_refl _), by rw [hsl]; exact hge, hcm, hcs, ?_⟩, Joins.below_bytesWorld _ _ _ _ (Nat.le_refl _)⟩
  unfold Lib.bytesCells
  rw [Array.toList_append, Array.toList_map]
  have e : s.data.toList.length = (s.data.toList.map fun b => Value.int .u8 b.toNat).length := by rw [List.length_map]
  rw [e]
  exact List.take_left
/-- string(b) of such a slice -/
theorem conv_F {w : World} {B : Nat} {v : Value} {l : List UInt8} (h : ownF w B v l) : (convert 63 9 v).run Tryz.prog w = .ok (.string ⟨l.toArray⟩) w := by
  obtain ⟨g, cap, cur, fr, rfl, hbg, hg, hfr, hnc, hcm, hcs, htake⟩ := h
  rw [run_convert_bytes_string w _ _ _ _ _ _ Tryz.underlying63 Tryz.underlying5 Tryz.underlying9]
  have hc : ∀ j u, (l.map enc)[j]? = some u → w.cell? ((⟨g, 0, none⟩ : Addr).add j) = some u := by
    intro j u hj
    have hjl : j < l.length := by have := (List.getElem?_eq_some_iff.1 hj).1; simpa using this
    have e : (⟨g, 0, none⟩ : Addr).add j = ⟨g, j, none⟩ := by simp [Addr.add]; exact fun h => h.symm
    rw [e, cell_of_row w g j cur _ fr hg, ← Array.getElem?_toList]
    rw [← htake, List.getElem?_take, if_pos hjl] at hj
    exact hj
  have hload := run_loadCells_list (P := Tryz.prog) w ⟨g, 0, none⟩ (l.map enc) hc
  rw [List.length_map] at hload
  have := run_bytesToString (P := Tryz.prog) w ⟨g, 0, none⟩ l.length cap (l.map fun c => (c.toNat : Int)) (by rw [hload]; congr 2; simp [enc])
  rw [this, fold_push]
  simp
end Go.Proofs.YtjjlofaejpnnnaaGreatDoor
namespace Go.Proofs.YtjjlofaejpnnnaaGreatDoor
open Go Go.RowKit
set_option linter.unusedVariables false
def Unq (w : World) (r : List UInt8 × Int × Int) (e : Ending) (w' : World) : Prop := e = .returned (.tuple #[.string ⟨r.1.toArray⟩, .int .i64 r.2.1, .int .i64 r.2.2]) ∧ Below w.heap.size w w'
theorem unq_some {s : ByteArray} {t n : Nat} {L : List UInt8} (ht : t < s.size) (hq : s[t].toNat = 34) (h : scan s (t + 1) = (some L, n)) : unq s t = (L, (n : Int), 0) := by
  unfold unq
  rw [if_neg (by omega)]
  simp only [Int.toNat_natCast]
  rw [dif_pos ht, if_pos hq, h]
theorem unq_none {s : ByteArray} {t n : Nat} (ht : t < s.size) (hq : s[t].toNat = 34) (h : scan s (t + 1) = (none, n)) : unq s t = ([], (n : Int), 10) := by
  unfold unq
  rw [if_neg (by omega)]
  simp only [Int.toNat_natCast]
  rw [dif_pos ht, if_pos hq, h]
theorem unq_fin {w w' : World} {s : ByteArray} {t n : Int} {L : List UInt8} {c : Int} (h : unq s t = (L, n, c)) (hb : Below w.heap.size w w') :
    Unq w (unq s t) (.returned (.tuple #[.string ⟨L.toArray⟩, .int .i64 n, .int .i64 c])) w' := by
  rw [h]; exact ⟨rfl, hb⟩
def UnqRel (s : ByteArray) (t : Nat) (w : World) (v i : Value) (wr : World) : Prop :=
  ∃ (k : Nat) (l : List UInt8), k ≤ s.size ∧ i = .int .i64 k ∧ ownB wr w.heap.size v l ∧ l.length ≤ k ∧ Below w.heap.size w wr ∧ scan s (t + 1) = ((scan s k).1.map (l ++ ·), (scan s k).2)
theorem enc_ofNat {b : Nat} (h : b < 256) : (UInt8.ofNat b).toNat = b := by simp; omega
set_option maxHeartbeats 400000 in
theorem unquote_in (s : ByteArray) (t : Nat) (w : World) (hs : s.size + 8 ≤ 140737488355328) (ht : t < s.size) (hq : s[t].toNat = 34) :
    Calls Tryz.prog 84 #[.string s, .int .i64 t] w (Unq w (unq s t)) := by
  have h0 : ((s[t].toNat : Int) != 34) = false := by simp [hq]
  have h1 : ((t : Int) == (s.size : Int)) = false := by rw [beq_eq_false_iff_ne]; omega
  have h2 : decide ((t : Int) < 0) = false := by simp
  have h3 : decide (s.size < t) = false := by simp; omega
  have HQ := Lib.hid hq
  clear hq
  go_enter Tryz.func84, Tryz.ntmps84
  go_wp2_with fail
  go_step3
  go_wp2_with fail
  go_step3
  go_wp2_with fail
  go_loopw [7, 8] (fun v i wr => UnqRel s t w v i wr) (fun _ i _ => s.size - (intOf i).toNat)
  case atStart => exact ⟨t + 1, [], by omega, by go_num, ownB.nil _ _, by simp, Below.refl _ _, by simp⟩
  case round =>
    obtain ⟨k, l, hk, rfl, hown, hlen, hb, hs0⟩ := hrel
    have HS := Lib.hid hs0
    clear hs0
    have hszr : w.heap.size ≤ wr.heap.size := hb.size
    by_cases hlt : k < s.size
    · by_cases c1 : s[k].toNat = 34
      · have d1 : ((s[k].toNat : Int) == 34) = true := by rw [beq_iff_eq]; omega
        have HE := Lib.hid (scan_quote hlt c1)
        clear c1
        have hcv := conv_own hown
        go_wp2_with fail
        rw [Exit.noGoto_ret]
        go_ret3
        exact unq_fin (unq_some ht HQ.out (by rw [HS.out, HE.out]; simp)) hb
      · have d1 : ((s[k].toNat : Int) == 34) = false := by rw [beq_eq_false_iff_ne]; omega
        by_cases c2 : s[k].toNat = 92
        · have d2 : ((s[k].toNat : Int) == 92) = true := by rw [beq_iff_eq]; omega
          rcases hq : stepEsc s (k + 1) with ⟨n, r⟩
          have hst : stepAt s k hlt = (1 + n, r) := by unfold stepAt; rw [if_pos c2, hq]
          have hle := stepEsc_le (by omega) hq
          have H : Hid (stepEsc s ((k : Int) + 1).toNat = (n, r)) := Lib.hid (by rw [show ((k : Int) + 1).toNat = k + 1 from by omega]; exact hq)
          have hn := hle.1
          cases r with
          | none =>
            have HE := Lib.hid (scan_stop hlt c1 hst)
            clear c1 c2 hq hst hle
            go_wp2_with (go_at_call 110; refine (escaped_any s _ n none _ (by omega) (by omega) (by unfold maxLen; omega) H.out).mono ?_; rintro e w' ⟨rfl, rfl⟩)
            rw [Exit.noGoto_ret]
            go_ret3
            exact unq_fin (unq_none ht HQ.out (by rw [HS.out, HE.out]; simp; omega)) hb
          | some b =>
            have hb256 : b < 256 := hle.2 b rfl
            have HE := Lib.hid (scan_step hlt c1 hst)
            clear c1 c2 hq hst hle
            go_wp2_with (first | (go_at_call 110; refine (escaped_any s _ n (some b) _ (by omega) (by omega) (by unfold maxLen; omega) H.out).mono ?_; rintro e w' ⟨rfl, rfl⟩) | (at_builtin; refine app_bytes rfl _ _ rfl w.heap.size _ _ rfl (hown.alloc _) ⟨wr.heap.size, 0, none⟩ 1 1 [UInt8.ofNat b] rfl rfl (cells_new wr _ _ _ (by simp [enc, enc_ofNat hb256])) (by omega) (by simp; omega) ?_; intro v2 w2 hown2 hb2))
            go_roundw
            case rel => exact ⟨k + (1 + n), l ++ [UInt8.ofNat b], by omega, by go_num, hown2, by simp; omega, (hb.alloc hszr _).trans hb2, by rw [HS.out, HE.out]; simp [Option.map_map, Function.comp_def]⟩
            case measure => simp [intOf]; omega
        · have d2 : ((s[k].toNat : Int) == 92) = false := by rw [beq_eq_false_iff_ne]; omega
          cases hn : numBQ (s[k].toNat : Int) with
          | true =>
            have hst : stepAt s k hlt = (0, none) := by unfold stepAt; rw [if_neg c2, if_pos (Or.inl hn)]
            have HE := Lib.hid (scan_stop hlt c1 hst)
            have HN := Lib.hid hn
            clear c1 c2 hst hn
            go_wp2_with (go_at_call 111; refine (numbered_yes _ _ HN.out).mono ?_; rintro e w' ⟨rfl, rfl⟩)
            rw [Exit.noGoto_ret]
            go_ret3
            exact unq_fin (unq_none ht HQ.out (by rw [HS.out, HE.out]; simp)) hb
          | false =>
            have HN := Lib.hid hn
            by_cases c3 : s[k].toNat = 10
            · have d3 : ((s[k].toNat : Int) == 10) = true := by rw [beq_iff_eq]; omega
              have hst : stepAt s k hlt = (0, none) := by unfold stepAt; rw [if_neg c2, if_pos (Or.inr c3)]
              have HE := Lib.hid (scan_stop hlt c1 hst)
              clear c1 c2 c3 hst hn
              go_wp2_with (go_at_call 111; refine (numbered_no _ _ HN.out).mono ?_; rintro e w' ⟨rfl, rfl⟩)
              rw [Exit.noGoto_ret]
              go_ret3
              exact unq_fin (unq_none ht HQ.out (by rw [HS.out, HE.out]; simp)) hb
            · have d3 : ((s[k].toNat : Int) == 10) = false := by rw [beq_eq_false_iff_ne]; omega
              have hst : stepAt s k hlt = (1, some s[k].toNat) := by unfold stepAt; rw [if_neg c2, if_neg (by rw [hn]; simp [c3])]
              have HE := Lib.hid (scan_step hlt c1 hst)
              clear c1 c2 c3 hst hn
              go_wp2_with (first | (go_at_call 111; refine (numbered_no _ _ HN.out).mono ?_; rintro e w' ⟨rfl, rfl⟩) | (at_builtin; refine app_bytes rfl _ _ rfl w.heap.size _ _ rfl (hown.alloc _) ⟨wr.heap.size, 0, none⟩ 1 1 [s[k]] rfl rfl (cells_new wr _ _ _ rfl) (by omega) (by simp; omega) ?_; intro v2 w2 hown2 hb2))
              go_roundw
              case rel => exact ⟨k + 1, l ++ [s[k]], by omega, by go_num, hown2, by simp; omega, (hb.alloc hszr _).trans hb2, by rw [HS.out, HE.out]; simp [Option.map_map, Function.comp_def]⟩
              case measure => simp [intOf]; omega
    · have HE := Lib.hid (scan_end hlt)
      go_wp2_with fail
      rw [Exit.noGoto_ret]
      go_ret3
      exact unq_fin (unq_none ht HQ.out (by rw [HS.out, HE.out]; rfl)) hb
set_option maxHeartbeats 400000 in
theorem unquote_any (s : ByteArray) (t : Int) (w : World) (hs : s.size + 8 ≤ 140737488355328) :
    Calls Tryz.prog 84 #[.string s, .int .i64 t] w (Unq w (unq s t)) := by
  by_cases h0 : t < 0 ∨ (s.size : Int) < t
  · have hu : unq s t = ([], 0, 2) := by unfold unq; rw [if_pos h0]
    have HU := Lib.hid hu
    clear hu
    rcases h0 with h0 | h0
    · go_enter Tryz.func84, Tryz.ntmps84
      go_wp2_with fail
      go_step3
      go_wp2_with fail
      rw [Exit.noGoto_ret]
      go_ret3
      exact unq_fin HU.out (Below.refl _ _)
    · have h1 : ¬ t < 0 := by omega
      go_enter Tryz.func84, Tryz.ntmps84
      go_wp2_with fail
      go_step3
      go_wp2_with fail
      rw [Exit.noGoto_ret]
      go_ret3
      exact unq_fin HU.out (Below.refl _ _)
  · obtain ⟨t, rfl⟩ := Int.eq_ofNat_of_zero_le (show 0 ≤ t by omega)
    by_cases ht : t < s.size
    · by_cases hq : s[t].toNat = 34
      · exact unquote_in s t w hs ht hq
      · have hu : unq s t = ([], (t : Int), 10) := by
          unfold unq; rw [if_neg h0]; simp only [Int.toNat_natCast]; rw [dif_pos ht, if_neg hq]
        have HU := Lib.hid hu
        have h4 : ((s[t].toNat : Int) != 34) = true := by rw [bne_iff_ne]; omega
        have h1 : ((t : Int) == (s.size : Int)) = false := by rw [beq_eq_false_iff_ne]; omega
        have h2 : decide ((t : Int) < 0) = false := by simp
        have h3 : decide (s.size < t) = false := by simp; omega
        clear hu hq h0
        go_enter Tryz.func84, Tryz.ntmps84
        go_wp2_with fail
        go_step3
        go_wp2_with fail
        rw [Exit.noGoto_ret]
        go_ret3
        exact unq_fin HU.out (Below.refl _ _)
    · have hu : unq s t = ([], (t : Int), 10) := by
        unfold unq; rw [if_neg h0]; simp only [Int.toNat_natCast]; rw [dif_neg ht]
      have HU := Lib.hid hu
      have h1 : ((t : Int) == (s.size : Int)) = true := by rw [beq_iff_eq]; omega
      have h2 : decide ((t : Int) < 0) = false := by simp
      have h3 : decide (s.size < t) = false := by simp; omega
      clear hu h0
      go_enter Tryz.func84, Tryz.ntmps84
      go_wp2_with fail
      go_step3
      go_wp2_with fail
      rw [Exit.noGoto_ret]
      go_ret3
      exact unq_fin HU.out (Below.refl _ _)
end Go.Proofs.YtjjlofaejpnnnaaGreatDoor
namespace Go.Proofs.YtjjlofaejpnnnaaGreatDoor
open Go Go.RowKit
set_option linter.unusedVariables false
theorem index_cut (c : UInt8) : ∀ l : List UInt8, Lib.indexByte l c = if l.contains c = true then ((cutA c l).length : Int) else -1
  | [] => rfl
  | b :: l => by
    have ih := index_cut c l
    unfold Lib.indexByte
    by_cases hb : b = c
    · subst hb
      have e : cutA b (b :: l) = [] := by unfold cutA; rw [List.takeWhile_cons]; simp
      rw [e]
      simp
    · have hbc : (b == c) = false := by simpa using hb
      have hcb : (c == b) = false := by simpa using fun e : c = b => hb e.symm
      have e : cutA c (b :: l) = b :: cutA c l := by unfold cutA; rw [List.takeWhile_cons, if_pos (by simpa using hb)]
      rw [hbc, e, ih, List.contains_cons, hcb, Bool.false_or]
      by_cases hc : l.contains c = true
      · rw [if_pos hc, if_pos hc, List.length_cons]
        have : (((cutA c l).length : Int) == -1) = false := by rw [beq_eq_false_iff_ne]; omega
        rw [this]
        simp
      · rw [if_neg hc, if_neg hc]
        simp
theorem cutA_take (c : UInt8) (l : List UInt8) : cutA c l = l.take (cutA c l).length := List.prefix_iff_eq_take.1 (List.takeWhile_prefix _)
theorem cutA_lt {c : UInt8} {l : List UInt8} (h : l.contains c = true) : (cutA c l).length < l.length := by
  have hm : c ∈ l := by simpa using h
  rcases Nat.lt_or_ge (cutA c l).length l.length with hl | hl
  · exact hl
  · exfalso
    have e := cutA_take c l
    rw [List.take_of_length_le hl] at e
    rw [← e] at hm
    have := takeWhile_mem hm
    simp at this
theorem cut_no {c : UInt8} {l : List UInt8} (h : ¬ l.contains c = true) : cutA c l = l ∧ cutB c l = [] := cut_all fun x hx e => h (by subst e; simpa using hx)
/-- is the byte there? -/
def hasS (l : List UInt8) (c : UInt8) : Bool := l.contains c
/-- cut at one byte -/
def CutP (c : UInt8) (s : ByteArray) (w : World) (e : Ending) (w' : World) : Prop :=
  ∃ a b : ByteArray, e = .returned (.tuple #[.string a, .string b, .bool (hasS s.data.toList c)]) ∧ a.data.toList = cutA c s.data.toList ∧ b.data.toList = cutB c s.data.toList ∧ a.size ≤ s.size ∧ b.size ≤ s.size ∧ Below w.heap.size w w'
theorem sz_of {a : ByteArray} {l : List UInt8} (h : a.data.toList = l) : a.size = l.length := by rw [← h, toList_eq]
theorem cutA_le (c : UInt8) (l : List UInt8) : (cutA c l).length ≤ l.length := by rw [cutA_take]; exact List.length_take_le' _ _
theorem cutB_le (c : UInt8) (l : List UInt8) : (cutB c l).length ≤ l.length := by unfold cutB; rw [List.length_drop, List.length_drop]; omega
theorem cutP {c : UInt8} {s a b : ByteArray} {w w' : World} {x : Bool} (hx : x = hasS s.data.toList c) (ha : a.data.toList = cutA c s.data.toList) (hb : b.data.toList = cutB c s.data.toList) (h : Below w.heap.size w w') : CutP c s w (.returned (.tuple #[.string a, .string b, .bool x])) w' :=
  ⟨a, b, by rw [hx], ha, hb, by rw [sz_of ha, ← toList_eq]; exact cutA_le _ _, by rw [sz_of hb, ← toList_eq]; exact cutB_le _ _, h⟩
set_option maxHeartbeats 1600000 in
theorem lcut_any (s : ByteArray) (c : UInt8) (w : World) (hs : s.size ≤ 281474976710656) : Calls Tryz.prog 40 #[.string s, .string ⟨#[c]⟩] w (CutP c s w) := by
  have HI := Lib.hid (Tryz.stringslite_Index_one s c w)
  rw [index_cut] at HI
  by_cases hc : s.data.toList.contains c = true
  · rw [if_pos hc] at HI
    have hlt := cutA_lt hc
    rw [toList_eq] at hlt
    have HA := Lib.hid (cutA_take c s.data.toList)
    have HC := Lib.hid hc
    obtain ⟨k, hk⟩ : ∃ k, (cutA c s.data.toList).length = k := ⟨_, rfl⟩
    have HK := Lib.hid hk
    rw [hk] at HI hlt
    clear hc hk
    have h0 : (0 : Int) ≤ (k : Int) := by omega
    have hw1 : IntKind.i64.wrap ((k : Int) + 1) = (k : Int) + 1 := IntWalk.i64_in _ (by omega)
    have hb1 : (0 : Int) ≤ (k : Int) ∧ (k : Int) ≤ (s.size : Int) := by omega
    have hb2 : (0 : Int) ≤ (k : Int) + 1 ∧ (k : Int) + 1 ≤ (s.size : Int) := by omega
    go_enter Tryz.func40, Tryz.ntmps40
    go_wp2_with (go_at_call 75; refine HI.out.mono ?_; rintro e w' ⟨rfl, rfl⟩)
    go_quiet (fail)
    go_wp2_with fail
    go_ret3
    refine cutP HC.out.symm ?_ ?_ ?_
    · rw [HA.out, HK.out, Lib.extract_data]; simp
    · unfold cutB
      rw [HK.out, List.drop_drop, Lib.extract_data]
      rw [List.take_of_length_le (by rw [List.length_drop, toList_eq]; omega)]
    · exact below_drewN (Below.refl _ _) _
  · rw [if_neg hc] at HI
    have HC := Lib.hid (cut_no hc)
    have HF : Hid (s.data.toList.contains c = false) := Lib.hid (by simpa using hc)
    clear hc
    go_enter Tryz.func40, Tryz.ntmps40
    go_wp2_with (go_at_call 75; refine HI.out.mono ?_; rintro e w' ⟨rfl, rfl⟩)
    go_ret3
    exact cutP HF.out.symm HC.out.1.symm HC.out.2.symm (Below.refl _ _)
theorem cut_any (s : ByteArray) (c : UInt8) (w : World) (hs : s.size ≤ 281474976710656) : Calls Tryz.prog 18 #[.string s, .string ⟨#[c]⟩] w (CutP c s w) := by
  have HI := Lib.hid (lcut_any s c w hs)
  go_enter Tryz.func18, Tryz.ntmps18
  go_wp2_with (go_at_call 40; refine HI.out.mono ?_; rintro e w' ⟨a, b, rfl, ha, hb, h1, h2, h3⟩)
  go_ret3
  exact ⟨a, b, rfl, ha, hb, h1, h2, h3⟩
/-- a number, or none -/
def NumP (w : World) (r : Option Int) (e : Ending) (w' : World) : Prop := e = .returned (.tuple #[.int .i64 (r.getD 0), .bool r.isSome]) ∧ Below w.heap.size w w'
theorem numP {w w' : World} {r : Option Int} {n : Int} {b : Bool} (hn : n = r.getD 0) (hb : b = r.isSome) (h : Below w.heap.size w w') : NumP w r (.returned (.tuple #[.int .i64 n, .bool b])) w' := by subst hn hb; exact ⟨rfl, h⟩
theorem int_none {s : ByteArray} {w : World} (hs : s.size ≤ 281474976710656) (hE : Env w) (h : intT s.data.toList = none) : Calls Tryz.prog 39 #[.string s] w fun e w' => e = .returned (.tuple #[.int .i64 0, .int .i64 2]) ∧ Below w.heap.size w w' := by
  have := int_any s w hs hE
  rw [h] at this
  exact this
theorem int_some {s : ByteArray} {w : World} {n : Int} (hs : s.size ≤ 281474976710656) (hE : Env w) (h : intT s.data.toList = some n) : Calls Tryz.prog 39 #[.string s] w fun e w' => e = .returned (.tuple #[.int .i64 n, .int .i64 0]) ∧ Below w.heap.size w w' := by
  have := int_any s w hs hE
  rw [h] at this
  exact this
set_option maxHeartbeats 800000 in
theorem number_any (s : ByteArray) (most : Int) (w : World) (hs : s.size ≤ 281474976710656) (hE : Env w) : Calls Tryz.prog 76 #[.string s, .int .i64 most] w (NumP w (numberV s.data.toList (most + 1))) := by
  cases hi : intT s.data.toList with
  | none =>
    have HI := Lib.hid (int_none hs hE hi)
    have HR : Hid (numberV s.data.toList (most + 1) = none) := Lib.hid (by unfold numberV; rw [hi])
    clear hi hE
    rw [HR.out]
    go_enter Tryz.func76, Tryz.ntmps76
    go_wp2_with (go_at_call 39; refine HI.out.mono ?_; rintro e w' ⟨rfl, hb⟩)
    go_ret2
    exact numP rfl rfl hb
  | some n =>
    have HI := Lib.hid (int_some hs hE hi)
    by_cases h1 : n < 1
    · have HR : Hid (numberV s.data.toList (most + 1) = none) := Lib.hid (by unfold numberV; rw [hi]; simp only; rw [if_neg (by omega)])
      clear hi hE
      rw [HR.out]
      go_enter Tryz.func76, Tryz.ntmps76
      go_wp2_with (go_at_call 39; refine HI.out.mono ?_; rintro e w' ⟨rfl, hb⟩)
      go_ret2
      exact numP rfl rfl hb
    · by_cases h2 : most < n
      · have HR : Hid (numberV s.data.toList (most + 1) = none) := Lib.hid (by unfold numberV; rw [hi]; simp only; rw [if_neg (by omega)])
        clear hi hE
        rw [HR.out]
        go_enter Tryz.func76, Tryz.ntmps76
        go_wp2_with (go_at_call 39; refine HI.out.mono ?_; rintro e w' ⟨rfl, hb⟩)
        go_ret2
        exact numP rfl rfl hb
      · have HR : Hid (numberV s.data.toList (most + 1) = some n) := Lib.hid (by unfold numberV; rw [hi]; simp only; rw [if_pos (by omega)])
        clear hi hE
        rw [HR.out]
        go_enter Tryz.func76, Tryz.ntmps76
        go_wp2_with (go_at_call 39; refine HI.out.mono ?_; rintro e w' ⟨rfl, hb⟩)
        go_ret2
        exact numP rfl rfl hb
/-- a word in memory of its own, or none -/
def WordP (w : World) (s : ByteArray) (e : Ending) (w' : World) : Prop := e = .returned (.tuple #[.string (if wordL s.data.toList = true then s else ⟨#[]⟩), .bool (wordL s.data.toList)]) ∧ Below w.heap.size w w'
theorem wpList_convS {w w' : World} {ops : Array Oper} {rest : List Oper} {o : Oper} {a : Act} {Q : Exit → Act → World → Prop} (hgd : o.guard = none) {src dst : TypeId} (x : Operand) (ho : o.op = .convert src dst x)
    {v v' : Value} (hx : a.eval x = v) (hr : (convert src dst v).run Tryz.prog w = .ok v' w') (h : wpList Tryz.prog ops Q rest (a.put o.dst v') w') : wpList Tryz.prog ops Q (o :: rest) a w :=
  wpList_plain hgd fun K hK => by
    unfold Oper.wp execOp
    simp only [ho, hx, Sem.run_bind, Sem.run_pure, Result.andThen_ok, hr]
    exact hK _ _ h
theorem ba_listS (s : ByteArray) : (⟨s.data.toList.toArray⟩ : ByteArray) = s := by apply ByteArray.ext; simp
set_option maxHeartbeats 800000 in
theorem wordS_any (s : ByteArray) (w : World) (hs : s.size ≤ 140737488355328) : Calls Tryz.prog 83 #[.string s] w (WordP w s) := by
  have HW := Lib.hid (word_any s w (by unfold maxLen; omega))
  unfold wordB at HW
  unfold WordP
  cases hb : wordL s.data.toList with
  | false =>
    rw [hb] at HW
    clear hb
    go_enter Tryz.func83, Tryz.ntmps83
    go_wp2_with (go_at_call 64; refine HW.out.mono ?_; rintro e w' ⟨rfl, rfl⟩)
    go_ret2
    exact ⟨rfl, Below.refl _ _⟩
  | true =>
    rw [hb] at HW
    clear hb
    rw [if_pos rfl]
    obtain ⟨v, w1, hr1, ho1, hb1⟩ := conv_bytes w s hs
    have hr2 := conv_F ho1
    rw [ba_listS] at hr2
    have HR1 := Lib.hid hr1
    have HR2 := Lib.hid hr2
    have HB1 := Lib.hid hb1
    clear hr1 hr2 ho1 hb1 hs
    go_enter Tryz.func83, Tryz.ntmps83
    go_wp2_with (first | (go_at_call 64; refine HW.out.mono ?_; rintro e w' ⟨rfl, rfl⟩) | ((with_reducible show wpList _ _ _ (Oper.mk _ (Op.convert 9 63 _) _ _ _ _ :: _) _ _); go_must (refine wpList_convS rfl _ rfl rfl HR1.out ?_)) | ((with_reducible show wpList _ _ _ (Oper.mk _ (Op.convert 63 9 _) _ _ _ _ :: _) _ _); go_must (refine wpList_convS rfl _ rfl rfl HR2.out ?_)))
    go_ret2
    exact ⟨rfl, HB1.out⟩
end Go.Proofs.YtjjlofaejpnnnaaGreatDoor

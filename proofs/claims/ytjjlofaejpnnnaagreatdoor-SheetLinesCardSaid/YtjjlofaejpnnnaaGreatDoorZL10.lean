/-
  A NODE LET STAND, step by step, in memory: the reader's box, the nodes, the set, the new node's own box.
  WALKS over package names: addForm, Quote.
  WALKS over package names: Quote.
  A PAGE IN MEMORY: a box that holds bytes of the call's own; WALKS over package sheet: long, line, show.
  BYTES THAT A CONVERSION MADE, and append of a string's bytes to them (a conversion's block bears a mark behind its last cell).
-/
import Derived.Test.YtjjlofaejpnnnaaGreatDoorZL9
import Derived.Deep.Cut
import Derived.Laws.CopyRow
namespace Go.Proofs.YtjjlofaejpnnnaaGreatDoor
open Go Go.RowKit Go.Sort
set_option linter.unusedVariables false
theorem drewS_below (w : World) : Below w.heap.size w w.drew := ⟨rfl, rfl, rfl, Nat.le_refl _, fun _ _ => rfl⟩
theorem below_own {B0 : Nat} {w W W' : World} {r : Option Nat} (h : Below B0 w W) (hs : B0 ≤ W.heap.size) (hg : W.grownBy W' r) (hr : ∀ g, r = some g → B0 ≤ g) : Below B0 w W' :=
  ⟨hg.os.trans h.os, hg.tape.trans h.tape, hg.output.trans h.output, Nat.le_trans h.size hg.size, fun g hb => (hg.block g (by omega) (fun he => by have := hr g he.symm; omega)).trans (h.block g hb)⟩
def ndBox (nd : Nd) : Array Value := #[.int .i64 nd.id, .string nd.con, .int .i64 nd.par, .string nd.role, .slice none 0 0, .slice none 0 0, .slice none 0 0]
def rdBox (next : Int) (v : Value) (gm : Nat) (root : Int) (vw : Value) : Array Value := #[.int .i64 next, v, .map (some gm), .int .i64 root, vw]
structure Mid (B0 B gr gm gn k : Nat) (next root : Int) (v vw : Value) (l : List (Nd × Leaf)) (ws ids : List Int) (nn : Nd) (w W : World) : Prop where
  bx : Blk W gr 45 (rdBox next v gm root vw)
  np : NP B v vw l ws W
  set : SeenIs W gm k ids
  nb : Blk W gn 55 (ndBox nn)
  bel : Below B0 w W
  l0 : B0 ≤ gr
  l1 : B0 ≤ gm
  l2 : gr < B
  l3 : gm < B
  lgn : B0 ≤ gn
  gv : v.ownBlock ≠ some gn
theorem NP.otherN {B g i : Nat} {v vw : Value} {l : List (Nd × Leaf)} {ws : List Int} {w : World} {cs : Array Value} {u : Value} (h : NP B v vw l ws w) (hg : Blk w g 55 cs) (hv : v.ownBlock ≠ some g) : NP B v vw l ws (w.setCell ⟨g, i, none⟩ u) := by
  refine ⟨?_, fun p hp => (h.leaf p hp).other hg (by decide) (by decide) (by decide) i u, own_other h.way hg (by decide) i u, h.ap, h.ak, h.ar, ?_⟩
  · exact World.ownsRow.kept h.own (row := some g) ⟨rfl, rfl, rfl, by simp, fun k _ hk => heap_setCell_other w ⟨g, i, none⟩ k u (fun e => hk (by simp [e]))⟩ (.inr hv)
  · have := ((Below.refl 0 w).setCell (p := ⟨g, i, none⟩) (Nat.zero_le _) u).size
    exact Nat.le_trans h.hB this
section
variable {B0 B gr gm gn k : Nat} {next root : Int} {v vw : Value} {l : List (Nd × Leaf)} {ws ids : List Int} {nn : Nd} {w W W' : World}
theorem Mid.hs (h : Mid B0 B gr gm gn k next root v vw l ws ids nn w W) : B0 ≤ W.heap.size := Nat.le_trans h.l0 (Nat.le_of_lt h.bx.lt)
theorem Mid.after (h : Mid B0 B gr gm gn k next root v vw l ws ids nn w W) (hb : Below W.heap.size W W') : Mid B0 B gr gm gn k next root v vw l ws ids nn w W' :=
  ⟨h.bx.after hb, h.np.after hb, h.set.after hb, h.nb.after hb, h.bel.trans (hb.mono h.hs), h.l0, h.l1, h.l2, h.l3, h.lgn, h.gv⟩
theorem Mid.drew (h : Mid B0 B gr gm gn k next root v vw l ws ids nn w W) : Mid B0 B gr gm gn k next root v vw l ws ids nn w W.drew := h.after (drewS_below _)
theorem Mid.alloc (h : Mid B0 B gr gm gn k next root v vw l ws ids nn w W) (o : Obj) : Mid B0 B gr gm gn k next root v vw l ws ids nn w (W.alloc o) := h.after ((Below.refl _ _).alloc (Nat.le_refl _) o)
theorem Mid.ne (h : Mid B0 B gr gm gn k next root v vw l ws ids nn w W) : gn ≠ gr := by
  rintro rfl
  exact absurd rfl (Blk.ne_ h.nb h.bx (by decide))
/-- the last root is another one -/
theorem Mid.rootS (h : Mid B0 B gr gm gn k next root v vw l ws ids nn w W) (r : Int) : Mid B0 B gr gm gn k next r v vw l ws ids nn w (W.setCell ⟨gr, 3, none⟩ (.int .i64 r)) :=
  ⟨by have := h.bx.set_ 3 (.int .i64 r); simpa [rdBox] using this, h.np.other h.bx (by decide) (by decide) (by decide) (by decide) _ _, h.set.set (p := ⟨gr, 3, none⟩) (h.set.blk_ne h.bx) _, h.nb.far (p := ⟨gr, 3, none⟩) h.ne _, h.bel.setCell (p := ⟨gr, 3, none⟩) h.l0 _, h.l0, h.l1, h.l2, h.l3, h.lgn, h.gv⟩
/-- the parent is known -/
theorem Mid.par (h : Mid B0 B gr gm gn k next root v vw l ws ids nn w W) (y : Int) : Mid B0 B gr gm gn k next root v vw l ws ids { nn with par := y } w (W.setCell ⟨gn, 2, none⟩ (.int .i64 y)) :=
  ⟨h.bx.far (p := ⟨gn, 2, none⟩) (Ne.symm h.ne) _, h.np.otherN h.nb h.gv, h.set.set (p := ⟨gn, 2, none⟩) (h.set.blk_ne h.nb) _, by have := h.nb.set_ 2 (.int .i64 y); simpa [ndBox] using this, h.bel.setCell (p := ⟨gn, 2, none⟩) h.lgn _, h.l0, h.l1, h.l2, h.l3, h.lgn, h.gv⟩
/-- a kid more -/
theorem Mid.kid {n c g i : Nat} {nd : Nd} {P K R : Sl} {Ak : Option Addr} {ck : Nat} {y : Int} (h : Mid B0 B gr gm gn k next root (.slice (some ⟨g, 0, none⟩) n c) vw l ws ids nn w W) (hB : B0 ≤ B) (hl : l.length = n) (hi : l[i]? = some (nd, ⟨P, K, R⟩))
    (ho : W'.ownsRow B 3 1 (.slice Ak (K.n + 1) ck) (K.n + 1) (intCells nd.kids ++ [.int .i64 y])) (hg : W.grownBy W' (Value.slice K.A K.n K.c).ownBlock) (hnew : (Value.slice Ak (K.n + 1) ck).ownBlock = (Value.slice K.A K.n K.c).ownBlock ∨ (Value.slice Ak (K.n + 1) ck).ownBlock = some W.heap.size) :
    Mid B0 B gr gm gn k next root (.slice (some ⟨g, 0, none⟩) n c) vw (l.set i ({ nd with kids := nd.kids ++ [y] }, ⟨P, ⟨Ak, K.n + 1, ck⟩, R⟩)) ws ids nn w (W'.setCell ⟨g, i * 7 + 5, none⟩ (.slice Ak (K.n + 1) ck)) := by
  have hkr : W.ownsRow B 3 1 (.slice K.A K.n K.c) K.n (intCells nd.kids) := (h.np.leaf _ (List.mem_of_getElem? hi)).k
  have hbx := h.bx.grown hg (Ne.symm (own_blk_ne hkr h.bx (by decide)))
  have hnb := h.nb.grown hg (Ne.symm (own_blk_ne hkr h.nb (by decide)))
  have hst := h.set.grown hkr hg
  have hgB : B ≤ g := (World.ownsRow.lt h.np.own g rfl).1
  have hgg : g ≠ gr := by have := h.l2; omega
  have hgn : g ≠ gn := fun e => h.gv (by rw [e]; rfl)
  have hgm : g ≠ gm := by have := h.l3; omega
  exact ⟨hbx.far (p := ⟨g, _, none⟩) (Ne.symm hgg) _, h.np.kid hl hi ho hg hnew, hst.set (p := ⟨g, _, none⟩) (Ne.symm hgm) _, hnb.far (p := ⟨g, _, none⟩) (Ne.symm hgn) _,
    (below_own h.bel h.hs hg fun x hx => by have := (World.ownsRow.lt hkr x hx).1; omega).setCell (p := ⟨g, _, none⟩) (by show B0 ≤ g; omega) _, h.l0, h.l1, h.l2, h.l3, h.lgn, h.gv⟩
/-- a number more is told -/
theorem Mid.put {y : Int} (h : Mid B0 B gr gm gn k next root v vw l ws ids nn w W) (hs : SeenIs W' gm (k + 1) (ids ++ [y])) (hg : W.grownBy W' (some gm)) : Mid B0 B gr gm gn (k + 1) next root v vw l ws (ids ++ [y]) nn w W' :=
  ⟨h.bx.grown hg (fun e => absurd (Option.some.inj e).symm (h.set.blk_ne h.bx)), h.np.map hg (fun g cs t e => by obtain rfl := Option.some.inj e; exact h.set.not_cells _ _ _), hs, h.nb.grown hg (fun e => absurd (Option.some.inj e).symm (h.set.blk_ne h.nb)),
    below_own h.bel h.hs hg fun x hx => by obtain rfl := Option.some.inj hx; exact h.l1, h.l0, h.l1, h.l2, h.l3, h.lgn, h.gv⟩
/-- the way: cut, and a place more -/
theorem Mid.wayA {vw' : Value} {ws' : List Int} (h : Mid B0 B gr gm gn k next root v vw l ws ids nn w W) (hB : B0 ≤ B) (ho : W'.ownsRow B 3 1 vw' ws'.length (intCells ws')) (hg : W.grownBy W' vw.ownBlock) (hnew : vw'.ownBlock = vw.ownBlock ∨ vw'.ownBlock = some W.heap.size) :
    Mid B0 B gr gm gn k next root v vw' l ws' ids nn w (W'.setCell ⟨gr, 4, none⟩ vw') := by
  have hbx := h.bx.grown hg (Ne.symm (own_blk_ne h.np.way h.bx (by decide)))
  have hnb := h.nb.grown hg (Ne.symm (own_blk_ne h.np.way h.nb (by decide)))
  have hst := h.set.grown h.np.way hg
  exact ⟨by have := hbx.set_ 4 vw'; simpa [rdBox] using this, (h.np.wayA ho hg hnew).other hbx (by decide) (by decide) (by decide) (by decide) _ _, hst.set (p := ⟨gr, 4, none⟩) (hst.blk_ne hbx) _, hnb.far (p := ⟨gr, 4, none⟩) h.ne _,
    (below_own h.bel h.hs hg fun x hx => by have := (World.ownsRow.lt h.np.way x hx).1; omega).setCell (p := ⟨gr, 4, none⟩) h.l0 _, h.l0, h.l1, h.l2, h.l3, h.lgn, h.gv⟩
/-- what there is behind the last step -/
structure MidE (B0 B gr gm k : Nat) (next root : Int) (v vw : Value) (l : List (Nd × Leaf)) (ws ids : List Int) (w W : World) : Prop where
  bx : Blk W gr 45 (rdBox next v gm root vw)
  np : NP B v vw l ws W
  set : SeenIs W gm k ids
  bel : Below B0 w W
theorem Mid.node {v' : Value} (h : Mid B0 B gr gm gn k next root v vw l ws ids nn w W) (hB : B0 ≤ B) (h1 : nn.props = []) (h2 : nn.kids = []) (h3 : nn.refs = []) (hz : SzN nn)
    (ho : OwnN W' B v' (l ++ [(nn, ⟨⟨none, 0, 0⟩, ⟨none, 0, 0⟩, ⟨none, 0, 0⟩⟩)])) (hg : W.grownBy W' v.ownBlock) :
    MidE B0 B gr gm k next root v' vw (l ++ [(nn, ⟨⟨none, 0, 0⟩, ⟨none, 0, 0⟩, ⟨none, 0, 0⟩⟩)]) ws ids w (W'.setCell ⟨gr, 1, none⟩ v') := by
  have hbx := h.bx.grown hg (Ne.symm (own_blk_ne h.np.own h.bx (by decide)))
  have hst := h.set.grown h.np.own hg
  exact ⟨by have := hbx.set_ 1 v'; simpa [rdBox] using this, (h.np.node ho hg h1 h2 h3 rfl hz).other hbx (by decide) (by decide) (by decide) (by decide) _ _, hst.set (p := ⟨gr, 1, none⟩) (hst.blk_ne hbx) _,
    (below_own h.bel h.hs hg fun x hx => by have := (World.ownsRow.lt h.np.own x hx).1; omega).setCell (p := ⟨gr, 1, none⟩) h.l0 _⟩
end
end Go.Proofs.YtjjlofaejpnnnaaGreatDoor
namespace Go.Proofs.YtjjlofaejpnnnaaGreatDoor
open Go Go.RowKit
set_option linter.unusedVariables false
theorem cells_new (w : World) (news : List UInt8) (cs : Array Value) (T : TypeId) (hc : cs.toList = news.map enc) : ∀ j u, (news.map enc)[j]? = some u → (w.alloc (.cells cs T)).cell? ((⟨w.heap.size, 0, none⟩ : Addr).add j) = some u := by
  intro j u h
  have e : (⟨w.heap.size, 0, none⟩ : Addr).add j = ⟨w.heap.size, j, none⟩ := by simp [Addr.add]; exact fun h => h.symm
  rw [e, World.cell?_alloc_at _ _ _ _ rfl, ← Array.getElem?_toList, hc, h]
theorem cells_newd (w : World) (news : List UInt8) (cs : Array Value) (T : TypeId) (hc : cs.toList = news.map enc) : ∀ j u, (news.map enc)[j]? = some u → (w.alloc (.cells cs T)).drew.cell? ((⟨w.heap.size, 0, none⟩ : Addr).add j) = some u :=
  cells_new w news cs T hc
theorem and_15 (c : UInt8) : bits BinOp.and IntKind.u8 (c.toNat : Int) 15 = (c.toNat : Int) % 16 := by
  revert c; apply all256; decide +kernel
theorem hex_at (k : Nat) (h : k < 16) : (⟨#[48, 49, 50, 51, 52, 53, 54, 55, 56, 57, 97, 98, 99, 100, 101, 102]⟩ : ByteArray)[k]'h = hexOf k := by
  have : ∀ k : Fin 16, (⟨#[48, 49, 50, 51, 52, 53, 54, 55, 56, 57, 97, 98, 99, 100, 101, 102]⟩ : ByteArray)[k.val]'k.isLt = hexOf k.val := by decide +kernel
  exact this ⟨k, h⟩
theorem toNat_q (n : Nat) : ((n : Int) / 16).toNat = n / 16 := by omega
theorem toNat_r (n : Nat) : ((n : Int) % 16).toNat = n % 16 := by omega
/-- what addForm leaves -/
def Added (B : Nat) (w : World) (l : List UInt8) (e : Ending) (w' : World) : Prop := ∃ v', e = .returned v' ∧ ownB w' B v' l ∧ Below B w w'
set_option maxHeartbeats 400000 in
theorem addForm_any (B : Nat) (v : Value) (l : List UInt8) (c : UInt8) (w : World) (hown : ownB w B v l) (hB : B ≤ w.heap.size) (hroom : l.length + 4 ≤ 140737488355328) :
    Calls Tryz.prog 96 #[v, .int .u8 c.toNat] w (Added B w (l ++ form c)) := by
  have hlt := c.toNat_lt
  by_cases c1 : c.toNat = 34 ∨ c.toNat = 92
  · have hf : form c = [92, c] := by unfold form; rw [if_pos c1]
    rw [hf]
    clear hf
    rcases c1 with c1 | c1
    · have d1 : ((c.toNat : Int) == 34) = true := by rw [beq_iff_eq]; omega
      clear c1
      go_enter Tryz.func96, Tryz.ntmps96
      go_wp2_with (at_builtin; refine app_bytes rfl _ _ rfl B v l rfl (hown.alloc _) ⟨w.heap.size, 0, none⟩ 2 2 [92, c] rfl rfl (cells_new w _ _ _ rfl) (by omega) (by simp; omega) ?_; intro v' w1 hown1 hb1)
      go_ret
      exact ⟨_, rfl, hown1, ((Below.refl _ _).alloc hB _).trans hb1⟩
    · have d1 : ((c.toNat : Int) == 92) = true := by rw [beq_iff_eq]; omega
      have d2 : ((c.toNat : Int) == 34) = false := by rw [beq_eq_false_iff_ne]; omega
      clear c1
      go_enter Tryz.func96, Tryz.ntmps96
      go_wp2_with (at_builtin; refine app_bytes rfl _ _ rfl B v l rfl (hown.alloc _) ⟨w.heap.size, 0, none⟩ 2 2 [92, c] rfl rfl (cells_new w _ _ _ rfl) (by omega) (by simp; omega) ?_; intro v' w1 hown1 hb1)
      go_ret
      exact ⟨_, rfl, hown1, ((Below.refl _ _).alloc hB _).trans hb1⟩
  · have d1 : ((c.toNat : Int) == 34) = false := by rw [beq_eq_false_iff_ne]; omega
    have d2 : ((c.toNat : Int) == 92) = false := by rw [beq_eq_false_iff_ne]; omega
    by_cases c2 : c.toNat = 10
    · have hf : form c = [92, 110] := by unfold form; rw [if_neg c1, if_pos c2]
      rw [hf]
      have d3 : ((c.toNat : Int) == 10) = true := by rw [beq_iff_eq]; omega
      clear hf c1 c2
      go_enter Tryz.func96, Tryz.ntmps96
      go_wp2_with (at_builtin; refine app_bytes rfl _ _ rfl B v l rfl (hown.alloc _) ⟨w.heap.size, 0, none⟩ 2 2 [92, 110] rfl rfl (cells_new w _ _ _ rfl) (by omega) (by simp; omega) ?_; intro v' w1 hown1 hb1)
      go_ret
      exact ⟨_, rfl, hown1, ((Below.refl _ _).alloc hB _).trans hb1⟩
    · have d3 : ((c.toNat : Int) == 10) = false := by rw [beq_eq_false_iff_ne]; omega
      cases hn : numBQ (c.toNat : Int) with
      | false =>
        have hf : form c = [c] := by unfold form; rw [if_neg c1, if_neg c2, hn]; rfl
        rw [hf]
        have HN := Lib.hid hn
        clear hf c1 c2 hn
        go_enter Tryz.func96, Tryz.ntmps96
        go_wp2_with (first | (at_builtin; refine app_bytes rfl _ _ rfl B v l rfl (hown.alloc _) ⟨w.heap.size, 0, none⟩ 1 1 [c] rfl rfl (cells_new w _ _ _ rfl) (by omega) (by simp; omega) ?_; intro v' w1 hown1 hb1) | (go_at_call 111; refine (numbered_no _ _ HN.out).mono ?_; rintro e w' ⟨rfl, rfl⟩))
        go_ret
        exact ⟨_, rfl, hown1, ((Below.refl _ _).alloc hB _).trans hb1⟩
      | true =>
        have hf : form c = [92, 120, hexOf (c.toNat / 16), hexOf (c.toNat % 16)] := by unfold form; rw [if_neg c1, if_neg c2, hn]; rfl
        rw [hf]
        have HN := Lib.hid hn
        have q0 : 0 ≤ (c.toNat : Int) / 16 := by omega
        have q1 : (c.toNat : Int) / 16 < 16 := by omega
        have r0 : 0 ≤ (c.toNat : Int) % 16 := by omega
        have r1 : (c.toNat : Int) % 16 < 16 := by omega
        have e15 := and_15 c
        clear hf c1 c2 hn
        go_enter Tryz.func96, Tryz.ntmps96
        go_wp2_with (go_at_call 111; refine (numbered_yes _ _ HN.out).mono ?_; rintro e w' ⟨rfl, rfl⟩)
        go_region_law (refine step_app_bytes rfl _ _ rfl B v l rfl (hown.alloc _) ⟨w.heap.size, 0, none⟩ 4 4 [92, 120, hexOf (c.toNat / 16), hexOf (c.toNat % 16)] rfl rfl (cells_newd w _ _ _ (by simp only [toNat_q, toNat_r]; rw [hex_at _ (by omega), hex_at _ (by omega)]; rfl)) (by omega) (by go_simp; omega) ?_; intro v' w1 hown1 hb1)
        all_goals go_wp2
        all_goals go_ret
        all_goals exact ⟨_, rfl, hown1, (((Below.refl _ _).alloc hB _).drew).trans hb1⟩
end Go.Proofs.YtjjlofaejpnnnaaGreatDoor
namespace Go.Proofs.YtjjlofaejpnnnaaGreatDoor
open Go Go.RowKit
set_option linter.unusedVariables false
theorem take_snoc (s : ByteArray) (k : Nat) (h : k < s.size) : s.data.toList.take (k + 1) = s.data.toList.take k ++ [s[k]] := by
  rw [List.take_succ_eq_append_getElem (by simpa using h)]; rfl
theorem flat_take_le (l : List UInt8) (k : Nat) : ((l.take k).flatMap form).length ≤ (l.flatMap form).length := by
  have h : l.flatMap form = (l.take k).flatMap form ++ (l.drop k).flatMap form := by rw [← List.flatMap_append, List.take_append_drop]
  rw [h, List.length_append]; omega
theorem flat_ge (l : List UInt8) : l.length ≤ (l.flatMap form).length := by
  induction l with
  | nil => simp
  | cons c l ih =>
    rw [List.flatMap_cons, List.length_append, List.length_cons]
    have := form_length c
    omega
def Quoted (w : World) (l : List UInt8) (e : Ending) (w' : World) : Prop := e = .returned (.string ⟨l.toArray⟩) ∧ Below w.heap.size w w'
theorem quote_rel {s : ByteArray} {k : Nat} (h : k < s.size) : (34 :: (s.data.toList.take k).flatMap form) ++ form s[k] = 34 :: (s.data.toList.take (k + 1)).flatMap form := by
  rw [take_snoc s k h, List.flatMap_append]; simp
set_option maxHeartbeats 400000 in
theorem quote_any (s : ByteArray) (w : World) (hs : (quote s.data.toList).length + 4 ≤ 140737488355328) :
    Calls Tryz.prog 61 #[.string s] w (Quoted w (quote s.data.toList)) := by
  have hq : (quote s.data.toList).length = (s.data.toList.flatMap form).length + 2 := by simp [quote]
  have hg := flat_ge s.data.toList
  have hsz : s.data.toList.length = s.size := by rw [Array.length_toList]; rfl
  have hroom : (s.data.toList.flatMap form).length + 6 ≤ 140737488355328 := by omega
  have hmax : s.size ≤ 140737488355328 := by omega
  have ROOM := Lib.hid hroom
  clear hs hq hg hsz hroom
  obtain ⟨i0, hi, hz0, hz1, hz2⟩ := info_parts byteInfo
  go_enter Tryz.func61, Tryz.ntmps61
  go_wp2_with (first | (at_make; refine wpList_make_own w rfl (.const (.int .i64 0)) (.tmp 7) 63 rfl w.heap.size 5 i0 (.int .u8 0) 1 Tryz.underlying63 hi hz0 hz1 .i64 .i64 ((s.size : Int) + 2) (s.size + 2) rfl rfl (by omega) (by rw [hz2]; omega) (by unfold maxLen; omega) (Nat.le_refl _) ?_; intro w1 hown1 hg1; have hown : ownB w1 w.heap.size (.slice (some ⟨w.heap.size, 0, none⟩) 0 (s.size + 2)) [] := hown1; have hb1 : Below w.heap.size w w1 := (Below.refl _ _).grown hg1 (Nat.le_refl _) (fun k h => by cases h); have hsz1 : w.heap.size ≤ w1.heap.size := hb1.size; clear hown1 hg1) | (at_builtin; refine app_bytes rfl _ _ rfl w.heap.size _ [] rfl (hown.alloc _) ⟨w1.heap.size, 0, none⟩ 1 1 [34] rfl rfl (cells_new w1 _ _ _ rfl) (by simp) (by simp; omega) ?_; intro v2 w2 hown2 hb2))
  have hb2' : Below w.heap.size w w2 := (hb1.alloc hsz1 _).trans hb2
  clear hb1 hb2 hown
  go_loopw [3, 4] (fun v i wr => ∃ k : Nat, k ≤ s.size ∧ i = .int .i64 k ∧ ownB wr w.heap.size v (34 :: (s.data.toList.take k).flatMap form) ∧ Below w.heap.size w wr) (fun _ i _ => s.size - (intOf i).toNat)
  case atStart => exact ⟨0, Nat.zero_le _, rfl, by simpa using hown2, hb2'⟩
  case round =>
    obtain ⟨k, hk, rfl, hown, hb⟩ := hrel
    clear hown2 hb2'
    have hfl := flat_take_le s.data.toList k
    have hszr : w.heap.size ≤ wr.heap.size := hb.size
    have hroom1 : (34 :: (s.data.toList.take k).flatMap form).length + 4 ≤ 140737488355328 := by have := ROOM.out; simp only [List.length_cons]; omega
    have R1 := Lib.hid hroom1
    clear hroom1 hfl
    by_cases hlt : k < s.size
    · go_wp2_with (go_at_call 96; refine (addForm_any w.heap.size _ _ s[k] _ hown hszr R1.out).mono ?_; rintro e w' ⟨v', rfl, hown', hb'⟩)
      go_roundw
      case rel => exact ⟨k + 1, by omega, by go_num, by rw [← quote_rel hlt]; exact hown', hb.trans hb'⟩
      case measure => simp [intOf]; omega
    · obtain rfl : k = s.size := by omega
      go_wp2_with (at_builtin; refine app_bytes rfl _ _ rfl w.heap.size _ _ rfl (hown.alloc _) ⟨wr.heap.size, 0, none⟩ 1 1 [34] rfl rfl (cells_new wr _ _ _ rfl) (by have := R1.out; omega) (by simp; omega) ?_; intro v3 w3 hown3 hb3; have hcv := conv_own hown3)
      go_ret
      refine ⟨?_, (hb.alloc hszr _).trans hb3⟩
      have e : s.data.toList.take s.size = s.data.toList := List.take_of_length_le (by rw [Array.length_toList]; exact Nat.le_refl _)
      rw [e]
      rfl
end Go.Proofs.YtjjlofaejpnnnaaGreatDoor
namespace Go.Proofs.YtjjlofaejpnnnaaGreatDoor
open Go Go.RowKit
set_option linter.unusedVariables false
/-- not bytes -/
def not8 (o : Obj) : Bool := match o with
  | .cells _ t _ => t != 5
  | _ => true
/-- what is kept by one who writes on the page: all below B, and all that isn't bytes, but the page's box -/
structure KeepP (gp B : Nat) (X X' : World) : Prop where
  os : X'.os = X.os
  tape : X'.tape = X.tape
  output : X'.output = X.output
  size : X.heap.size ≤ X'.heap.size
  same : ∀ (g : Nat) (o : Obj), g ≠ gp → X.heap[g]? = some o → g < B ∨ not8 o = true → X'.heap[g]? = some o
theorem KeepP.refl (gp B : Nat) (X : World) : KeepP gp B X X := ⟨rfl, rfl, rfl, Nat.le_refl _, fun _ _ _ h _ => h⟩
theorem KeepP.trans {gp B : Nat} {X Y Z : World} (h : KeepP gp B X Y) (h' : KeepP gp B Y Z) : KeepP gp B X Z := ⟨h'.os.trans h.os, h'.tape.trans h.tape, h'.output.trans h.output, Nat.le_trans h.size h'.size, fun g o h1 h2 h3 => h'.same g o h1 (h.same g o h1 h2 h3) h3⟩
theorem KeepP.after {gp B : Nat} {X Y : World} (h : Below X.heap.size X Y) : KeepP gp B X Y := ⟨h.os, h.tape, h.output, h.size, fun g o _ h2 _ => (h.block g (Array.getElem?_eq_some_iff.1 h2).1).trans h2⟩
theorem KeepP.below {gp B : Nat} {X Y : World} (h : KeepP gp B X Y) (hl : gp ≤ B) (hs : gp ≤ X.heap.size) : Below gp X Y := ⟨h.os, h.tape, h.output, h.size, fun g hg => by
  have e : X.heap[g]? = some X.heap[g] := Array.getElem?_eq_getElem (by omega)
  rw [e]
  exact h.same g _ (by omega) e (.inl (by omega))⟩
theorem KeepP.blk {gp B g : Nat} {X Y : World} {t : TypeId} {cs : Array Value} (h : KeepP gp B X Y) (hb : Blk X g t cs) (h2 : g ≠ gp) (ht : (t != 5) = true := by rfl) : Blk Y g t cs := h.same g _ h2 hb (.inr ht)
theorem KeepP.set {gp B i : Nat} {X : World} {u : Value} : KeepP gp B X (X.setCell ⟨gp, i, none⟩ u) := by
  have hb := (Below.refl gp X).setCell (p := ⟨gp, i, none⟩) (Nat.le_refl _) u
  exact ⟨hb.os, hb.tape, hb.output, hb.size, fun g o h1 h2 _ => (Below.heap_setCell X ⟨gp, i, none⟩ u g h1).trans h2⟩
theorem ownB_cells {X : World} {B : Nat} {v : Value} {L : List UInt8} (h : ownB X B v L) : ∀ k, v.ownBlock = some k → B ≤ k ∧ ∃ cs fr, X.heap[k]? = some (.cells cs 5 fr) := by
  intro k hk
  rcases h.2 with ⟨rfl, _⟩ | ⟨g, cap, cur, rfl, hb, hg, _⟩
  · cases hk
  · obtain rfl : g = k := Option.some.inj hk
    exact ⟨hb, cur, _, hg⟩
theorem KeepP.grown {gp B : Nat} {X Y : World} {v : Value} {L : List UInt8} (ho : ownB X B v L) (hg : X.grownBy Y v.ownBlock) : KeepP gp B X Y :=
  ⟨hg.os, hg.tape, hg.output, hg.size, fun g o _ h2 h3 => (hg.block g (Array.getElem?_eq_some_iff.1 h2).1 (fun he => by
    obtain ⟨h4, cs, fr, h5⟩ := ownB_cells ho g he.symm
    rcases h3 with h3 | h3
    · omega
    · rw [h5] at h2
      obtain rfl := Option.some.inj h2
      simp [not8] at h3)).trans h2⟩
/-- the page's box, and its bytes -/
structure PB (gp B : Nat) (L : List UInt8) (v : Value) (X : World) : Prop where
  t : Blk X gp 65 #[v]
  o : ownB X B v L
  lt : gp < B
  sz : B ≤ X.heap.size
section
variable {gp B : Nat} {L L' : List UInt8} {v v' : Value} {X Y : World}
theorem PB.after (h : PB gp B L v X) (hb : Below X.heap.size X Y) : PB gp B L v Y := ⟨h.t.after hb, h.o.below hb, h.lt, Nat.le_trans h.sz hb.size⟩
theorem ownB_set {g : Nat} {u : Value} (h : ownB X B v L) (hg : g < B) : ownB (X.setCell ⟨g, 0, none⟩ u) B v L := by
  refine ⟨h.1, ?_⟩
  rcases h.2 with hn | ⟨k, cap, cur, rfl, hb, hgg, rest⟩
  · exact .inl hn
  · exact .inr ⟨k, cap, cur, rfl, hb, (Below.heap_setCell X ⟨g, 0, none⟩ u k (by show k ≠ g; omega)).trans hgg, rest⟩
theorem PB.put (h : PB gp B L v X) (hb : X.grownBy Y v.ownBlock) (ho : ownB Y B v' L') : PB gp B L' v' (Y.setCell ⟨gp, 0, none⟩ v') := by
  have hlt := h.lt
  have ht : Blk Y gp 65 #[v] := h.t.grown hb (fun he => by have := (ownB_cells h.o gp he.symm).1; omega)
  refine ⟨?_, ownB_set ho h.lt, h.lt, ?_⟩
  · have := ht.set_ 0 v'
    simpa using this
  · have h1 := ((Below.refl gp Y).setCell (p := ⟨gp, 0, none⟩) (Nat.le_refl _) v').size
    have h2 := h.sz
    have h3 := hb.size
    omega
theorem PB.box (h : PB gp B L v X) (hb : X.grownBy Y v.ownBlock) : Blk Y gp 65 #[v] := h.t.grown hb (fun he => by have := (ownB_cells h.o gp he.symm).1; have := h.lt; omega)
theorem PB.alloc (h : PB gp B L v X) (o : Obj) : PB gp B L v (X.alloc o) := h.after ((Below.refl _ _).alloc (Nat.le_refl _) o)
end
/-- append of bytes that lie in memory, and of a string's: what else is kept -/
theorem app_bytesG {w : World} {ops : Array Oper} {rest : List Oper} {o : Oper} {a : Act} {Q : Exit → Act → World → Prop} (hgd : o.guard = none) (s x : Operand)
    (ho : o.op = .call { callee := .builtin .append, args := #[s, x], argTypes := #[63, 63] })
    (B : Nat) (v : Value) (l : List UInt8) (hs : a.eval s = v) (hown : ownB w B v l) (ad : Addr) (m c : Nat) (news : List UInt8) (hx : a.eval x = .slice (some ad) m c) (hl : news.length = m)
    (hnews : ∀ j u, (news.map enc)[j]? = some u → w.cell? (ad.add j) = some u) (hroom : l.length + m ≤ 140737488355328) (hB : B ≤ w.heap.size)
    (h : ∀ v' w', ownB w' B v' (l ++ news) → w.grownBy w' v.ownBlock → wpList Tryz.prog ops Q rest (a.put o.dst v') w') : wpList Tryz.prog ops Q (o :: rest) a w := by
  obtain ⟨i0, hi, hz0, hz1, hz2⟩ := info_parts byteInfo
  refine wpList_append_own w hgd s x _ ho B 5 i0 (.int .u8 0) 1 1 Tryz.underlying63 hi hz0 hz1 hz2 rfl (by decide) v l.length (l.map enc) hs hown ad m c (news.map enc) hx (by simp [hl]) hnews (enc_one _) (by unfold maxLen; omega) (by omega) hB ?_
  intro v' w' hown' hg _
  refine h v' w' ?_ hg
  unfold ownB
  rw [List.length_append, List.map_append, hl]
  exact hown'
theorem app_strG {w : World} {ops : Array Oper} {rest : List Oper} {o : Oper} {a : Act} {Q : Exit → Act → World → Prop} (hgd : o.guard = none) (s x : Operand)
    (ho : o.op = .call { callee := .builtin .append, args := #[s, x], argTypes := #[63, 9] })
    (B : Nat) (v : Value) (l : List UInt8) (hs : a.eval s = v) (hown : ownB w B v l) (t : ByteArray) (hx : a.eval x = .string t) (hroom : l.length + t.size ≤ 140737488355328) (hB : B ≤ w.heap.size)
    (h : ∀ v' w', ownB w' B v' (l ++ t.data.toList) → w.grownBy w' v.ownBlock → wpList Tryz.prog ops Q rest (a.put o.dst v') w') : wpList Tryz.prog ops Q (o :: rest) a w := by
  obtain ⟨i0, hi, hz0, hz1, hz2⟩ := info_parts byteInfo
  refine Lib.wpList_append_own_string w hgd s x _ _ ho B 5 i0 Tryz.underlying63 Tryz.underlying9 hi hz0 hz1 hz2 v l.length (l.map enc) hs hown t hx (by unfold maxLen; omega) (by omega) hB ?_
  intro v' w' hown' hg _
  refine h v' w' ?_ hg
  unfold ownB
  rw [List.length_append, List.map_append, Array.length_toList]
  exact hown'
def LineP (gp B : Nat) (X : World) (L' : List UInt8) (e : Ending) (X' : World) : Prop := e = .returned (.tuple #[]) ∧ (∃ v', PB gp B L' v' X') ∧ KeepP gp B X X'
theorem own_len {X : World} {B : Nat} {v : Value} {L : List UInt8} (h : ownB X B v L) : ∃ A c, v = .slice A L.length c ∧ L.length ≤ 9223372036854775807 := by
  rcases h.2 with ⟨rfl, h0⟩ | ⟨g, cap, cur, rfl, hbg, hgg, hle, hmax, _⟩
  · exact ⟨none, 0, by rw [h0], by omega⟩
  · exact ⟨_, _, rfl, by unfold maxLen at hmax; omega⟩
theorem own_sl {X : World} {B : Nat} {v : Value} {L : List UInt8} (h : ownB X B v L) : ∃ A m c, v = .slice A m c := let ⟨A, c, e, _⟩ := own_len h; ⟨A, _, c, e⟩
theorem long_any (X : World) (gp B : Nat) (L : List UInt8) (v : Value) (h : PB gp B L v X) : Calls Tryz.prog 29 #[.pointer (some ⟨gp, 0, none⟩)] X fun e X' => e = .returned (.bool (decide (1048576 < L.length))) ∧ X = X' := by
  obtain ⟨A, c, rfl, hm⟩ := own_len h.o
  have cx := (h.t.cell 0).trans (show _ = some (.slice A L.length c) from rfl)
  by_cases hl : 1048576 < L.length
  · have h1 : decide (1048576 < L.length) = true := by simpa using hl
    have h2 : (1048576 : Int) < (L.length : Int) := by omega
    rw [h1]
    clear h1 h
    go_enter Tryz.func29, Tryz.ntmps29
    go_wp2_with fail
    go_ret
    exact ⟨rfl, rfl⟩
  · have h1 : decide (1048576 < L.length) = false := by simpa using hl
    have h2 : ¬ (1048576 : Int) < (L.length : Int) := by omega
    rw [h1]
    clear h1 h
    go_enter Tryz.func29, Tryz.ntmps29
    go_wp2_with fail
    go_ret
    exact ⟨rfl, rfl⟩
set_option maxRecDepth 20000 in
set_option maxHeartbeats 3200000 in
theorem line_any (X : World) (gp B : Nat) (L : List UInt8) (v : Value) (k : Nat) (s : ByteArray) (h : PB gp B L v X) (hk : k ≤ 64) (hs : s.size ≤ 70368744177000) :
    Calls Tryz.prog 24 #[.pointer (some ⟨gp, 0, none⟩), .int .i64 k, .string s] X (LineP gp B X (pageA L (bl k ++ s.data.toList ++ [10]))) := by
  have HP := Lib.hid h
  have HLo := Lib.hid (long_any X gp B L v h)
  have hlt := h.lt
  clear h
  by_cases hl : 1048576 < L.length
  · have h1 : decide (1048576 < L.length) = true := by simpa using hl
    rw [h1] at HLo
    have HA : Hid (pageA L (bl k ++ s.data.toList ++ [10]) = L) := Lib.hid (by unfold pageA; rw [if_pos hl])
    rw [HA.out]
    clear h1 hl
    go_enter Tryz.func24, Tryz.ntmps24
    go_wp2_with (go_at_call 29; refine HLo.out.mono ?_; rintro e X2 ⟨rfl, rfl⟩)
    go_end0
    exact ⟨rfl, ⟨_, HP.out⟩, KeepP.refl _ _ _⟩
  · have h1 : decide (1048576 < L.length) = false := by simpa using hl
    rw [h1] at HLo
    have HA : Hid (pageA L (bl k ++ s.data.toList ++ [10]) = L ++ bl k ++ s.data.toList ++ [10]) := Lib.hid (by unfold pageA; rw [if_neg hl]; simp only [List.append_assoc])
    rw [HA.out]
    clear h1
    have hLl : L.length ≤ 1048576 := by omega
    have HP0 : Hid (PB gp B (L ++ bl 0) v X) := Lib.hid (by rw [show bl 0 = [] from rfl, List.append_nil]; exact HP.out)
    go_enter Tryz.func24, Tryz.ntmps24
    go_wp2_with (go_at_call 29; refine HLo.out.mono ?_; rintro e X2 ⟨rfl, rfl⟩)
    go_loopw [9] (fun i wr => ∃ (j : Nat), j ≤ k ∧ i = .int .i64 j ∧ Hid (∃ v, PB gp B (L ++ bl j) v wr) ∧ Hid (KeepP gp B X wr)) (fun i _ => k - (intOf i).toNat)
    case atStart => exact ⟨0, Nat.zero_le _, rfl, Lib.hid ⟨_, HP0.out⟩, Lib.hid (KeepP.refl _ _ _)⟩
    case round =>
      rename World => wo
      obtain ⟨j, hj, rfl, HV, HK⟩ := hrel
      obtain ⟨v1, hv1⟩ := HV.out
      have cx := (hv1.t.cell 0).trans (show _ = some v1 from rfl)
      have HP1 := Lib.hid hv1
      clear hv1
      by_cases hjk : j < k
      · have hsz := HP1.out.sz
        go_wp2_with (at_builtin; go_must (refine app_bytesG rfl (.tmp 15) (.tmp 16) rfl B v1 (L ++ bl j) rfl (HP1.out.o.alloc _) ⟨wo.heap.size, 0, none⟩ 1 1 [32] rfl rfl (cells_new wo _ _ _ rfl) (by rw [List.length_append, bl_len]; omega) (by simp; omega) ?_; intro v2 w2 hown2 hb2; obtain ⟨A2, m2, c2, rfl⟩ := own_sl hown2; have HP2 := Lib.hid ((HP1.out.alloc (.cells #[.int .u8 32] 5)).put hb2 hown2); have HK2 : Hid (KeepP gp B X (w2.setCell ⟨gp, 0, none⟩ (.slice A2 m2 c2))) := Lib.hid (HK.out.trans ((KeepP.after ((Below.refl _ _).alloc (Nat.le_refl _) _)).trans ((KeepP.grown (HP1.out.o.alloc _) hb2).trans KeepP.set))); have ht2 := (HP1.out.alloc (.cells #[.int .u8 32] 5)).box hb2; have cz := (ht2.cell 0).trans (show _ = some v1 from rfl); have fz := ht2.frozen 0; clear hown2 hb2 ht2))
        go_roundw
        case rel => exact ⟨j + 1, by omega, by go_num, Lib.hid ⟨_, by rw [bl_succ, ← List.append_assoc]; exact HP2.out⟩, HK2⟩
        case measure => simp [intOf]; omega
      · obtain rfl : j = k := by omega
        have hsz := HP1.out.sz
        go_upto_region 6 with (at_builtin; go_must (refine app_strG rfl (.tmp 25) (.tmp 26) rfl B v1 (L ++ bl j) rfl HP1.out.o s rfl (by rw [List.length_append, bl_len]; omega) hsz ?_; intro v2 w2 hown2 hb2; obtain ⟨A2, m2, c2, rfl⟩ := own_sl hown2; have HP2 := Lib.hid (HP1.out.put hb2 hown2); have HK2 : Hid (KeepP gp B X (w2.setCell ⟨gp, 0, none⟩ (.slice A2 m2 c2))) := Lib.hid (HK.out.trans ((KeepP.grown HP1.out.o hb2).trans KeepP.set)); have ht2 := HP1.out.box hb2; have cz := (ht2.cell 0).trans (show _ = some v1 from rfl); have fz := ht2.frozen 0; clear hown2 hb2 ht2))
        generalize w2.setCell ⟨gp, 0, none⟩ (.slice A2 m2 c2) = w3 at HP2 HK2 ⊢
        have cx3 := (HP2.out.t.cell 0).trans (show _ = some (.slice A2 m2 c2) from rfl)
        have hsz3 := HP2.out.sz
        have hll : (L ++ bl j ++ s.data.toList).length = L.length + j + s.size := by simp only [List.length_append, bl_len, Array.length_toList]; rfl
        go_wp2_with (at_builtin; go_must (refine app_bytesG rfl (.tmp 34) (.tmp 35) rfl B (.slice A2 m2 c2) (L ++ bl j ++ s.data.toList) rfl (HP2.out.o.alloc _) ⟨w3.heap.size, 0, none⟩ 1 1 [10] rfl rfl (cells_new w3 _ _ _ rfl) (by omega) (by simp; omega) ?_; intro v4 w4 hown4 hb4; obtain ⟨A4, m4, c4, rfl⟩ := own_sl hown4; have HP4 := Lib.hid ((HP2.out.alloc (.cells #[.int .u8 10] 5)).put hb4 hown4); have HK4 : Hid (KeepP gp B X (w4.setCell ⟨gp, 0, none⟩ (.slice A4 m4 c4))) := Lib.hid (HK2.out.trans ((KeepP.after ((Below.refl _ _).alloc (Nat.le_refl _) _)).trans ((KeepP.grown (HP2.out.o.alloc _) hb4).trans KeepP.set))); have ht4 := (HP2.out.alloc (.cells #[.int .u8 10] 5)).box hb4; have cz4 := (ht4.cell 0).trans (show _ = some (.slice A2 m2 c2) from rfl); have fz4 := ht4.frozen 0; clear hown4 hb4 ht4))
        go_end0
        exact ⟨rfl, ⟨_, HP4.out⟩, HK4.out⟩
end Go.Proofs.YtjjlofaejpnnnaaGreatDoor
namespace Go.Proofs.YtjjlofaejpnnnaaGreatDoor
open Go Go.RowKit
set_option linter.unusedVariables false
/-- the slice v of bytes holds l, in a block of the call's own (from B on), none of its cells frozen -/
def ownF (w : World) (B : Nat) (v : Value) (l : List UInt8) : Prop :=
  ∃ (g cap : Nat) (cur : Array Value) (fr : Nat × Nat), v = .slice (some ⟨g, 0, none⟩) l.length cap ∧ B ≤ g ∧ w.heap[g]? = some (.cells cur 5 fr) ∧ (fr.2 = 0 ∨ cap ≤ fr.1) ∧ l.length ≤ cap ∧ cap ≤ maxLen ∧ cur.size = cap ∧ cur.toList.take l.length = l.map enc
theorem ownF.below {w w' : World} {B : Nat} {v : Value} {l : List UInt8} (h : ownF w B v l) (hb : Below w.heap.size w w') : ownF w' B v l := by
  obtain ⟨g, cap, cur, fr, h1, h2, h3, rest⟩ := h
  exact ⟨g, cap, cur, fr, h1, h2, (hb.block g (Array.getElem?_eq_some_iff.1 h3).1).trans h3, rest⟩
theorem ownF.lt {w : World} {B : Nat} {v : Value} {l : List UInt8} (h : ownF w B v l) : ∀ k, v.ownBlock = some k → B ≤ k ∧ k < w.heap.size := by
  obtain ⟨g, cap, cur, fr, rfl, h2, h3, rest⟩ := h
  intro k hk
  obtain rfl : g = k := Option.some.inj hk
  exact ⟨h2, (Array.getElem?_eq_some_iff.1 h3).1⟩
theorem ownF.form {w : World} {B : Nat} {v : Value} {l : List UInt8} (h : ownF w B v l) : ∃ A m c, v = .slice A m c ∧ m = l.length ∧ m ≤ 9223372036854775807 := by
  obtain ⟨g, cap, cur, fr, rfl, h2, h3, h4, h5, h6, _⟩ := h
  unfold maxLen at h6
  exact ⟨_, _, _, rfl, rfl, by omega⟩
/-- []byte(s) -/
theorem conv_bytes (w : World) (s : ByteArray) (hs : s.size ≤ 140737488355328) : ∃ v w', (convert 9 63 (.string s)).run Tryz.prog w = .ok v w' ∧ ownF w' w.heap.size v s.data.toList ∧ Below w.heap.size w w' := by
  have h0 := Lib.run_convert_string_bytes (P := Tryz.prog) w 9 63 5 s Tryz.underlying9 Tryz.underlying63 Tryz.underlying5
  have hge := grownCap_ge w s.size 0 5
  have hcm : grownCap w s.size 0 5 ≤ maxLen := grownCap_le_maxLen w s.size 0 5 (by unfold maxLen; omega)
  have hsl : s.data.toList.length = s.size := by rw [Array.length_toList]; rfl
  have hcs : (Lib.bytesCells w 5 s).size = grownCap w s.size 0 5 := by
    unfold Lib.bytesCells
    rw [Array.size_append, Array.size_map, Array.size_replicate]
    have : s.data.size = s.size := rfl
    omega
  refine ⟨_, _, h0, ⟨w.heap.size, _, _, _, by rw [hsl], Nat.le_refl _, Lib.bytesWorld_at_new w _ s, .inr (by rw [hcs]; exact Nat.le_refl _), by rw [hsl]; exact hge, hcm, hcs, ?_⟩, Joins.below_bytesWorld _ _ _ _ (Nat.le_refl _)⟩
  unfold Lib.bytesCells
  rw [Array.toList_append, Array.toList_map]
  have e : s.data.toList.length = (s.data.toList.map fun b => Value.int .u8 b.toNat).length := by rw [List.length_map]
  rw [e]
  exact List.take_left
/-- string(b) of such a slice -/
theorem conv_F {w : World} {B : Nat} {v : Value} {l : List UInt8} (h : ownF w B v l) : (convert 63 9 v).run Tryz.prog w = .ok (.string ⟨l.toArray⟩) w := by
  obtain ⟨g, cap, cur, fr, rfl, hbg, hg, hfr, hnc, hcm, hcs, htake⟩ := h
  rw [run_convert_bytes_string w _ _ _ _ _ _ Tryz.underlying63 Tryz.underlying5 Tryz.underlying9]
  have hc : ∀ j u, (l.map enc)[j]? = some u → w.cell? ((⟨g, 0, none⟩ : Addr).add j) = some u := by
    intro j u hj
    have hjl : j < l.length := by have := (List.getElem?_eq_some_iff.1 hj).1; simpa using this
    have e : (⟨g, 0, none⟩ : Addr).add j = ⟨g, j, none⟩ := by simp [Addr.add]; exact fun h => h.symm
    rw [e, cell_of_row w g j cur _ fr hg, ← Array.getElem?_toList]
    rw [← htake, List.getElem?_take, if_pos hjl] at hj
    exact hj
  have hload := run_loadCells_list (P := Tryz.prog) w ⟨g, 0, none⟩ (l.map enc) hc
  rw [List.length_map] at hload
  have := run_bytesToString (P := Tryz.prog) w ⟨g, 0, none⟩ l.length cap (l.map fun c => (c.toNat : Int)) (by rw [hload]; congr 2; simp [enc])
  rw [this, fold_push]
  simp
end Go.Proofs.YtjjlofaejpnnnaaGreatDoor

/-
  PLAIN VALUES: depths, counted up a way and written down. No program stands in it.
  WALKS: count, rooted of the program.
  WALKS: index, has of the document; the words for its plain.
  PLAIN MATHEMATICS: places among kids, depths, and what a model is behind a node that is added.
  PLAIN MATHEMATICS: document order.
  A MODEL's TEXT IS READ, in plain mathematics, line by line, as the document's own reader does (topiaryref03.Parse): takesV, parseV.
  WHERE THE LAST NODES STAND, in plain mathematics: the way from the last root down to the last node, and what a node more makes of it.
  A LINE AS THE PROGRAM READS IT (cut at the first sign), in plain mathematics, and that it is the document's reading of the line.
-/
import Derived.Test.YtjjlofaejpnnnaaGreatDoorZR3
import Derived.Deep.LoopGhost
import Derived.Deep.DeepMust
import Derived.Lib.ItoaLen
namespace Go.Proofs.YtjjlofaejpnnnaaGreatDoor
open Go Go.RowKit
set_option linter.unusedVariables false
def countF (tot : Int) : Nat → List Int → List Int → List Int
  | _, dl, [] => dl
  | i, dl, at_ :: r => countF tot (i + 1) (dl.set at_.toNat (tot - i)) r
theorem countF_len (tot : Int) : ∀ (r : List Int) (i : Nat) (dl : List Int), (countF tot i dl r).length = dl.length
  | [], _, _ => rfl
  | x :: r, i, dl => by rw [countF, countF_len tot r, List.length_set]
theorem countF_get (tot : Int) : ∀ (r : List Int) (i : Nat) (dl : List Int) (j : Nat), j < dl.length → (countF tot i dl r).getD j 0 = dl.getD j 0 ∨ ∃ (m : Nat) (x : Int), r[m]? = some x ∧ x.toNat = j ∧ (countF tot i dl r).getD j 0 = tot - (i + m : Nat)
  | [], _, _, _, _ => .inl rfl
  | x :: r, i, dl, j, hj => by
    rw [countF]
    rcases countF_get tot r (i + 1) (dl.set x.toNat (tot - i)) j (by rw [List.length_set]; exact hj) with h | ⟨m, y, h1, h2, h3⟩
    · by_cases e : x.toNat = j
      · right
        refine ⟨0, x, rfl, e, ?_⟩
        rw [h, getD_set (by omega), if_pos e]
        simp
      · left
        rw [h, List.getD_eq_getElem?_getD, List.getD_eq_getElem?_getD, List.getElem?_set, if_neg e]
    · right
      exact ⟨m + 1, y, by simpa using h1, h2, by rw [h3]; congr 1; omega⟩
/-- so many steps up -/
def up (a : List Int) : Nat → Int → Int
  | 0, x => x
  | m + 1, x => up a m (a.getD x.toNat (-1))
def chain (a : List Int) (i : Int) (L : Nat) : List Int := (List.range L).map fun m => up a m i
theorem chain_get {a : List Int} {i : Int} {L m : Nat} {x : Int} (h : (chain a i L)[m]? = some x) : m < L ∧ x = up a m i := by
  simp only [chain, List.getElem?_map, List.getElem?_range'] at h
  by_cases hm : m < L
  · rw [List.getElem?_range hm] at h
    injection h with h
    exact ⟨hm, h.symm⟩
  · rw [List.getElem?_eq_none (by simp; omega)] at h
    cases h
theorem lvl_step {a : List Int} {f : Nat} {x : Int} (h : x ≠ -1) : lvl a (f + 1) x = (lvl a f (a.getD x.toNat (-1))).map (· + 1) := by rw [lvl, if_neg h]
theorem lvl_end (a : List Int) (f : Nat) : lvl a f (-1) = some 0 := by cases f <;> simp [lvl]
theorem lvl_more {a : List Int} : ∀ {f d : Nat} {x : Int}, lvl a f x = some d → d ≤ f ∧ ∀ f', (d ≤ f' → lvl a f' x = some d) ∧ (f' < d → lvl a f' x = none)
  | f, d, x, h => by
    by_cases hx : x = -1
    · subst hx
      rw [lvl_end] at h
      injection h with h
      subst h
      exact ⟨Nat.zero_le _, fun f' => ⟨fun _ => lvl_end a f', fun h => absurd h (by omega)⟩⟩
    · match f, h with
      | 0, h => rw [lvl, if_neg hx] at h; cases h
      | f + 1, h =>
        rw [lvl_step hx] at h
        obtain ⟨d', h1, rfl⟩ := Option.map_eq_some_iff.1 h
        obtain ⟨g1, g2⟩ := lvl_more h1
        refine ⟨by omega, fun f' => ?_⟩
        match f' with
        | 0 => exact ⟨fun h => absurd h (by omega), fun _ => by rw [lvl, if_neg hx]⟩
        | f' + 1 =>
          rw [lvl_step hx]
          exact ⟨fun h => by rw [(g2 f').1 (by omega)]; rfl, fun h => by rw [(g2 f').2 (by omega)]; rfl⟩
/-- a way up of L nodes, then a node of which the depth is known -/
theorem lvl_chain {a : List Int} {d : Nat} : ∀ {L : Nat} {i : Int}, (∀ m, m < L → up a m i ≠ -1) → (∃ f, lvl a f (up a L i) = some d) → ∀ m, m ≤ L → ∀ f, (d + (L - m) ≤ f → lvl a f (up a m i) = some (d + (L - m))) ∧ (f < d + (L - m) → lvl a f (up a m i) = none)
  | 0, i, h, ⟨f0, h0⟩, m, hm, f => by
    obtain rfl : m = 0 := by omega
    have := (lvl_more h0).2 f
    simpa using this
  | L + 1, i, h, h0, m, hm, f => by
    match m, hm with
    | m + 1, hm =>
      have := lvl_chain (L := L) (i := a.getD i.toNat (-1)) (fun k hk => h (k + 1) (by omega)) h0 m (by omega) f
      rw [show L + 1 - (m + 1) = L - m from by omega]
      exact this
    | 0, hm =>
      have hi := h 0 (by omega)
      have hi : i ≠ -1 := hi
      have ih := lvl_chain (L := L) (i := a.getD i.toNat (-1)) (fun k hk => h (k + 1) (by omega)) h0 0 (by omega)
      simp only [Nat.sub_zero, up] at ih ⊢
      match f with
      | 0 => exact ⟨fun h => absurd h (by omega), fun _ => by rw [lvl, if_neg hi]⟩
      | f + 1 =>
        rw [lvl_step hi]
        exact ⟨fun h => by rw [(ih f).1 (by omega)]; rfl, fun h => by rw [(ih f).2 (by omega)]; rfl⟩
/-- the depths that are written down so far are right -/
def DInv (a dl : List Int) : Prop := dl.length = a.length ∧ ∀ j, j < a.length → ∃ d : Nat, dl.getD j 0 = d ∧ (d = 0 ∨ lvl a 64 j = some d)
theorem DInv.start (a : List Int) : DInv a (List.replicate a.length 0) :=
  ⟨by simp, fun j hj => ⟨0, by rw [List.getD_eq_getElem?_getD, List.getElem?_replicate, if_pos hj]; rfl, .inl rfl⟩⟩
theorem DInv.count {a dl : List Int} (h : DInv a dl) {i : Int} {L d : Nat} (hup : ∀ m, m < L → 0 ≤ up a m i) (hd : ∃ f, lvl a f (up a L i) = some d) (h64 : d + L ≤ 64) :
    DInv a (countF ((d : Int) + L) 0 dl (chain a i L)) := by
  refine ⟨by rw [countF_len]; exact h.1, fun j hj => ?_⟩
  rcases countF_get ((d : Int) + L) (chain a i L) 0 dl j (by rw [h.1]; exact hj) with e | ⟨m, x, h1, h2, h3⟩
  · obtain ⟨d', g1, g2⟩ := h.2 j hj
    exact ⟨d', by rw [e]; exact g1, g2⟩
  · obtain ⟨hm, rfl⟩ := chain_get h1
    refine ⟨d + (L - m), by rw [h3]; omega, .inr ?_⟩
    have hx := hup m hm
    have := (lvl_chain (fun k hk => by have := hup k hk; omega) hd m (by omega) 64).1 (by omega)
    rw [← this]
    congr 1
    omega
end Go.Proofs.YtjjlofaejpnnnaaGreatDoor
namespace Go.Proofs.YtjjlofaejpnnnaaGreatDoor
open Go Go.RowKit Go.Sort
set_option linter.unusedVariables false
theorem Below.only {B : Nat} {a w w' : World} (h : Below B a w) {g : Nat} (hg : w.grownBy w' (some g)) (hB : B ≤ w.heap.size) (hBg : B ≤ g) : Below B a w' :=
  h.grown hg hB (fun k hk => by injection hk with hk; omega)
def nought64 : List Int := List.replicate 64 0
/-- the slice of 64 places of which L are filled -/
def WayIn (w : World) (g L : Nat) (wl : List Int) : Prop := w.ownsRow g 3 1 (.slice (some ⟨g, 0, none⟩) L 64) L (intCells wl)
theorem WayIn.zero {w : World} {g L : Nat} {wl : List Int} (h : WayIn w g L wl) : WayIn w g 0 [] := by
  rcases h.2 with ⟨h, _⟩ | ⟨g', cap, cur, e, hb, hg, h1, h2, h3, h4⟩
  · cases h
  · injection e with e1 e2 e3
    injection e1 with e1
    injection e1 with e1
    subst e1 e3
    exact ⟨by simp [intCells], .inr ⟨g, 64, cur, rfl, hb, hg, Nat.zero_le _, h2, h3, by simp [intCells]⟩⟩
theorem WayIn.start (w : World) : WayIn (w.alloc (.cells (intCells (nought64)).toArray 3)) w.heap.size 0 [] :=
  World.ownsRow_made w (intCells nought64).toArray 64 (Nat.le_refl _) (by simp [maxLen]) (by simp [intCells, nought64])
theorem WayIn.cell {w : World} {g L : Nat} {wl : List Int} (h : WayIn w g L wl) {j : Nat} {x : Int} (hx : wl[j]? = some x) : w.cell? ⟨g, j, none⟩ = some (.int .i64 x) := by
  have := World.ownsRow.cells h (g := g) rfl j _ (intCells_get hx)
  rwa [Addr.add_lit, Nat.zero_add] at this
theorem WayIn.len {w : World} {g L : Nat} {wl : List Int} (h : WayIn w g L wl) : wl.length = L := by
  have := h.1; rw [intCells_length] at this; omega
theorem WayIn.lt {w : World} {g L : Nat} {wl : List Int} (h : WayIn w g L wl) : g < w.heap.size := (World.ownsRow.lt h g rfl).2
theorem WayIn.kept {w w' : World} {g L r : Nat} {wl : List Int} (h : WayIn w g L wl) (hg : w.grownBy w' (some r)) (hne : g ≠ r) : WayIn w' g L wl :=
  World.ownsRow.kept h hg (.inr (by simp [Value.ownBlock, hne]))
theorem WayIn.alloc {w : World} {g L : Nat} {wl : List Int} (h : WayIn w g L wl) (o : Obj) : WayIn (w.alloc o) g L wl := World.ownsRow.alloc h o
/-- what holds in the loops of rooted -/
structure RW (w : World) (n L : Nat) (dl wl : List Int) (wr : World) : Prop where
  deep : IBlk wr w.heap.size dl
  way : WayIn wr (w.heap.size + 1) L wl
  bel : Below w.heap.size w wr
  len : dl.length = n
theorem RW.start {w wr : World} {n L : Nat} {dl wl : List Int} (h : RW w n L dl wl wr) : RW w n 0 dl [] wr := ⟨h.deep, h.way.zero, h.bel, h.len⟩
theorem RW.count {w wr w' : World} {n L : Nat} {dl wl dl' : List Int} (h : RW w n L dl wl wr) (hi : IBlk w' w.heap.size dl') (hg : wr.grownBy w' (some w.heap.size)) (hl : dl'.length = n) : RW w n L dl' wl w' :=
  ⟨hi, h.way.kept hg (by omega), Below.only h.bel hg h.bel.size (Nat.le_refl _), hl⟩
end Go.Proofs.YtjjlofaejpnnnaaGreatDoor
namespace Go.Proofs.YtjjlofaejpnnnaaGreatDoor
open Go Go.RowKit Go.Sort
set_option linter.unusedVariables false
/-- a block of yes and no -/
def BBlk (w : World) (g : Nat) (a : List Bool) : Prop := Blk w g 4 (a.map Value.bool).toArray
section
variable {w w' : World} {g : Nat} {a : List Bool}
theorem BBlk.cell (h : BBlk w g a) {i : Nat} (hi : i < a.length) : w.cell? ⟨g, i, none⟩ = some (.bool (a.getD i false)) := by
  rw [Blk.cell h]
  simp [hi]
theorem BBlk.set_ (h : BBlk w g a) (i : Nat) (x : Bool) : BBlk (w.setCell ⟨g, i, none⟩ (.bool x)) g (a.set i x) := by
  have := Blk.set_ h i (.bool x)
  unfold BBlk
  have e : ((a.set i x).map Value.bool).toArray = (a.map Value.bool).toArray.setIfInBounds i (.bool x) := by simp [List.map_set]
  rw [e]; exact this
end
def noB (n : Nat) : Array Value := ((List.replicate n false).map Value.bool).toArray
theorem BBlk.start (w : World) (n : Nat) : BBlk (w.alloc (.cells (noB n) 4)) w.heap.size (List.replicate n false) := Blk.new _ _ _
/-- the kids that were met so far are marked -/
def MetOk (nds : List Nd) (n : Nat) (seen : List Int) (mt : List Bool) : Prop := mt.length = n ∧ ∀ k j, ixOf nds k = some j → mt.getD j false = seen.contains k
theorem MetOk.start (nds : List Nd) (n : Nat) : MetOk nds n [] (List.replicate n false) := ⟨by simp, fun k j h => by
  rw [List.getD_eq_getElem?_getD, List.getElem?_replicate]; split <;> simp⟩
theorem MetOk.step {nds : List Nd} {n : Nat} {seen : List Int} {mt : List Bool} (h : MetOk nds n seen mt) {k : Int} {j : Nat} (hj : ixOf nds k = some j) (hn : j < n) : MetOk nds n (k :: seen) (mt.set j true) := by
  refine ⟨by rw [List.length_set]; exact h.1, fun k' j' hj' => ?_⟩
  rw [List.getD_eq_getElem?_getD, List.getElem?_set]
  by_cases e : j = j'
  · subst e
    obtain rfl := ixOf_inj hj hj'
    simp [h.1, hn]
  · rw [if_neg e, ← List.getD_eq_getElem?_getD, h.2 k' j' hj']
    have : k' ≠ k := by rintro rfl; rw [hj] at hj'; injection hj' with hj'; exact e hj'
    simp [this]
/-- the boxes of the document's plain, below: the model, the node -/
structure PW (w : World) (next : Int) (A : Option Addr) (n c : Nat) (nd : Nd) (L : Leaf) (wr : World) : Prop where
  md : Blk wr w.heap.size 25 #[.int .i64 next, .slice A n c]
  nb : Blk wr (w.heap.size + 1) 55 #[.int .i64 nd.id, .string nd.con, .int .i64 nd.par, .string nd.role, .slice L.p.A L.p.n L.p.c, .slice L.k.A L.k.n L.k.c, .slice L.r.A L.r.n L.r.c]
  bel : Below w.heap.size w wr
section
variable {w wr w' : World} {next : Int} {A : Option Addr} {n c : Nat} {nd : Nd} {L : Leaf}
theorem PW.start (w : World) (next : Int) (A : Option Addr) (n c : Nat) (nd : Nd) (L : Leaf) : PW w next A n c nd L ((w.alloc (.cells #[.int .i64 next, .slice A n c] 25)).alloc (.cells #[.int .i64 nd.id, .string nd.con, .int .i64 nd.par, .string nd.role, .slice L.p.A L.p.n L.p.c, .slice L.k.A L.k.n L.k.c, .slice L.r.A L.r.n L.r.c] 55)) :=
  ⟨(Blk.new _ _ _).alloc _, Blk.new' (by simp), (below_box _ _).alloc (by simp) _⟩
theorem PW.after (h : PW w next A n c nd L wr) (hb : Below wr.heap.size wr w') : PW w next A n c nd L w' := ⟨h.md.after hb, h.nb.after hb, h.bel.trans (hb.mono h.bel.size)⟩
theorem PW.drewN (h : PW w next A n c nd L wr) (q : Nat) : PW w next A n c nd L (wr.drewN q) := ⟨h.md, h.nb, below_drewN h.bel q⟩
theorem PW.size (h : PW w next A n c nd L wr) : w.heap.size + 1 < wr.heap.size := h.nb.lt
end
end Go.Proofs.YtjjlofaejpnnnaaGreatDoor
namespace Go.Proofs.YtjjlofaejpnnnaaGreatDoor
open Go Go.RowKit
set_option linter.unusedVariables false
/-- what a right model is -/
structure RightM (next : Int) (nds : List Nd) : Prop where
  rise : Rise nds
  lo : 1 ≤ next
  hi : next ≤ 1048577
  len : nds.length ≤ 4096
  lt : ∀ (i : Nat) nd, nds[i]? = some nd → nd.id < next
  plain : ∀ nd ∈ nds, plainB next nds nd = true
  below : ∀ nd ∈ nds, belowB nds 64 nd = true
theorem RightM.kids {next : Int} {nds : List Nd} (h : RightM next nds) {nd : Nd} (hnd : nd ∈ nds) : (∀ k ∈ nd.kids, ∃ x, ndOf nds k = some x ∧ x.par = nd.id) ∧ nd.kids.Nodup := by
  have h1 := h.plain nd hnd
  unfold plainB at h1
  simp only [Bool.and_eq_true] at h1
  have h2 := kidsB_spec.1 h1.2
  exact ⟨fun k hk => (h2.1 k hk).1, h2.2⟩
/-- the k-th one up from a node -/
def upI (nds : List Nd) (id : Int) : Nat → Int
  | 0 => id
  | k + 1 => match ndOf nds (upI nds id k) with
    | some nd => nd.par
    | none => 0
/-- so many nodes stand on the way from a node up -/
structure DepthIs (nds : List Nd) (id : Int) (K : Nat) : Prop where
  top : upI nds id K = 0
  way : ∀ k, k < K → upI nds id k ≠ 0 ∧ ∃ nd, ndOf nds (upI nds id k) = some nd
theorem upI_shift {nds : List Nd} {id : Int} {nd : Nd} (h : ndOf nds id = some nd) : ∀ k, upI nds id (k + 1) = upI nds nd.par k
  | 0 => by rw [upI, upI, upI, h]
  | k + 1 => by rw [upI, upI_shift h k, upI]
theorem depth_zero (nds : List Nd) : DepthIs nds 0 0 := ⟨rfl, fun k hk => absurd hk (Nat.not_lt_zero _)⟩
theorem DepthIs.succ {nds : List Nd} {id : Int} {nd : Nd} {K : Nat} (h : DepthIs nds nd.par K) (hnd : ndOf nds id = some nd) (h0 : id ≠ 0) : DepthIs nds id (K + 1) := by
  refine ⟨by rw [upI_shift hnd]; exact h.top, fun k hk => ?_⟩
  cases k with
  | zero => exact ⟨h0, nd, hnd⟩
  | succ k => rw [upI_shift hnd]; exact h.way k (by omega)
theorem DepthIs.eq {nds : List Nd} {id : Int} {K K' : Nat} (h : DepthIs nds id K) (h' : DepthIs nds id K') : K = K' := by
  rcases Nat.lt_trichotomy K K' with k | k | k
  · exact absurd h.top (h'.way K k).1
  · exact k
  · exact absurd h'.top (h.way K' k).1
theorem depth_of {next : Int} {nds : List Nd} (hr : RightM next nds) : ∀ (f : Nat) (nd : Nd), nd ∈ nds → belowB nds f nd = true → ∃ K, 1 ≤ K ∧ K ≤ f ∧ DepthIs nds nd.id K
  | 0, nd, _, h => by simp [belowB] at h
  | f + 1, nd, hm, h => by
    obtain ⟨i, hi⟩ := List.getElem?_of_mem hm
    have hnd := ndOf_is hr.rise hi
    have h0 : nd.id ≠ 0 := by have := hr.rise.pos i nd hi; omega
    rw [belowB] at h
    split at h
    · rename_i hp
      exact ⟨1, by omega, by omega, (show DepthIs nds nd.par 0 from by rw [hp]; exact depth_zero nds).succ hnd h0⟩
    · split at h
      · cases h
      · rename_i p hp
        simp only [Bool.and_eq_true] at h
        obtain ⟨j, _, hj, he⟩ := ndOf_some hp
        obtain ⟨K, h1, h2, h3⟩ := depth_of hr f p (List.mem_of_getElem? hj) h.2
        rw [he] at h3
        exact ⟨K + 1, by omega, by omega, h3.succ hnd h0⟩
/-- how deep a node stands; 0: there is none -/
def depthV (nds : List Nd) (id : Int) : Nat := ((List.range 65).find? (fun k => upI nds id k == 0)).getD 0
theorem DepthIs.val {nds : List Nd} {id : Int} {K : Nat} (h : DepthIs nds id K) (hK : K ≤ 64) : depthV nds id = K := by
  unfold depthV
  have : (List.range 65).find? (fun k => upI nds id k == 0) = some K := by
    rw [List.find?_range_eq_some]
    refine ⟨by simpa using h.top, by simp; omega, fun j hj => ?_⟩
    simpa using (h.way j hj).1
  rw [this]; rfl
theorem RightM.depth {next : Int} {nds : List Nd} (hr : RightM next nds) {id : Int} {nd : Nd} (h : ndOf nds id = some nd) : DepthIs nds id (depthV nds id) ∧ 1 ≤ depthV nds id ∧ depthV nds id ≤ 64 := by
  obtain ⟨i, _, hi, he⟩ := ndOf_some h
  have hm := List.mem_of_getElem? hi
  obtain ⟨K, h1, h2, h3⟩ := depth_of hr 64 nd hm (hr.below nd hm)
  rw [he] at h3
  rw [h3.val h2]
  exact ⟨h3, h1, h2⟩
end Go.Proofs.YtjjlofaejpnnnaaGreatDoor
namespace Go.Proofs.YtjjlofaejpnnnaaGreatDoor
open Go Go.RowKit
set_option linter.unusedVariables false
def kidsV (nds : List Nd) (x : Int) : List Int := match ndOf nds x with
  | some nd => nd.kids
  | none => []
theorem kidsV_of {nds : List Nd} {x : Int} {nd : Nd} (h : ndOf nds x = some nd) : kidsV nds x = nd.kids := by unfold kidsV; rw [h]
/-- all of them are nodes that stand so deep -/
def AtD (nds : List Nd) (D : Nat) (ids : List Int) : Prop := ∀ x ∈ ids, (∃ nd, ndOf nds x = some nd) ∧ depthV nds x = D
section
variable {next : Int} {nds : List Nd}
theorem kid_depth (hr : RightM next nds) {x k : Int} {nd : Nd} (hx : ndOf nds x = some nd) (hk : k ∈ nd.kids) : ∃ y, ndOf nds k = some y ∧ y.par = x ∧ depthV nds k = depthV nds x + 1 := by
  obtain ⟨i, _, hi, he⟩ := ndOf_some hx
  obtain ⟨y, hy, hp⟩ := (hr.kids (List.mem_of_getElem? hi)).1 k hk
  rw [he] at hp
  obtain ⟨j, _, hj, hje⟩ := ndOf_some hy
  have h0 : k ≠ 0 := by have := hr.rise.pos j y hj; omega
  have h1 := (show DepthIs nds y.par (depthV nds x) from by rw [hp]; exact (hr.depth hx).1).succ hy h0
  exact ⟨y, hy, hp, (hr.depth hy).1.eq h1⟩
theorem AtD.kids (hr : RightM next nds) {D : Nat} {x : Int} (h : (∃ nd, ndOf nds x = some nd) ∧ depthV nds x = D) : AtD nds (D + 1) (kidsV nds x) := by
  obtain ⟨⟨nd, hx⟩, hd⟩ := h
  rw [kidsV_of hx]
  intro k hk
  obtain ⟨y, h1, _, h2⟩ := kid_depth hr hx hk
  exact ⟨⟨y, h1⟩, by omega⟩
theorem AtD.le (hr : RightM next nds) {D : Nat} {ids : List Int} (h : AtD nds D ids) (h0 : 65 ≤ D) : ids = [] := by
  cases ids with
  | nil => rfl
  | cons x r =>
    obtain ⟨⟨nd, hx⟩, hd⟩ := h x (by simp)
    have := (hr.depth hx).2.2
    omega
end
end Go.Proofs.YtjjlofaejpnnnaaGreatDoor
namespace Go.Proofs.YtjjlofaejpnnnaaGreatDoor
open Go Go.RowKit
set_option linter.unusedVariables false
/-- what has been read: the next number (0 ahead of the first line), the nodes in the order in which they are told, how deep each stands -/
structure RS where
  next : Int
  nds : List Nd
  deep : List Nat
/-- the longest row of bytes of a word -/
def wordP (l : List UInt8) : List UInt8 := l.takeWhile fun c => c != 32 && c != 61
/-- a number's text from 1 to one less than a bound -/
def numberV (l : List UInt8) (bound : Int) : Option Int := match intT l with
  | some n => if 1 ≤ n ∧ n < bound then some n else none
  | none => none
def bytesOf (l : List UInt8) : ByteArray := ⟨l.toArray⟩
/-- behind a blank: a word, and what is left -/
def wordV : List UInt8 → Option (List UInt8 × List UInt8)
  | c :: t => if c = 32 ∧ wordL (wordP t) = true then some (wordP t, t.drop (wordP t).length) else none
  | [] => none
/-- the last node turned -/
def lastV (st : RS) (nd : Nd) : RS := ⟨st.next, st.nds.dropLast ++ [nd], st.deep⟩
def hasV (st : RS) (nd : Nd) (name v : List UInt8) : Option RS :=
  let r := unq (bytesOf v) 0
  if r.2.2 = 0 ∧ r.2.1 = (v.length : Int) ∧ r.1.length ≤ 4096 ∧ nd.refs = [] ∧ (∀ p ∈ nd.props.getLast?, p.1.data.toList < name) then
    some (lastV st { nd with props := nd.props ++ [(bytesOf name, bytesOf r.1)] })
  else none
def refersV (st : RS) (nd : Nd) (role v : List UInt8) : Option RS := match numberV v st.next with
  | some n => if ∀ p ∈ nd.refs.getLast?, p.1.data.toList < role then some (lastV st { nd with refs := nd.refs ++ [(bytesOf role, n)] }) else none
  | none => none
/-- the last node that stands so deep -/
def upV (st : RS) (d : Nat) : Option (Nat × Nd) := ((List.range st.nds.length).reverse.find? fun i => st.deep.getD i 0 == d).bind fun i => (st.nds[i]?).map fun nd => (i, nd)
/-- a node more, with so many blanks ahead -/
def standsV (st : RS) (n : Nd) (d : Nat) : Option RS :=
  if 4096 ≤ st.nds.length ∨ 64 ≤ d ∨ (0 < d ∧ st.deep.getLastD 0 < d) ∨ st.nds.any (·.id == n.id) = true then none
  else if d = 0 then
    (match upV st 1 with
     | some r => if n.id ≤ r.2.id then none else some ⟨st.next, st.nds ++ [n], st.deep ++ [1]⟩
     | none => if n.id ≤ 0 then none else some ⟨st.next, st.nds ++ [n], st.deep ++ [1]⟩)
  else match upV st d with
    | some u => some ⟨st.next, st.nds.set u.1 { u.2 with kids := u.2.kids ++ [n.id] } ++ [{ n with par := u.2.id }], st.deep ++ [d + 1]⟩
    | none => none
def nodeV (st : RS) (d : Nat) (id : Int) (u : List UInt8) : Option RS :=
  (if d = 0 then some ([], u) else wordV u).bind fun r => (wordV r.2).bind fun q =>
    if q.2 = [] then standsV st ⟨id, bytesOf q.1, 0, bytesOf r.1, [], [], []⟩ d else none
def takesV (st : RS) (s : List UInt8) : Option RS :=
  if st.next = 0 then
    (if 5 < s.length ∧ s.take 5 = [110, 101, 120, 116, 32] then (numberV (s.drop 5) 1048578).map fun n => ⟨n, [], []⟩ else none)
  else
    let d := (s.takeWhile (· == 32)).length
    match s.drop d with
    | [] => none
    | c :: t =>
      if c = 46 ∨ c = 62 then
        match st.nds.getLast?, t.drop (wordP t).length with
        | some nd, e :: v => if d = st.deep.getLastD 0 ∧ e = 61 ∧ wordL (wordP t) = true then (if c = 62 then refersV st nd (wordP t) v else hasV st nd (wordP t) v) else none
        | _, _ => none
      else (numberV (wordP (c :: t)) st.next).bind fun id => nodeV st d id ((c :: t).drop (wordP (c :: t)).length)
/-- the lines from here on: what has been read of them all, or how many lines were read when one was refused -/
def linesV : Nat → RS → Nat → List UInt8 → RS ⊕ Nat
  | 0, _, k, _ => .inr (k + 1)
  | f + 1, st, k, l =>
    match takesV st (l.takeWhile (· != 10)), l.drop (l.takeWhile (· != 10)).length with
    | some st', _ :: rest => if rest = [] then .inl st' else linesV f st' (k + 1) rest
    | _, _ => .inr (k + 1)
/-- a node goes among those with greater numbers -/
def byId (n : Nd) : List Nd → List Nd
  | [] => [n]
  | x :: l => if n.id < x.id then n :: x :: l else x :: byId n l
/-- what the text is: the model, or the line at which it is refused, and the error -/
def parseV (l : List UInt8) : (Int × List Nd) × Int × Int :=
  if 1048576 < l.length then ((0, []), 0, 3) else
  match linesV (l.length + 1) ⟨0, [], []⟩ 0 l with
  | .inl st => ((st.next, st.nds.foldr byId []), 0, 0)
  | .inr k => ((0, []), (k : Int), 30)
end Go.Proofs.YtjjlofaejpnnnaaGreatDoor
namespace Go.Proofs.YtjjlofaejpnnnaaGreatDoor
open Go Go.RowKit
set_option linter.unusedVariables false
/-- the last place at which d stands -/
def lastIx (l : List Nat) (d : Nat) : Option Nat := (List.range l.length).reverse.find? fun i => l.getD i 0 == d
theorem lastIx_snoc_eq (l : List Nat) (d : Nat) : lastIx (l ++ [d]) d = some l.length := by
  unfold lastIx
  rw [List.length_append, List.length_singleton, List.range_succ, List.reverse_append]
  simp
theorem find_congr {α : Type} {p q : α → Bool} : ∀ {l : List α}, (∀ x ∈ l, p x = q x) → l.find? p = l.find? q
  | [], _ => rfl
  | x :: l, h => by
    rw [List.find?_cons, List.find?_cons, h x (by simp), find_congr fun y hy => h y (by simp [hy])]
theorem lastIx_snoc_ne (l : List Nat) {x d : Nat} (h : x ≠ d) : lastIx (l ++ [x]) d = lastIx l d := by
  unfold lastIx
  rw [List.length_append, List.length_singleton, List.range_succ, List.reverse_append]
  have e : (l ++ [x]).getD l.length 0 = x := by simp
  simp only [List.reverse_singleton, List.singleton_append, List.find?_cons, e]
  have hx : (x == d) = false := by simpa using h
  rw [hx]
  refine find_congr fun i hi => ?_
  have hil : i < l.length := by simpa using hi
  rw [List.getD_eq_getElem?_getD, List.getD_eq_getElem?_getD, List.getElem?_append_left hil]
theorem lastIx_some {l : List Nat} {d i : Nat} (h : lastIx l d = some i) : i < l.length ∧ l.getD i 0 = d := by
  unfold lastIx at h
  have h1 := List.mem_of_find?_eq_some h
  have h2 := List.find?_some h
  exact ⟨by simpa using h1, by simpa using h2⟩
/-- the way from the last root down to the last node: their places -/
def wayV (deep : List Nat) : List Nat := (List.range (deep.getLastD 0)).map fun j => (lastIx deep (j + 1)).getD 0
theorem wayV_len (deep : List Nat) : (wayV deep).length = deep.getLastD 0 := by unfold wayV; simp
theorem wayV_at {deep : List Nat} {d : Nat} (h1 : 0 < d) (h : d ≤ deep.getLastD 0) : (wayV deep)[d - 1]? = some ((lastIx deep d).getD 0) := by
  unfold wayV
  rw [List.getElem?_map, List.getElem?_range (by omega)]
  simp only [Option.map_some]
  rw [show d - 1 + 1 = d from by omega]
/-- a node more, behind d blanks -/
theorem wayV_snoc {deep : List Nat} {d : Nat} (h : d ≤ deep.getLastD 0) : wayV (deep ++ [d + 1]) = (wayV deep).take d ++ [deep.length] := by
  unfold wayV
  have e : (deep ++ [d + 1]).getLastD 0 = d + 1 := by simp [List.getLastD_eq_getLast?]
  rw [e, List.range_succ, List.map_append, List.map_singleton, lastIx_snoc_eq, Option.getD_some, ← List.map_take, List.take_range, Nat.min_eq_left h]
  congr 1
  refine List.map_congr_left fun j hj => ?_
  have hj' : j < d := by simpa using hj
  rw [lastIx_snoc_ne deep (by omega)]
/-- so deep may they stand -/
structure DeepOk (deep : List Nat) : Prop where
  pos : ∀ x ∈ deep, 1 ≤ x ∧ x ≤ 64
  way : ∀ d, 1 ≤ d → d ≤ deep.getLastD 0 → ∃ i, lastIx deep d = some i
theorem deepOk_nil : DeepOk [] := ⟨by simp, fun d h1 h2 => by simp at h2; omega⟩
theorem DeepOk.snoc {deep : List Nat} {d : Nat} (h : DeepOk deep) (hd : d ≤ deep.getLastD 0) (h64 : d < 64) : DeepOk (deep ++ [d + 1]) := by
  refine ⟨fun x hx => ?_, fun k h1 h2 => ?_⟩
  · rcases List.mem_append.1 hx with hx | hx
    · exact h.pos x hx
    · obtain rfl : x = d + 1 := by simpa using hx
      omega
  · have e : (deep ++ [d + 1]).getLastD 0 = d + 1 := by simp [List.getLastD_eq_getLast?]
    rw [e] at h2
    by_cases hk : k = d + 1
    · subst hk; exact ⟨_, lastIx_snoc_eq _ _⟩
    · rw [lastIx_snoc_ne deep (fun e => hk e.symm)]
      exact h.way k h1 (by omega)
theorem upV_is {st : RS} {d : Nat} (hl : st.deep.length = st.nds.length) : upV st d = (lastIx st.deep d).bind fun i => (st.nds[i]?).map fun nd => (i, nd) := by
  unfold upV lastIx
  rw [hl]
end Go.Proofs.YtjjlofaejpnnnaaGreatDoor
namespace Go.Proofs.YtjjlofaejpnnnaaGreatDoor
open Go Go.RowKit
set_option linter.unusedVariables false
theorem innC_ne {c : UInt8} (h : innC c = true) : c ≠ 32 ∧ c ≠ 61 ∧ c ≠ 10 := by
  refine ⟨?_, ?_, ?_⟩ <;> rintro rfl <;> exact absurd h (by decide)
theorem nameL_ne : ∀ {l : List UInt8}, nameL l = true → ∀ c ∈ l, c ≠ 32 ∧ c ≠ 61 ∧ c ≠ 10
  | x :: r, h, c, hc => by
    unfold nameL at h
    simp only [Bool.and_eq_true, decide_eq_true_eq] at h
    rcases List.mem_cons.1 hc with rfl | hc
    · exact innC_ne (by unfold innC innB; rw [h.1.2]; rfl)
    · exact innC_ne (List.all_eq_true.1 h.2 c hc)
theorem wordL_ne {l : List UInt8} (h : wordL l = true) : ∀ c ∈ l, c ≠ 32 ∧ c ≠ 61 ∧ c ≠ 10 := by
  intro c hc
  unfold wordL at h
  cases l with
  | nil => cases hc
  | cons x r =>
    simp only [stripL] at h
    by_cases hx : x = 63
    · rw [if_pos hx] at h
      rcases List.mem_cons.1 hc with rfl | hc
      · subst hx; decide
      · exact nameL_ne h c hc
    · rw [if_neg hx] at h
      exact nameL_ne h c hc
theorem wordL_nil : wordL [] = false := by decide
/-- ahead of the first c, and behind it -/
def cutA (c : UInt8) (l : List UInt8) : List UInt8 := l.takeWhile (· != c)
def cutB (c : UInt8) (l : List UInt8) : List UInt8 := (l.drop (cutA c l).length).drop 1
theorem cutA_nil (c : UInt8) : cutA c [] = [] := rfl
theorem cut_all {c : UInt8} : ∀ {l : List UInt8}, (∀ x ∈ l, x ≠ c) → cutA c l = l ∧ cutB c l = []
  | [], _ => ⟨rfl, rfl⟩
  | x :: l, h => by
    have hx : (x != c) = true := by simpa using h x (by simp)
    obtain ⟨h1, h2⟩ := cut_all (l := l) fun y hy => h y (by simp [hy])
    have e : cutA c (x :: l) = x :: cutA c l := by unfold cutA; rw [List.takeWhile_cons, if_pos hx]
    refine ⟨by rw [e, h1], ?_⟩
    unfold cutB
    rw [e, h1]
    simp
theorem cut_at {c : UInt8} {a b : List UInt8} (h : ∀ x ∈ a, x ≠ c) : cutA c (a ++ c :: b) = a ∧ cutB c (a ++ c :: b) = b := by
  have e : cutA c (a ++ c :: b) = a := by
    unfold cutA
    rw [List.takeWhile_append_of_pos (fun x hx => by simpa using h x hx), List.takeWhile_cons]
    simp
  refine ⟨e, ?_⟩
  unfold cutB
  rw [e]
  simp
theorem takeWhile_mem {p : UInt8 → Bool} : ∀ {l : List UInt8} {x : UInt8}, x ∈ l.takeWhile p → p x = true
  | y :: l, x, h => by
    rw [List.takeWhile_cons] at h
    split at h
    · rename_i hy
      rcases List.mem_cons.1 h with rfl | h
      · exact hy
      · exact takeWhile_mem h
    · cases h
/-- a list is its row of bytes of a word, and what is left begins with a blank or an equals sign -/
theorem wordP_parts (t : List UInt8) : ∃ w r, t = w ++ r ∧ wordP t = w ∧ t.drop (wordP t).length = r ∧ (∀ x ∈ w, x ≠ 32 ∧ x ≠ 61) ∧ (r = [] ∨ ∃ v, r = 32 :: v ∨ r = 61 :: v) := by
  refine ⟨wordP t, t.drop (wordP t).length, ?_, rfl, rfl, fun x hx => ?_, ?_⟩
  · unfold wordP
    induction t with
    | nil => rfl
    | cons x l ih =>
      rw [List.takeWhile_cons]
      split
      · rw [List.length_cons, List.drop_succ_cons, List.cons_append, ← ih]
      · rfl
  · have := takeWhile_mem hx
    simpa using this
  · unfold wordP
    induction t with
    | nil => exact .inl rfl
    | cons x l ih =>
      rw [List.takeWhile_cons]
      split
      · rw [List.length_cons, List.drop_succ_cons]
        exact ih
      · rename_i hx
        refine .inr ⟨l, ?_⟩
        have : x = 32 ∨ x = 61 := by
          by_cases h1 : x = 32
          · exact .inl h1
          · by_cases h2 : x = 61
            · exact .inr h2
            · exact absurd (by simp [h1, h2]) hx
        rcases this with rfl | rfl
        · exact .inl rfl
        · exact .inr rfl
/-- a name, an equals sign, and the rest -/
theorem arm_eq (F : List UInt8 → List UInt8 → Option RS) (hF : ∀ w, F w [] = none) (t : List UInt8) :
    (match t.drop (wordP t).length with | e :: v => if e = 61 ∧ wordL (wordP t) = true then F (wordP t) v else none | [] => none) = if wordL (cutA 61 t) = true then F (cutA 61 t) (cutB 61 t) else none := by
  obtain ⟨w, r, ht, hw, hr, hne, hcase⟩ := wordP_parts t
  rw [hr, hw]
  rcases hcase with rfl | ⟨v, rfl | rfl⟩
  · obtain ⟨h1, h2⟩ := cut_all (c := 61) (l := t) fun x hx => (hne x (by rw [ht] at hx; simpa using hx)).2
    rw [h1, h2, hF]
    simp
  · have hno : wordL (cutA 61 t) = false := by
      cases hb : wordL (cutA 61 t) with
      | false => rfl
      | true =>
        have h3 : (32 : UInt8) ∈ cutA 61 t := by
          rw [ht]
          unfold cutA
          rw [List.takeWhile_append_of_pos (fun x hx => by simpa using (hne x hx).2), List.takeWhile_cons]
          simp
        exact absurd rfl (wordL_ne hb 32 h3).1
    rw [hno]
    simp
  · obtain ⟨h1, h2⟩ := cut_at (c := 61) (a := w) (b := v) fun x hx => (hne x hx).2
    rw [ht, h1, h2]
    simp
theorem wordV_cons (c : UInt8) (t : List UInt8) : wordV (c :: t) = if c = 32 ∧ wordL (wordP t) = true then some (wordP t, t.drop (wordP t).length) else none := rfl
theorem itoa_ne (v : Int) : ∀ c ∈ Lib.itoa v, c ≠ 61 ∧ c ≠ 32 := by
  have key : ∀ (u : Nat), ∀ c ∈ Lib.decDigits u, c ≠ 61 ∧ c ≠ 32 := by
    intro u c hc
    have h := List.all_eq_true.1 (dec_val u).2 c hc
    constructor <;> rintro rfl <;> exact absurd h (by decide)
  intro c hc
  unfold Lib.itoa at hc
  split at hc
  · rcases List.mem_cons.1 hc with rfl | hc
    · decide
    · exact key _ c hc
  · exact key _ c hc
theorem numberV_ne {l : List UInt8} {b n : Int} (h : numberV l b = some n) : ∀ c ∈ l, c ≠ 61 ∧ c ≠ 32 := by
  unfold numberV at h
  cases hi : intT l with
  | none => rw [hi] at h; cases h
  | some v =>
    have := (intT_out hi).1
    rw [← this]
    exact itoa_ne v
theorem numberV_nil (b : Int) : numberV [] b = none := by
  cases h : numberV [] b with
  | none => rfl
  | some n =>
    unfold numberV at h
    cases hi : intT [] with
    | none => rw [hi] at h; cases h
    | some v =>
      have h1 := (intT_out hi).1
      exfalso
      unfold Lib.itoa at h1
      split at h1
      · cases h1
      · have : ∀ u : Nat, Lib.decDigits u ≠ [] := by
          intro u h2
          rw [Lib.decDigits] at h2
          split at h2
          · cases h2
          · simp at h2
        exact this _ h1
/-- a node's line behind its blanks, as the program cuts it -/
def nodeP (st : RS) (d : Nat) (s : List UInt8) : Option RS := (numberV (cutA 32 s) st.next).bind fun id =>
  (if d = 0 then some ([], cutB 32 s) else if wordL (cutA 32 (cutB 32 s)) = true then some (cutA 32 (cutB 32 s), cutB 32 (cutB 32 s)) else none).bind fun r =>
    if wordL r.2 = true then standsV st ⟨id, bytesOf r.2, 0, bytesOf r.1, [], [], []⟩ d else none
/-- a word up to the end -/
theorem word_end (t : List UInt8) (F : List UInt8 → Option RS) :
    ((wordV (32 :: t)).bind fun q => if q.2 = [] then F q.1 else none) = if wordL t = true then F t else none := by
  obtain ⟨w, r, ht, hw, hr, hne, hcase⟩ := wordP_parts t
  rw [wordV_cons, hr, hw]
  by_cases hwl : wordL w = true
  · rw [if_pos ⟨rfl, hwl⟩]
    simp only [Option.bind_some]
    rcases hcase with rfl | ⟨v, hv⟩
    · have : t = w := by rw [ht]; simp
      rw [if_pos rfl, this, if_pos hwl]
    · have hrn : r ≠ [] := by rcases hv with rfl | rfl <;> simp
      rw [if_neg hrn]
      have hno : wordL t = false := by
        cases hb : wordL t with
        | false => rfl
        | true =>
          exfalso
          rcases hv with rfl | rfl
          · exact (wordL_ne hb 32 (by rw [ht]; simp)).1 rfl
          · exact (wordL_ne hb 61 (by rw [ht]; simp)).2.1 rfl
      rw [hno]; simp
  · rw [if_neg (fun h => hwl h.2)]
    simp only [Option.bind_none]
    have hno : wordL t = false := by
      cases hb : wordL t with
      | false => rfl
      | true =>
        exfalso
        have hall : t = w := by
          rcases hcase with rfl | ⟨v, rfl | rfl⟩
          · rw [ht]; simp
          · exact absurd rfl (wordL_ne hb 32 (by rw [ht]; simp)).1
          · exact absurd rfl (wordL_ne hb 61 (by rw [ht]; simp)).2.1
        rw [hall] at hb
        exact hwl hb
    rw [hno]; simp
theorem word_end' (u : List UInt8) (F : List UInt8 → Option RS) (h : ∀ v, u ≠ 32 :: v) : ((wordV u).bind fun q => if q.2 = [] then F q.1 else none) = none := by
  cases u with
  | nil => rfl
  | cons c t =>
    rw [wordV_cons, if_neg (fun hc => h t (by rw [hc.1]))]
    rfl
theorem nodeP_eq (st : RS) (d : Nat) (s : List UInt8) : nodeP st d s = (numberV (wordP s) st.next).bind fun id => nodeV st d id (s.drop (wordP s).length) := by
  obtain ⟨w, r, hs, hw, hr, hne, hcase⟩ := wordP_parts s
  rw [hr, hw]
  unfold nodeP
  rcases hcase with rfl | ⟨v, rfl | rfl⟩
  · obtain ⟨h1, h2⟩ := cut_all (c := 32) (l := s) fun x hx => (hne x (by rw [hs] at hx; simpa using hx)).1
    rw [h1, h2, show s = w from by rw [hs]; simp]
    congr 1
    funext id
    unfold nodeV
    by_cases hd : d = 0
    · simp [hd, wordL_nil, wordV]
    · simp [hd, wordL_nil, wordV, cutA_nil]
  · obtain ⟨h1, h2⟩ := cut_at (c := 32) (a := w) (b := v) fun x hx => (hne x hx).1
    rw [hs, h1, h2]
    congr 1
    funext id
    unfold nodeV
    by_cases hd : d = 0
    · rw [if_pos hd, if_pos hd]
      simp only [Option.bind_some]
      exact (word_end v fun q => standsV st ⟨id, bytesOf q, 0, bytesOf [], [], [], []⟩ d).symm
    · rw [if_neg hd, if_neg hd]
      obtain ⟨w2, r2, hv, hw2, hr2, hne2, hcase2⟩ := wordP_parts v
      have e : wordV (32 :: v) = if wordL w2 = true then some (w2, r2) else none := by
        rw [wordV_cons, hr2, hw2]
        simp
      rw [e]
      rcases hcase2 with rfl | ⟨v2, rfl | rfl⟩
      · obtain ⟨h3, h4⟩ := cut_all (c := 32) (l := v) fun x hx => (hne2 x (by rw [hv] at hx; simpa using hx)).1
        rw [h3, h4, show v = w2 from by rw [hv]; simp]
        by_cases hb : wordL w2 = true
        · simp [hb, wordL_nil, wordV]
        · simp [hb]
      · obtain ⟨h3, h4⟩ := cut_at (c := 32) (a := w2) (b := v2) fun x hx => (hne2 x hx).1
        rw [hv, h3, h4]
        by_cases hb : wordL w2 = true
        · rw [if_pos hb, if_pos hb]
          simp only [Option.bind_some]
          exact (word_end v2 fun q => standsV st ⟨id, bytesOf q, 0, bytesOf w2, [], [], []⟩ d).symm
        · rw [if_neg hb, if_neg hb]
          rfl
      · have hno : wordL (cutA 32 v) = false := by
          cases hb : wordL (cutA 32 v) with
          | false => rfl
          | true =>
            have h3 : (61 : UInt8) ∈ cutA 32 v := by
              rw [hv]
              unfold cutA
              rw [List.takeWhile_append_of_pos (fun x hx => by simpa using (hne2 x hx).1), List.takeWhile_cons]
              simp
            exact absurd rfl (wordL_ne hb 61 h3).2.1
        rw [hno]
        by_cases hb : wordL w2 = true
        · rw [if_pos hb]
          simp only [Option.bind_some]
          rw [word_end' _ (fun q => standsV st ⟨id, bytesOf q, 0, bytesOf w2, [], [], []⟩ d) (by intro x; simp)]
          simp
        · rw [if_neg hb]
          simp
  · have hno : numberV (cutA 32 s) st.next = none := by
      cases hb : numberV (cutA 32 s) st.next with
      | none => rfl
      | some n =>
        have h3 : (61 : UInt8) ∈ cutA 32 s := by
          rw [hs]
          unfold cutA
          rw [List.takeWhile_append_of_pos (fun x hx => by simpa using (hne x hx).1), List.takeWhile_cons]
          simp
        exact absurd rfl (numberV_ne hb 61 h3).1
    rw [hno]
    cases hb : numberV w st.next with
    | none => rfl
    | some id =>
      simp only [Option.bind_none, Option.bind_some]
      unfold nodeV
      by_cases hd : d = 0
      · rw [if_pos hd]
        simp only [Option.bind_some]
        rw [word_end' _ (fun q => standsV st ⟨id, bytesOf q, 0, bytesOf [], [], [], []⟩ d) (by intro x; simp)]
      · rw [if_neg hd]
        have : wordV (61 :: v) = none := by rw [wordV_cons, if_neg (fun h => absurd h.1 (by decide))]
        rw [this]
        rfl
end Go.Proofs.YtjjlofaejpnnnaaGreatDoor

/-
  THE DOCUMENT's stands: what each step makes of its reader in memory; where its loop stands, in plain mathematics.
  WALKS over the document's sheet: stands, where a node is refused ahead of its loop.
  WALKS over the document's sheet: stands: its loop.
-/
import Derived.Test.YtjjlofaejpnnnaaGreatDoorZR17
namespace Go.Proofs.YtjjlofaejpnnnaaGreatDoor
open Go Go.RowKit Go.Sort
set_option linter.unusedVariables false
section
variable {B0 B gu c gx : Nat} {next : Int} {v vd : Value} {l : List (Nd × Leaf)} {ws : List Int} {w W W' : World} {nn : Nd}
theorem UMid.ne {cs : Array Value} (h : UMid B0 B gu c gx next v vd l ws cs w W) : gu ≠ gx := h.bx.ne_ h.bn (by decide)
/-- the node stands in its box -/
theorem UIn.mid {k : Nat} {st : RS} (h : UIn B gu c k v vd l st w) {B0 : Nat} (h0 : B0 ≤ gu) (n : Nd) : UMid B0 B gu c w.heap.size st.next v vd l (deepI st.deep) (ndBox n) w (w.alloc (.cells (ndBox n) 55)) := by
  have hb : Below w.heap.size w (w.alloc (.cells (ndBox n) 55)) := (Below.refl _ _).alloc (Nat.le_refl _) _
  have hl : gu < w.heap.size := h.box.lt
  refine ⟨h.box.after hb, h.np.after hb, Blk.new _ _ _, hb.mono (by omega), h0, h.lu, by omega, fun e => ?_⟩
  obtain ⟨A, cp, hv, _⟩ := h.v_form
  have := (World.ownsRow.lt h.np.own _ e).2
  omega
/-- the parent is known -/
theorem UMid.par (h : UMid B0 B gu c gx next v vd l ws (ndBox nn) w W) (y : Int) : UMid B0 B gu c gx next v vd l ws (ndBox { nn with par := y }) w (W.setCell ⟨gx, 2, none⟩ (.int .i64 y)) :=
  ⟨h.bx.far (p := ⟨gx, 2, none⟩) h.ne _, h.np.otherN h.bn h.gv, by have := h.bn.set_ 2 (.int .i64 y); simpa [ndBox] using this, h.bel.setCell (p := ⟨gx, 2, none⟩) h.lx _, h.l0, h.l2, h.lx, h.gv⟩
/-- a kid more -/
theorem UMid.kid {n cc g i : Nat} {nd : Nd} {P K R : Sl} {Ak : Option Addr} {ck : Nat} {y : Int} (h : UMid B0 B gu c gx next (.slice (some ⟨g, 0, none⟩) n cc) vd l ws (ndBox nn) w W) (hl : l.length = n) (hi : l[i]? = some (nd, ⟨P, K, R⟩))
    (ho : W'.ownsRow B 3 1 (.slice Ak (K.n + 1) ck) (K.n + 1) (intCells nd.kids ++ [.int .i64 y])) (hg : W.grownBy W' (Value.slice K.A K.n K.c).ownBlock) (hnew : (Value.slice Ak (K.n + 1) ck).ownBlock = (Value.slice K.A K.n K.c).ownBlock ∨ (Value.slice Ak (K.n + 1) ck).ownBlock = some W.heap.size) :
    UMid B0 B gu c gx next (.slice (some ⟨g, 0, none⟩) n cc) vd (l.set i ({ nd with kids := nd.kids ++ [y] }, ⟨P, ⟨Ak, K.n + 1, ck⟩, R⟩)) ws (ndBox nn) w (W'.setCell ⟨g, i * 7 + 5, none⟩ (.slice Ak (K.n + 1) ck)) := by
  have hkr : W.ownsRow B 3 1 (.slice K.A K.n K.c) K.n (intCells nd.kids) := (h.np.leaf _ (List.mem_of_getElem? hi)).k
  have hbx := h.bx.grown hg (Ne.symm (own_blk_ne hkr h.bx (by decide)))
  have hbn := h.bn.grown hg (Ne.symm (own_blk_ne hkr h.bn (by decide)))
  have hgB : B ≤ g := (World.ownsRow.lt h.np.own g rfl).1
  have hgg : g ≠ gu := by have := h.l2; omega
  have hgn : g ≠ gx := fun e => h.gv (by rw [e]; rfl)
  have hB0 : B0 ≤ B := by have := h.l0; have := h.l2; omega
  exact ⟨hbx.far (p := ⟨g, _, none⟩) (Ne.symm hgg) _, h.np.kid hl hi ho hg hnew, hbn.far (p := ⟨g, _, none⟩) (Ne.symm hgn) _,
    (below_own h.bel h.hs hg fun x hx => by have := (World.ownsRow.lt hkr x hx).1; omega).setCell (p := ⟨g, _, none⟩) (by show B0 ≤ g; omega) _, h.l0, h.l2, h.lx, h.gv⟩
/-- a node more -/
theorem UMid.node {v' : Value} (h : UMid B0 B gu c gx next v vd l ws (ndBox nn) w W) (h1 : nn.props = []) (h2 : nn.kids = []) (h3 : nn.refs = []) (hz : SzN nn)
    (ho : OwnN W' B v' (l ++ [(nn, ⟨⟨none, 0, 0⟩, ⟨none, 0, 0⟩, ⟨none, 0, 0⟩⟩)])) (hg : W.grownBy W' v.ownBlock) :
    UEnd B0 B gu c next v' vd (l ++ [(nn, ⟨⟨none, 0, 0⟩, ⟨none, 0, 0⟩, ⟨none, 0, 0⟩⟩)]) ws w (W'.setCell ⟨gu, 1, none⟩ v') := by
  have hbx := h.bx.grown hg (Ne.symm (own_blk_ne h.np.own h.bx (by decide)))
  have hB0 : B0 ≤ B := by have := h.l0; have := h.l2; omega
  exact ⟨by have := hbx.set_ 1 v'; simpa [udBox] using this, (h.np.node ho hg h1 h2 h3 rfl hz).other hbx (by decide) (by decide) (by decide) (by decide) _ _,
    (below_own h.bel h.hs hg fun x hx => by have := (World.ownsRow.lt h.np.own x hx).1; omega).setCell (p := ⟨gu, 1, none⟩) h.l0 _⟩
/-- how deep it stands -/
theorem UEnd.deepA {vd' : Value} {ws' : List Int} (h : UEnd B0 B gu c next v vd l ws w W) (l0 : B0 ≤ gu) (l2 : gu < B) (ho : W'.ownsRow B 3 1 vd' ws'.length (intCells ws')) (hg : W.grownBy W' vd.ownBlock) (hnew : vd'.ownBlock = vd.ownBlock ∨ vd'.ownBlock = some W.heap.size) :
    UEnd B0 B gu c next v vd' l ws' w (W'.setCell ⟨gu, 2, none⟩ vd') := by
  have hbx := h.bx.grown hg (Ne.symm (own_blk_ne h.np.way h.bx (by decide)))
  have hs : B0 ≤ W.heap.size := Nat.le_trans l0 (Nat.le_of_lt h.bx.lt)
  exact ⟨by have := hbx.set_ 2 vd'; simpa [udBox] using this, (h.np.wayA ho hg hnew).other hbx (by decide) (by decide) (by decide) (by decide) _ _,
    (below_own h.bel hs hg fun x hx => by have := (World.ownsRow.lt h.np.way x hx).1; omega).setCell (p := ⟨gu, 2, none⟩) l0 _⟩
end
/-- the last place at which d stands; -1: none -/
def lastUp (deep : List Nat) (d : Nat) : Int := match lastIx deep d with
  | some j => (j : Int)
  | none => -1
theorem takeSnocT {α : Type} {l : List α} {i : Nat} {x : α} (h : l[i]? = some x) : l.take (i + 1) = l.take i ++ [x] := by
  rw [List.take_add_one, h]; rfl
theorem takeLenT {α : Type} {l : List α} {i : Nat} {x : α} (h : l[i]? = some x) : (l.take i).length = i := by
  have := (List.getElem?_eq_some_iff.1 h).1
  rw [List.length_take]; omega
/-- where the loop stands ahead of round i -/
structure Went (st : RS) (id : Int) (d i : Nat) (up root : Int) : Prop where
  le : i ≤ st.nds.length
  up : up = lastUp (st.deep.take i) d
  root : root = rootI (st.deep.take i) (idsOf st)
  no : id ∉ (idsOf st).take i
theorem Went.start (st : RS) (id : Int) (d : Nat) : Went st id d 0 (-1) 0 := ⟨Nat.zero_le _, by simp [lastUp, lastIx], by simp [rootI, lastIx], by simp⟩
theorem Went.next {st : RS} {id : Int} {d i : Nat} {up root : Int} (h : Went st id d i up root) (hl : st.deep.length = st.nds.length) {nd : Nd} {x : Nat} (hn : st.nds[i]? = some nd) (hx : st.deep[i]? = some x) (hid : nd.id ≠ id) :
    Went st id d (i + 1) (if x = d then (i : Int) else up) (if x = 1 then nd.id else root) := by
  have hi := (List.getElem?_eq_some_iff.1 hn).1
  have hids : (idsOf st)[i]? = some nd.id := ids_get hn
  have htl : (st.deep.take i).length = i := takeLenT hx
  refine ⟨by omega, ?_, ?_, ?_⟩
  · rw [takeSnocT hx]
    unfold lastUp
    by_cases hd : x = d
    · subst hd
      rw [if_pos rfl, lastIx_snoc_eq, htl]
    · rw [if_neg hd, lastIx_snoc_ne _ hd, h.up]
      rfl
  · rw [takeSnocT hx]
    unfold rootI
    by_cases hd : x = 1
    · subst hd
      rw [if_pos rfl, lastIx_snoc_eq, htl]
      simp only
      rw [hids]; rfl
    · rw [if_neg hd, lastIx_snoc_ne _ hd, h.root]
      rfl
  · rw [takeSnocT hids]
    intro hm
    rcases List.mem_append.1 hm with hm | hm
    · exact h.no hm
    · exact hid (List.mem_singleton.1 hm).symm
/-- the loop has ended -/
theorem Went.done {st : RS} {id : Int} {d : Nat} {up root : Int} (h : Went st id d st.nds.length up root) (hl : st.deep.length = st.nds.length) : up = lastUp st.deep d ∧ root = rootV st ∧ id ∉ idsOf st := by
  refine ⟨?_, ?_, ?_⟩
  · rw [h.up, List.take_of_length_le (by omega)]
  · rw [h.root, List.take_of_length_le (by omega)]; rfl
  · have := h.no
    rwa [List.take_of_length_le (by unfold idsOf; rw [List.length_map]; omega)] at this
/-- a node more stands: the reader -/
theorem UIn.stood0 {B0 B gu c k : Nat} {v vd v' vd' : Value} {l : List (Nd × Leaf)} {st : RS} {w W : World} {n : Nd} (h : UIn B gu c k v vd l st w) (h0 : st.next ≠ 0) (hn : n.props = [] ∧ n.kids = [] ∧ n.refs = []) (hid : 1 ≤ n.id ∧ n.id < st.next) (hno : ¬ noStand st n.id 0) (hk : k + 1 ≤ 4194304)
    (hE : UEnd B0 B gu c st.next v' vd' (l ++ [(n, ⟨⟨none, 0, 0⟩, ⟨none, 0, 0⟩, ⟨none, 0, 0⟩⟩)]) (deepI st.deep ++ [1]) w W) : UIn B gu c (k + 1) v' vd' (l ++ [(n, ⟨⟨none, 0, 0⟩, ⟨none, 0, 0⟩, ⟨none, 0, 0⟩⟩)]) (stoodV st n 0) W := by
  have hok := h.ok h0
  have hst : Stood st n 0 (stoodV st n 0) := standsV_stood (st := st) (by rw [standsV_is hok.dl hok.dk, if_neg hno])
  have hs : stoodV st n 0 = ⟨st.next, st.nds ++ [n], st.deep ++ [1]⟩ := by unfold stoodV; rw [if_pos rfl]
  have hR := hok.stood hst hid.1 hid.2
  rw [hs] at hR ⊢
  refine ⟨hE.bx, ?_, ?_, fun _ => hR, fun e => absurd e h0, ?_, h.lu, hk⟩
  · have e : deepI (st.deep ++ [1]) = deepI st.deep ++ [1] := by unfold deepI; rw [List.map_append]; rfl
    rw [e]; exact hE.np
  · rw [List.map_append, h.nds]; rfl
  · intro nd hnd
    rcases List.mem_append.1 hnd with hnd | hnd
    · have := h.ln nd hnd; omega
    · obtain rfl : nd = n := by simpa using hnd
      rw [hn.1, hn.2.1, hn.2.2]; simp
theorem UIn.stoodP {B0 B gu c k i d : Nat} {v vd v' vd' : Value} {l : List (Nd × Leaf)} {st : RS} {w W : World} {n nd : Nd} {L : Leaf} (h : UIn B gu c k v vd l st w) (h0 : st.next ≠ 0) (hn : n.props = [] ∧ n.kids = [] ∧ n.refs = []) (hid : 1 ≤ n.id ∧ n.id < st.next) (hno : ¬ noStand st n.id d) (hk : k + 1 ≤ 4194304)
    (hsa : StoodAt st n d i nd (stoodV st n d))
    (hE : UEnd B0 B gu c st.next v' vd' (l.set i ({ nd with kids := nd.kids ++ [n.id] }, L) ++ [({ n with par := nd.id }, ⟨⟨none, 0, 0⟩, ⟨none, 0, 0⟩, ⟨none, 0, 0⟩⟩)]) (deepI st.deep ++ [((d + 1 : Nat) : Int)]) w W) :
    UIn B gu c (k + 1) v' vd' (l.set i ({ nd with kids := nd.kids ++ [n.id] }, L) ++ [({ n with par := nd.id }, ⟨⟨none, 0, 0⟩, ⟨none, 0, 0⟩, ⟨none, 0, 0⟩⟩)]) (stoodV st n d) W := by
  have hok := h.ok h0
  have hst : Stood st n d (stoodV st n d) := standsV_stood (st := st) (by rw [standsV_is hok.dl hok.dk, if_neg hno])
  have hs := hsa.is
  have hR := hok.stood hst hid.1 hid.2
  rw [hs] at hR ⊢
  refine ⟨hE.bx, ?_, ?_, fun _ => hR, fun e => absurd e h0, ?_, h.lu, hk⟩
  · have e : deepI (st.deep ++ [d + 1]) = deepI st.deep ++ [((d + 1 : Nat) : Int)] := by unfold deepI; rw [List.map_append]; rfl
    rw [e]; exact hE.np
  · rw [List.map_append, List.map_set, h.nds]; rfl
  · intro x hx
    rcases List.mem_append.1 hx with hx | hx
    · rcases List.mem_or_eq_of_mem_set hx with hx | rfl
      · have := h.ln x hx; omega
      · have := h.ln nd (List.mem_of_getElem? hsa.at_)
        simp only [List.length_append, List.length_singleton]; omega
    · obtain rfl := List.mem_singleton.1 hx
      simp only [hn.1, hn.2.1, hn.2.2, List.length_nil]; omega
end Go.Proofs.YtjjlofaejpnnnaaGreatDoor
namespace Go.Proofs.YtjjlofaejpnnnaaGreatDoor
open Go Go.RowKit Go.Sort
set_option linter.unusedVariables false
theorem deepI_get {deep : List Nat} {i x : Nat} (h : deep[i]? = some x) : (intCells (deepI deep))[i]? = some (.int .i64 x) := by
  unfold intCells deepI
  simp [h]
set_option maxRecDepth 20000 in
set_option maxHeartbeats 6400000 in
theorem standsD_ref (w : World) (B0 B gu c k : Nat) (v vd : Value) (l : List (Nd × Leaf)) (st : RS) (h : UIn B gu c k v vd l st w) (h0 : st.next ≠ 0) (hB0 : B0 ≤ gu) (n : Nd) (d : Nat) (hd : d ≤ 1048576) (hno : 4096 ≤ st.nds.length ∨ 64 ≤ d ∨ st.deep.getLastD 0 < d) :
    Calls Tryz.prog 55 #[.pointer (some ⟨gu, 0, none⟩), .agg (ndBox n), .int .i64 d] w (LineU B0 B gu c (k + 1) (standsV st n d) w) := by
  have hok := h.ok h0
  have hln := hok.ln
  have HV : Hid (standsV st n d = none) := Lib.hid (by
    rw [standsV_is hok.dl hok.dk, if_pos]
    unfold noStand
    rcases hno with h | h | h
    · exact .inl h
    · exact .inr (.inl h)
    · exact .inr (.inr (.inl h)))
  have hm := h.mid hB0 n
  have HEND : Hid (LineU B0 B gu c (k + 1) (standsV st n d) w (.returned (.bool false)) (w.alloc (.cells #[.int .i64 n.id, .string n.con, .int .i64 n.par, .string n.role, .slice none 0 0, .slice none 0 0, .slice none 0 0] 55))) := Lib.hid (lineU_no HV.out hm.bel ((hm.bx.cell 3).trans rfl))
  obtain ⟨A, cp, rfl, hc1, hc2⟩ := h.v_form
  obtain ⟨Ad, cd, rfl, hd1, hd2⟩ := h.d_form
  have c1 : ∀ o, (w.alloc o).cell? ⟨gu, 1, none⟩ = some (.slice A st.nds.length cp) := fun o => by rw [(h.box.alloc o).cell]; rfl
  have c2 : ∀ o, (w.alloc o).cell? ⟨gu, 2, none⟩ = some (.slice Ad st.deep.length cd) := fun o => by rw [(h.box.alloc o).cell]; rfl
  have hdl := hok.dl
  by_cases h4 : st.nds.length = 4096
  · have e4 : ((st.nds.length : Int) == 4096) = true := by rw [beq_iff_eq]; omega
    clear hno h hok hm h4 hdl hc1 hc2 hd1 hd2
    unfold ndBox
    go_enter Tryz.func55, Tryz.ntmps55
    go_wp2_with fail
    go_ret
    exact HEND.out
  · have e4 : ((st.nds.length : Int) == 4096) = false := by rw [beq_eq_false_iff_ne]; omega
    by_cases h64 : 64 ≤ d
    · have e64 : (64 : Int) ≤ (d : Int) := by omega
      clear hno h hok hm h4 hdl hc1 hc2 hd1 hd2 h64
      unfold ndBox
      go_enter Tryz.func55, Tryz.ntmps55
      go_wp2_with fail
      go_ret
      exact HEND.out
    · have hlt : st.deep.getLastD 0 < d := by omega
      have e64 : ¬ (64 : Int) ≤ (d : Int) := by omega
      have e0 : (0 : Int) < (d : Int) := by omega
      by_cases hn0 : st.nds.length = 0
      · have HN0 := hn0
        rw [hn0] at c1 e4
        clear hno h hok hm h4 hdl hc1 hc2 hd1 hd2 h64 hlt hn0 hln
        unfold ndBox
        go_enter Tryz.func55, Tryz.ntmps55
        go_wp2_with fail
        go_ret
        exact HEND.out
      · obtain ⟨x, hx⟩ : ∃ x, st.deep[st.nds.length - 1]? = some x := ⟨_, List.getElem?_eq_getElem (by omega)⟩
        have hxl : x < d := by
          have e : st.deep.getLastD 0 = x := by
            rw [List.getLastD_eq_getLast?, List.getLast?_eq_getElem?, hdl, hx]; rfl
          omega
        have ho : w.ownsRow B 3 1 (.slice Ad st.deep.length cd) st.deep.length (intCells (deepI st.deep)) := by
          have := h.np.way
          rwa [show (deepI st.deep).length = st.deep.length from List.length_map _] at this
        obtain ⟨gd, rfl, hgd⟩ := own_addrB ho (by omega)
        have c3 : ∀ o, (w.alloc o).cell? ⟨gd, st.nds.length - 1, none⟩ = some (.int .i64 x) := fun o => by
          have := World.ownsRow.cellAt (ho.alloc o) (st.nds.length - 1) (by omega)
          rw [this]
          exact deepI_get hx
        rw [hdl] at c2
        have hwn : IntKind.i64.wrap ((st.nds.length : Int) - 1) = ((st.nds.length - 1 : Nat) : Int) := by rw [IntWalk.i64_in _ (by omega)]; omega
        have e5 : ¬ ((st.nds.length - 1 : Nat) : Int) < 0 := by omega
        have e6 : (x : Int) < (d : Int) := by omega
        have hin : st.nds.length - 1 < st.nds.length := by omega
        generalize st.nds.length - 1 = m at c3 hwn e5 hin
        generalize st.nds.length = q at c1 c2 e4 hwn hin
        clear hno h hok hm h4 hdl hc1 hc2 hd1 hd2 h64 hlt hn0 hln hx hxl ho
        unfold ndBox
        go_enter Tryz.func55, Tryz.ntmps55
        go_wp2_with fail
        go_ret
        exact HEND.out
end Go.Proofs.YtjjlofaejpnnnaaGreatDoor
namespace Go.Proofs.YtjjlofaejpnnnaaGreatDoor
open Go Go.RowKit Go.Sort
set_option linter.unusedVariables false
set_option maxRecDepth 20000 in
set_option maxHeartbeats 12800000 in
theorem standsD_no0 (w : World) (B0 B gu c k : Nat) (v vd : Value) (l : List (Nd × Leaf)) (st : RS) (h : UIn B gu c k v vd l st w) (h0 : st.next ≠ 0) (hB0 : B0 ≤ gu) (n : Nd) (d : Nat) (hd : d ≤ 1048576) (hid : 1 ≤ n.id ∧ n.id < st.next)
    (hr : ¬ (4096 ≤ st.nds.length ∨ 64 ≤ d ∨ st.deep.getLastD 0 < d)) (hno : n.id ∈ idsOf st ∨ (d = 0 ∧ n.id ≤ rootV st)) (hd0 : d = 0) :
    Calls Tryz.prog 55 #[.pointer (some ⟨gu, 0, none⟩), .agg (ndBox n), .int .i64 d] w (LineU B0 B gu c (k + 1) (standsV st n d) w) := by
  have hok := h.ok h0
  have hdl := hok.dl
  have HV : Hid (standsV st n d = none) := Lib.hid (by
    rw [standsV_is hok.dl hok.dk, if_pos]
    unfold noStand
    exact .inr (.inr (.inr hno)))
  have hm := h.mid hB0 n
  have HEND : Hid (∀ Y, Below (w.alloc (.cells #[.int .i64 n.id, .string n.con, .int .i64 n.par, .string n.role, .slice none 0 0, .slice none 0 0, .slice none 0 0] 55)).heap.size (w.alloc (.cells #[.int .i64 n.id, .string n.con, .int .i64 n.par, .string n.role, .slice none 0 0, .slice none 0 0, .slice none 0 0] 55)) Y → LineU B0 B gu c (k + 1) (standsV st n d) w (.returned (.bool false)) Y) := Lib.hid fun Y hY => lineU_no HV.out (hm.after hY).bel (((hm.after hY).bx.cell 3).trans rfl)
  have hn0 : 0 < st.nds.length := by
    rcases Nat.eq_zero_or_pos st.nds.length with h1 | h1
    · exfalso
      have e : st.nds = [] := List.eq_nil_of_length_eq_zero h1
      have e2 : st.deep = [] := List.eq_nil_of_length_eq_zero (by omega)
      rcases hno with h2 | h2
      · unfold idsOf at h2; rw [e] at h2; simp at h2
      · have : rootV st = 0 := by unfold rootV rootI; rw [e2]; simp [lastIx]
        omega
    · exact h1
  have hn1 := hok.n1
  have hn2 := hok.n2
  obtain ⟨A, cp, rfl, hc1, hc2⟩ := h.v_form
  obtain ⟨Ad, cd, rfl, hd1, hd2⟩ := h.d_form
  have ho : w.ownsRow B 3 1 (.slice Ad st.deep.length cd) st.deep.length (intCells (deepI st.deep)) := by
    have := h.np.way
    rwa [show (deepI st.deep).length = st.deep.length from List.length_map _] at this
  obtain ⟨gd, rfl, hgd⟩ := own_addrB ho (by omega)
  have hov : w.ownsRow B 55 7 (.slice A st.nds.length cp) st.nds.length (allCells l) := by
    have := h.np.own
    unfold OwnN at this
    rwa [h.len] at this
  obtain ⟨g, rfl, hg⟩ := own_addrB hov (by omega)
  have HCl : Hid (∀ Y, Below (w.alloc (.cells #[.int .i64 n.id, .string n.con, .int .i64 n.par, .string n.role, .slice none 0 0, .slice none 0 0, .slice none 0 0] 55)).heap.size (w.alloc (.cells #[.int .i64 n.id, .string n.con, .int .i64 n.par, .string n.role, .slice none 0 0, .slice none 0 0, .slice none 0 0] 55)) Y → Y.cell? ⟨gu, 1, none⟩ = some (.slice (some ⟨g, 0, none⟩) st.nds.length cp) ∧ Y.cell? ⟨gu, 2, none⟩ = some (.slice (some ⟨gd, 0, none⟩) st.deep.length cd) ∧ Y.cell? ⟨w.heap.size, 0, none⟩ = some (.int .i64 n.id) ∧ ∀ (i x : Nat) (nd : Nd), st.nds[i]? = some nd → st.deep[i]? = some x → Y.cell? ⟨g, i * 7, none⟩ = some (.int .i64 nd.id) ∧ Y.cell? ⟨gd, i, none⟩ = some (.int .i64 x)) := Lib.hid fun Y hY => by
    have hm2 := hm.after hY
    refine ⟨(hm2.bx.cell 1).trans rfl, (hm2.bx.cell 2).trans rfl, (hm2.bn.cell 0).trans rfl, fun i x nd hi hx => ?_⟩
    obtain ⟨L, hL⟩ := h.at_ hi
    have hxl := (List.getElem?_eq_some_iff.1 hx).1
    refine ⟨(hm2.np.cells h.len hL).c0, ?_⟩
    have hoY : Y.ownsRow B 3 1 (.slice (some ⟨gd, 0, none⟩) st.deep.length cd) st.deep.length (intCells (deepI st.deep)) := by
      have := hm2.np.way
      rwa [show (deepI st.deep).length = st.deep.length from List.length_map _] at this
    rw [World.ownsRow.cellAt hoY i (by omega)]
    exact deepI_get hx
  have hln := hok.ln
  have e0 : ¬ (0 : Int) < (d : Int) := by omega
  have e4 : ((st.nds.length : Int) == 4096) = false := by rw [beq_eq_false_iff_ne]; omega
  have e64 : ¬ (64 : Int) ≤ (d : Int) := by omega
  obtain ⟨y, hy⟩ : ∃ y, st.deep[st.nds.length - 1]? = some y := ⟨_, List.getElem?_eq_getElem (by omega)⟩
  obtain ⟨ndl, hndl⟩ : ∃ nd, st.nds[st.nds.length - 1]? = some nd := ⟨_, List.getElem?_eq_getElem (by omega)⟩
  have e6 : ¬ (y : Int) < (d : Int) := by
    have e : st.deep.getLastD 0 = y := by rw [List.getLastD_eq_getLast?, List.getLast?_eq_getElem?, hdl, hy]; rfl
    omega
  have c3 : (w.alloc (.cells #[.int .i64 n.id, .string n.con, .int .i64 n.par, .string n.role, .slice none 0 0, .slice none 0 0, .slice none 0 0] 55)).cell? ⟨gd, st.nds.length - 1, none⟩ = some (.int .i64 y) := ((HCl.out _ (Below.refl _ _)).2.2.2 _ _ _ hndl hy).2
  have c1 : (w.alloc (.cells #[.int .i64 n.id, .string n.con, .int .i64 n.par, .string n.role, .slice none 0 0, .slice none 0 0, .slice none 0 0] 55)).cell? ⟨gu, 1, none⟩ = some (.slice (some ⟨g, 0, none⟩) st.nds.length cp) := (HCl.out _ (Below.refl _ _)).1
  have c2 : (w.alloc (.cells #[.int .i64 n.id, .string n.con, .int .i64 n.par, .string n.role, .slice none 0 0, .slice none 0 0, .slice none 0 0] 55)).cell? ⟨gu, 2, none⟩ = some (.slice (some ⟨gd, 0, none⟩) st.deep.length cd) := (HCl.out _ (Below.refl _ _)).2.1
  have hwn : IntKind.i64.wrap ((st.nds.length : Int) - 1) = ((st.nds.length - 1 : Nat) : Int) := by rw [IntWalk.i64_in _ (by omega)]; omega
  have e5 : ¬ ((st.nds.length - 1 : Nat) : Int) < 0 := by omega
  have hin : st.nds.length - 1 < st.nds.length := by omega
  have HDL := Lib.hid hdl
  have HNO := Lib.hid hno
  obtain ⟨q, hq⟩ : ∃ q, st.nds.length = q := ⟨_, rfl⟩
  have HQ := Lib.hid hq
  rw [hdl] at c2 HCl
  rw [hq] at c1 c2 c3 HCl e4 hwn e5 hin hn0
  have hq4 : q ≤ 4096 := by omega
  clear hd0 hok hm hno hr hc1 hc2 hd1 hd2 ho hov h hdl hy hndl hq hgd hg HV hln
  unfold ndBox
  go_enter Tryz.func55, Tryz.ntmps55
  go_wp2_with fail
  go_loopw [8, 9, 10] (fun a8 a9 a10 wr => ∃ (i : Nat) (up root : Int), a8 = .int .i64 up ∧ a9 = .int .i64 root ∧ a10 = .int .i64 i ∧ i ≤ q ∧ Hid (Went st n.id d i up root) ∧ Hid (Below (w.alloc (.cells #[.int .i64 n.id, .string n.con, .int .i64 n.par, .string n.role, .slice none 0 0, .slice none 0 0, .slice none 0 0] 55)).heap.size (w.alloc (.cells #[.int .i64 n.id, .string n.con, .int .i64 n.par, .string n.role, .slice none 0 0, .slice none 0 0, .slice none 0 0] 55)) wr)) (fun _ _ a10 _ => q - (intOf a10).toNat)
  case atStart => exact ⟨0, -1, 0, rfl, rfl, rfl, Nat.zero_le _, Lib.hid (Went.start st n.id d), Lib.hid (Below.refl _ _)⟩
  case round =>
    obtain ⟨i, up, root, rfl, rfl, rfl, hi, HW, HB⟩ := hrel
    clear c1 c2 c3
    by_cases hlt : i < q
    · have ei : (i : Int) ≤ ((q - 1 : Nat) : Int) := by omega
      obtain ⟨nd, hnd⟩ : ∃ nd, st.nds[i]? = some nd := ⟨_, List.getElem?_eq_getElem (by rw [HQ.out]; exact hlt)⟩
      obtain ⟨x, hx⟩ : ∃ x, st.deep[i]? = some x := ⟨_, List.getElem?_eq_getElem (by rw [HDL.out, HQ.out]; exact hlt)⟩
      obtain ⟨c1, c2, cb, hall⟩ := HCl.out _ HB.out
      obtain ⟨cn, cx⟩ := hall i x nd hnd hx
      have HND := Lib.hid hnd
      have HX := Lib.hid hx
      clear hall hnd hx
      cases hid2 : (nd.id == n.id) with
      | true =>
        have HN : Hid (∀ m, LineU B0 B gu c (k + 1) (standsV st n d) w (.returned (.bool false)) (wr.drewN m)) := Lib.hid fun m => HEND.out _ (HB.out.trans ((below_drewN (Below.refl _ _) m).mono HB.out.size))
        go_upto_region 8 with fail
        go_quiet (fail)
        go_wp2_with fail
        go_ret
        exact HN.out _
      | false =>
        have hne : nd.id ≠ n.id := by rw [beq_eq_false_iff_ne] at hid2; exact hid2
        have HS := Lib.hid (HW.out.next HDL.out HND.out HX.out hne)
        have HB2 : Hid (∀ m, Below (w.alloc (.cells #[.int .i64 n.id, .string n.con, .int .i64 n.par, .string n.role, .slice none 0 0, .slice none 0 0, .slice none 0 0] 55)).heap.size (w.alloc (.cells #[.int .i64 n.id, .string n.con, .int .i64 n.par, .string n.role, .slice none 0 0, .slice none 0 0, .slice none 0 0] 55)) (wr.drewN m)) := Lib.hid fun m => HB.out.trans ((below_drewN (Below.refl _ wr) m).mono HB.out.size)
        clear hne
        by_cases hxd : x = d
        · have e7 : ((x : Int) == (d : Int)) = true := by rw [beq_iff_eq]; omega
          rw [if_pos hxd] at HS
          by_cases hx1 : x = 1
          · have e8 : ((x : Int) == 1) = true := by rw [beq_iff_eq]; omega
            rw [if_pos hx1] at HS
            clear hxd hx1
            go_upto_region 8 with fail
            go_quiet (fail)
            go_wp2_with fail
            go_round
            case rel => exact ⟨i + 1, _, _, rfl, rfl, by go_num, by omega, HS, Lib.hid (HB2.out _)⟩
            case measure => first | (simp [intOf]; omega) | simp [intOf]
          · have e8 : ((x : Int) == 1) = false := by rw [beq_eq_false_iff_ne]; omega
            rw [if_neg hx1] at HS
            clear hxd hx1
            go_upto_region 8 with fail
            go_quiet (fail)
            go_wp2_with fail
            go_round
            case rel => exact ⟨i + 1, _, _, rfl, rfl, by go_num, by omega, HS, Lib.hid (HB2.out _)⟩
            case measure => first | (simp [intOf]; omega) | simp [intOf]
        · have e7 : ((x : Int) == (d : Int)) = false := by rw [beq_eq_false_iff_ne]; omega
          rw [if_neg hxd] at HS
          by_cases hx1 : x = 1
          · have e8 : ((x : Int) == 1) = true := by rw [beq_iff_eq]; omega
            rw [if_pos hx1] at HS
            clear hxd hx1
            go_upto_region 8 with fail
            go_quiet (fail)
            go_wp2_with fail
            go_round
            case rel => exact ⟨i + 1, _, _, rfl, rfl, by go_num, by omega, HS, Lib.hid (HB2.out _)⟩
            case measure => first | (simp [intOf]; omega) | simp [intOf]
          · have e8 : ((x : Int) == 1) = false := by rw [beq_eq_false_iff_ne]; omega
            rw [if_neg hx1] at HS
            clear hxd hx1
            go_upto_region 8 with fail
            go_quiet (fail)
            go_wp2_with fail
            go_round
            case rel => exact ⟨i + 1, _, _, rfl, rfl, by go_num, by omega, HS, Lib.hid (HB2.out _)⟩
            case measure => first | (simp [intOf]; omega) | simp [intOf]
    · have hiq : i = q := by omega
      subst hiq
      have ei : ¬ (i : Int) ≤ ((i - 1 : Nat) : Int) := by omega
      have hend := (show Went st n.id d st.nds.length up root from by rw [HQ.out]; exact HW.out).done HDL.out
      obtain ⟨hup, hroot, hnin⟩ := hend
      rcases HNO.out with h1 | h1
      · exact absurd h1 hnin
      · have ed : ((d : Int) == 0) = true := by rw [beq_iff_eq]; omega
        have er : n.id ≤ root := by rw [hroot]; exact h1.2
        obtain ⟨c1, c2, cb, _⟩ := HCl.out _ HB.out
        have HN := Lib.hid (HEND.out _ HB.out)
        clear hup hroot hnin h1
        go_wp2_with fail
        go_ret
        exact HN.out
set_option maxRecDepth 20000 in
set_option maxHeartbeats 12800000 in
theorem standsD_noP (w : World) (B0 B gu c k : Nat) (v vd : Value) (l : List (Nd × Leaf)) (st : RS) (h : UIn B gu c k v vd l st w) (h0 : st.next ≠ 0) (hB0 : B0 ≤ gu) (n : Nd) (d : Nat) (hd : d ≤ 1048576) (hid : 1 ≤ n.id ∧ n.id < st.next)
    (hr : ¬ (4096 ≤ st.nds.length ∨ 64 ≤ d ∨ st.deep.getLastD 0 < d)) (hno : n.id ∈ idsOf st ∨ (d = 0 ∧ n.id ≤ rootV st)) (hd0 : 0 < d) :
    Calls Tryz.prog 55 #[.pointer (some ⟨gu, 0, none⟩), .agg (ndBox n), .int .i64 d] w (LineU B0 B gu c (k + 1) (standsV st n d) w) := by
  have hok := h.ok h0
  have hdl := hok.dl
  have HV : Hid (standsV st n d = none) := Lib.hid (by
    rw [standsV_is hok.dl hok.dk, if_pos]
    unfold noStand
    exact .inr (.inr (.inr hno)))
  have hm := h.mid hB0 n
  have HEND : Hid (∀ Y, Below (w.alloc (.cells #[.int .i64 n.id, .string n.con, .int .i64 n.par, .string n.role, .slice none 0 0, .slice none 0 0, .slice none 0 0] 55)).heap.size (w.alloc (.cells #[.int .i64 n.id, .string n.con, .int .i64 n.par, .string n.role, .slice none 0 0, .slice none 0 0, .slice none 0 0] 55)) Y → LineU B0 B gu c (k + 1) (standsV st n d) w (.returned (.bool false)) Y) := Lib.hid fun Y hY => lineU_no HV.out (hm.after hY).bel (((hm.after hY).bx.cell 3).trans rfl)
  have hn0 : 0 < st.nds.length := by
    rcases Nat.eq_zero_or_pos st.nds.length with h1 | h1
    · exfalso
      have e : st.nds = [] := List.eq_nil_of_length_eq_zero h1
      have e2 : st.deep = [] := List.eq_nil_of_length_eq_zero (by omega)
      rcases hno with h2 | h2
      · unfold idsOf at h2; rw [e] at h2; simp at h2
      · have : rootV st = 0 := by unfold rootV rootI; rw [e2]; simp [lastIx]
        omega
    · exact h1
  have hn1 := hok.n1
  have hn2 := hok.n2
  obtain ⟨A, cp, rfl, hc1, hc2⟩ := h.v_form
  obtain ⟨Ad, cd, rfl, hd1, hd2⟩ := h.d_form
  have ho : w.ownsRow B 3 1 (.slice Ad st.deep.length cd) st.deep.length (intCells (deepI st.deep)) := by
    have := h.np.way
    rwa [show (deepI st.deep).length = st.deep.length from List.length_map _] at this
  obtain ⟨gd, rfl, hgd⟩ := own_addrB ho (by omega)
  have hov : w.ownsRow B 55 7 (.slice A st.nds.length cp) st.nds.length (allCells l) := by
    have := h.np.own
    unfold OwnN at this
    rwa [h.len] at this
  obtain ⟨g, rfl, hg⟩ := own_addrB hov (by omega)
  have HCl : Hid (∀ Y, Below (w.alloc (.cells #[.int .i64 n.id, .string n.con, .int .i64 n.par, .string n.role, .slice none 0 0, .slice none 0 0, .slice none 0 0] 55)).heap.size (w.alloc (.cells #[.int .i64 n.id, .string n.con, .int .i64 n.par, .string n.role, .slice none 0 0, .slice none 0 0, .slice none 0 0] 55)) Y → Y.cell? ⟨gu, 1, none⟩ = some (.slice (some ⟨g, 0, none⟩) st.nds.length cp) ∧ Y.cell? ⟨gu, 2, none⟩ = some (.slice (some ⟨gd, 0, none⟩) st.deep.length cd) ∧ Y.cell? ⟨w.heap.size, 0, none⟩ = some (.int .i64 n.id) ∧ ∀ (i x : Nat) (nd : Nd), st.nds[i]? = some nd → st.deep[i]? = some x → Y.cell? ⟨g, i * 7, none⟩ = some (.int .i64 nd.id) ∧ Y.cell? ⟨gd, i, none⟩ = some (.int .i64 x)) := Lib.hid fun Y hY => by
    have hm2 := hm.after hY
    refine ⟨(hm2.bx.cell 1).trans rfl, (hm2.bx.cell 2).trans rfl, (hm2.bn.cell 0).trans rfl, fun i x nd hi hx => ?_⟩
    obtain ⟨L, hL⟩ := h.at_ hi
    have hxl := (List.getElem?_eq_some_iff.1 hx).1
    refine ⟨(hm2.np.cells h.len hL).c0, ?_⟩
    have hoY : Y.ownsRow B 3 1 (.slice (some ⟨gd, 0, none⟩) st.deep.length cd) st.deep.length (intCells (deepI st.deep)) := by
      have := hm2.np.way
      rwa [show (deepI st.deep).length = st.deep.length from List.length_map _] at this
    rw [World.ownsRow.cellAt hoY i (by omega)]
    exact deepI_get hx
  have hln := hok.ln
  have e0 : (0 : Int) < (d : Int) := by omega
  have e4 : ((st.nds.length : Int) == 4096) = false := by rw [beq_eq_false_iff_ne]; omega
  have e64 : ¬ (64 : Int) ≤ (d : Int) := by omega
  obtain ⟨y, hy⟩ : ∃ y, st.deep[st.nds.length - 1]? = some y := ⟨_, List.getElem?_eq_getElem (by omega)⟩
  obtain ⟨ndl, hndl⟩ : ∃ nd, st.nds[st.nds.length - 1]? = some nd := ⟨_, List.getElem?_eq_getElem (by omega)⟩
  have e6 : ¬ (y : Int) < (d : Int) := by
    have e : st.deep.getLastD 0 = y := by rw [List.getLastD_eq_getLast?, List.getLast?_eq_getElem?, hdl, hy]; rfl
    omega
  have c3 : (w.alloc (.cells #[.int .i64 n.id, .string n.con, .int .i64 n.par, .string n.role, .slice none 0 0, .slice none 0 0, .slice none 0 0] 55)).cell? ⟨gd, st.nds.length - 1, none⟩ = some (.int .i64 y) := ((HCl.out _ (Below.refl _ _)).2.2.2 _ _ _ hndl hy).2
  have c1 : (w.alloc (.cells #[.int .i64 n.id, .string n.con, .int .i64 n.par, .string n.role, .slice none 0 0, .slice none 0 0, .slice none 0 0] 55)).cell? ⟨gu, 1, none⟩ = some (.slice (some ⟨g, 0, none⟩) st.nds.length cp) := (HCl.out _ (Below.refl _ _)).1
  have c2 : (w.alloc (.cells #[.int .i64 n.id, .string n.con, .int .i64 n.par, .string n.role, .slice none 0 0, .slice none 0 0, .slice none 0 0] 55)).cell? ⟨gu, 2, none⟩ = some (.slice (some ⟨gd, 0, none⟩) st.deep.length cd) := (HCl.out _ (Below.refl _ _)).2.1
  have hwn : IntKind.i64.wrap ((st.nds.length : Int) - 1) = ((st.nds.length - 1 : Nat) : Int) := by rw [IntWalk.i64_in _ (by omega)]; omega
  have e5 : ¬ ((st.nds.length - 1 : Nat) : Int) < 0 := by omega
  have hin : st.nds.length - 1 < st.nds.length := by omega
  have HDL := Lib.hid hdl
  have HNO := Lib.hid hno
  obtain ⟨q, hq⟩ : ∃ q, st.nds.length = q := ⟨_, rfl⟩
  have HQ := Lib.hid hq
  rw [hdl] at c2 HCl
  rw [hq] at c1 c2 c3 HCl e4 hwn e5 hin hn0
  have hq4 : q ≤ 4096 := by omega
  clear hd0 hok hm hno hr hc1 hc2 hd1 hd2 ho hov h hdl hy hndl hq hgd hg HV hln
  unfold ndBox
  go_enter Tryz.func55, Tryz.ntmps55
  go_wp2_with fail
  go_loopw [8, 9, 10] (fun a8 a9 a10 wr => ∃ (i : Nat) (up root : Int), a8 = .int .i64 up ∧ a9 = .int .i64 root ∧ a10 = .int .i64 i ∧ i ≤ q ∧ Hid (Went st n.id d i up root) ∧ Hid (Below (w.alloc (.cells #[.int .i64 n.id, .string n.con, .int .i64 n.par, .string n.role, .slice none 0 0, .slice none 0 0, .slice none 0 0] 55)).heap.size (w.alloc (.cells #[.int .i64 n.id, .string n.con, .int .i64 n.par, .string n.role, .slice none 0 0, .slice none 0 0, .slice none 0 0] 55)) wr)) (fun _ _ a10 _ => q - (intOf a10).toNat)
  case atStart => exact ⟨0, -1, 0, rfl, rfl, rfl, Nat.zero_le _, Lib.hid (Went.start st n.id d), Lib.hid (Below.refl _ _)⟩
  case round =>
    obtain ⟨i, up, root, rfl, rfl, rfl, hi, HW, HB⟩ := hrel
    clear c1 c2 c3
    by_cases hlt : i < q
    · have ei : (i : Int) ≤ ((q - 1 : Nat) : Int) := by omega
      obtain ⟨nd, hnd⟩ : ∃ nd, st.nds[i]? = some nd := ⟨_, List.getElem?_eq_getElem (by rw [HQ.out]; exact hlt)⟩
      obtain ⟨x, hx⟩ : ∃ x, st.deep[i]? = some x := ⟨_, List.getElem?_eq_getElem (by rw [HDL.out, HQ.out]; exact hlt)⟩
      obtain ⟨c1, c2, cb, hall⟩ := HCl.out _ HB.out
      obtain ⟨cn, cx⟩ := hall i x nd hnd hx
      have HND := Lib.hid hnd
      have HX := Lib.hid hx
      clear hall hnd hx
      cases hid2 : (nd.id == n.id) with
      | true =>
        have HN : Hid (∀ m, LineU B0 B gu c (k + 1) (standsV st n d) w (.returned (.bool false)) (wr.drewN m)) := Lib.hid fun m => HEND.out _ (HB.out.trans ((below_drewN (Below.refl _ _) m).mono HB.out.size))
        go_upto_region 8 with fail
        go_quiet (fail)
        go_wp2_with fail
        go_ret
        exact HN.out _
      | false =>
        have hne : nd.id ≠ n.id := by rw [beq_eq_false_iff_ne] at hid2; exact hid2
        have HS := Lib.hid (HW.out.next HDL.out HND.out HX.out hne)
        have HB2 : Hid (∀ m, Below (w.alloc (.cells #[.int .i64 n.id, .string n.con, .int .i64 n.par, .string n.role, .slice none 0 0, .slice none 0 0, .slice none 0 0] 55)).heap.size (w.alloc (.cells #[.int .i64 n.id, .string n.con, .int .i64 n.par, .string n.role, .slice none 0 0, .slice none 0 0, .slice none 0 0] 55)) (wr.drewN m)) := Lib.hid fun m => HB.out.trans ((below_drewN (Below.refl _ wr) m).mono HB.out.size)
        clear hne
        by_cases hxd : x = d
        · have e7 : ((x : Int) == (d : Int)) = true := by rw [beq_iff_eq]; omega
          rw [if_pos hxd] at HS
          by_cases hx1 : x = 1
          · have e8 : ((x : Int) == 1) = true := by rw [beq_iff_eq]; omega
            rw [if_pos hx1] at HS
            clear hxd hx1
            go_upto_region 8 with fail
            go_quiet (fail)
            go_wp2_with fail
            go_round
            case rel => exact ⟨i + 1, _, _, rfl, rfl, by go_num, by omega, HS, Lib.hid (HB2.out _)⟩
            case measure => first | (simp [intOf]; omega) | simp [intOf]
          · have e8 : ((x : Int) == 1) = false := by rw [beq_eq_false_iff_ne]; omega
            rw [if_neg hx1] at HS
            clear hxd hx1
            go_upto_region 8 with fail
            go_quiet (fail)
            go_wp2_with fail
            go_round
            case rel => exact ⟨i + 1, _, _, rfl, rfl, by go_num, by omega, HS, Lib.hid (HB2.out _)⟩
            case measure => first | (simp [intOf]; omega) | simp [intOf]
        · have e7 : ((x : Int) == (d : Int)) = false := by rw [beq_eq_false_iff_ne]; omega
          rw [if_neg hxd] at HS
          by_cases hx1 : x = 1
          · have e8 : ((x : Int) == 1) = true := by rw [beq_iff_eq]; omega
            rw [if_pos hx1] at HS
            clear hxd hx1
            go_upto_region 8 with fail
            go_quiet (fail)
            go_wp2_with fail
            go_round
            case rel => exact ⟨i + 1, _, _, rfl, rfl, by go_num, by omega, HS, Lib.hid (HB2.out _)⟩
            case measure => first | (simp [intOf]; omega) | simp [intOf]
          · have e8 : ((x : Int) == 1) = false := by rw [beq_eq_false_iff_ne]; omega
            rw [if_neg hx1] at HS
            clear hxd hx1
            go_upto_region 8 with fail
            go_quiet (fail)
            go_wp2_with fail
            go_round
            case rel => exact ⟨i + 1, _, _, rfl, rfl, by go_num, by omega, HS, Lib.hid (HB2.out _)⟩
            case measure => first | (simp [intOf]; omega) | simp [intOf]
    · have hiq : i = q := by omega
      subst hiq
      have ei : ¬ (i : Int) ≤ ((i - 1 : Nat) : Int) := by omega
      have hend := (show Went st n.id d st.nds.length up root from by rw [HQ.out]; exact HW.out).done HDL.out
      obtain ⟨hup, hroot, hnin⟩ := hend
      rcases HNO.out with h1 | h1
      · exact absurd h1 hnin
      · exact absurd h1.1 (by omega)
end Go.Proofs.YtjjlofaejpnnnaaGreatDoor

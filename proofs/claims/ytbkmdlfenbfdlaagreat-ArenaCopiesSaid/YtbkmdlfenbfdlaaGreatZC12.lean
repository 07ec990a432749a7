/-
  WALKS: what Put and Aim do to a node.
-/
import Derived.Test.YtbkmdlfenbfdlaaGreatZC11
namespace Go.Proofs.YtbkmdlfenbfdlaaGreat
open Go Go.RowKit Go.Sort
set_option linter.unusedVariables false
attribute [local go_sem ↓] Go.wp_at_zero Go.wp_at_succ
theorem flat_set {α : Type} {f : α → List Value} (hf : ∀ a, (f a).length = 2) {l : List α} {k : Nat} {a b : α} {u : Value} (h : l[k]? = some a) (hq : (f a).set 1 u = f b) : (l.flatMap f).set (k * 2 + 1) u = (l.set k b).flatMap f := by
  induction l generalizing k with
  | nil => simp at h
  | cons x l ih =>
    cases k with
    | zero =>
      obtain rfl : x = a := by simpa using h
      rw [List.flatMap_cons, List.set_cons_zero, List.flatMap_cons, List.set_append_left _ _ (by rw [hf]; omega), Nat.zero_mul, Nat.zero_add, hq]
    | succ k =>
      have := ih (k := k) (by simpa using h)
      rw [List.flatMap_cons, List.set_cons_succ, List.flatMap_cons, List.set_append_right _ _ (by rw [hf]; omega), hf, show (k + 1) * 2 + 1 - 2 = k * 2 + 1 from by omega, this]
theorem modify_set {α : Type} {l : List α} {k : Nat} {f : α → α} {a : α} (h : l[k]? = some a) : l.modify k f = l.set k (f a) := by
  apply List.ext_getElem?
  intro j
  rw [List.getElem?_set, List.getElem?_modify]
  by_cases e : k = j
  · subst e
    obtain ⟨hl, he⟩ := List.getElem?_eq_some_iff.1 h
    simp [hl, he]
  · simp [e]
theorem Beside.close {w : World} {B : Nat} {v : Value} {l : List (Nd × Leaf)} {i : Nat} {p q : Nd × Leaf} (h : Beside w B v l i) (hp : l[i]? = some p) (hq : ndCells q = ndCells p) (hl : OwnLeaf w B q.1 q.2) : OwnM w B v (l.set i q) := by
  have hac : allCells (l.set i q) = allCells l := by
    rw [← allCells_set (j := 0) (u := .int .i64 q.1.id) hp (by decide) (by rw [← hq]; rfl)]
    refine set_same ?_
    rw [allCells, flatN_get ndCells_len l i p hp 0 (by decide), ← hq]
    rfl
  refine ⟨?_, fun x hx => ?_⟩
  · unfold OwnN
    rw [List.length_set, hac]
    exact h.own
  · obtain ⟨k, hk⟩ := List.getElem?_of_mem hx
    rw [List.getElem?_set] at hk
    split at hk
    · split at hk
      · cases hk; exact hl
      · cases hk
    · exact h.leaf k x (by omega) hk
theorem step_slice {P : Program} (w : World) {ops : Array Oper} {o : Oper} {a : Act} {K : Act → World → Prop} {Q : Exit → Act → World → Prop} {E : Prop} (hgd : o.guard = none) (T : TypeId) (cs : Array Value) (m : Nat)
    (hrun : (execOp a.eval o).run P w = .ok (.value (.slice (some ⟨w.heap.size, 0, none⟩) m m)) (w.alloc (.cells cs T)))
    (hK : ∀ g w', Blk w' g T cs → Below w.heap.size w w' → w.heap.size ≤ g → K (a.put o.dst (.slice (some ⟨g, 0, none⟩) m m)) w') : if Region.wanted o (yielded ops a.tmps) = true then Oper.wp P o a w K Q else E := by
  have hw : Region.wanted o (yielded ops a.tmps) = true := by simp [Region.wanted, hgd]
  rw [if_pos hw]
  unfold Oper.wp
  rw [hrun]
  exact hK _ _ (Blk.new w T cs) (below_more (Below.refl _ _) _) (Nat.le_refl _)
/-- the node with that name laid on -/
def putN (nd : Nd) (name : ByteArray) (val : ByteArray) : Nd := { nd with props := if foundS (nd.props.map (·.1)) name = true then nd.props.modify (rankS (nd.props.map (·.1)) name) (fun x => (x.1, val)) else insL nd.props (rankS (nd.props.map (·.1)) name) (name, val) }
theorem put_last {W : World} {B g n i gp m c k : Nat} {l : List (Nd × Leaf)} {nd : Nd} {K R : Sl} {kv : ByteArray × ByteArray} {val : ByteArray} (hO : OwnM W B (.slice (some ⟨g, 0, none⟩) n n) l) (hp : l[i]? = some (nd, ⟨⟨some ⟨gp, 0, none⟩, m, c⟩, K, R⟩))
    (hap : ∀ (j : Nat) q, j ≠ i → l[j]? = some q → NoClash ⟨some ⟨gp, 0, none⟩, m, c⟩ q.2.p) (hk : nd.props[k]? = some kv) (hv : val.size ≤ maxLen) :
    OwnM (W.drew.setCell ⟨gp, k * 2 + 1, none⟩ (.string val)) B (.slice (some ⟨g, 0, none⟩) n n) (l.set i ({ nd with props := nd.props.set k (kv.1, val) }, ⟨⟨some ⟨gp, 0, none⟩, m, c⟩, K, R⟩)) ∧ W.grownBy (W.drew.setCell ⟨gp, k * 2 + 1, none⟩ (.string val)) (some gp) := by
  have hlp := hO.leaf _ (List.mem_of_getElem? hp)
  have hlr : W.ownsRow B 94 2 (.slice (some ⟨gp, 0, none⟩) m c) m (propCells nd.props) := hlp.p
  have hdr : Below W.heap.size W W.drew := below_drew1 W
  obtain ⟨hnr, hgr⟩ := World.ownsRow.stored (own_after hlr hdr) (k * 2 + 1) (.string val)
  have hgr2 : W.grownBy (W.drew.setCell ⟨gp, k * 2 + 1, none⟩ (.string val)) (some gp) := ⟨hgr.os, hgr.tape, hgr.output, hgr.size, fun j hj hne => (hgr.block j hj hne)⟩
  have hcs : (propCells nd.props).set (k * 2 + 1) (.string val) = propCells (nd.props.set k (kv.1, val)) := flat_set (fun _ => rfl) hk rfl
  rw [hcs] at hnr
  obtain ⟨hbes, hk1, hk2⟩ := hO.touchP hp (gp := gp) rfl hap hgr2
  have hsz : SzN { nd with props := nd.props.set k (kv.1, val) } := ⟨hlp.sz.con, hlp.sz.role, fun x hx => by
    rcases List.mem_or_eq_of_mem_set hx with hx | rfl
    · exact hlp.sz.props x hx
    · exact ⟨(hlp.sz.props kv (List.mem_of_getElem? hk)).1, hv⟩, hlp.sz.refs⟩
  exact ⟨hbes.close hp rfl ⟨by rw [List.length_set]; exact hlp.pn, hlp.kn, hlp.rn, hnr, hk1, hk2, hsz⟩, hgr2⟩
set_option maxRecDepth 20000 in
set_option maxHeartbeats 3200000 in
theorem put_found (w : World) (n : Nat) (nd : Nd) (bn bv : Nat) (name : ByteArray) (val : ByteArray) (hv : val.size ≤ maxLen) (hb : Blk w bn 9 #[.string name]) (hbv : Blk w bv 9 #[.string val]) (hs : SortS (nd.props.map (·.1))) (hfit : Fits 1 nd)
    (hfd : foundS (nd.props.map (·.1)) name = true) : Change w n 63 #[.pointer (some ⟨bn, 0, none⟩), .pointer (some ⟨bv, 0, none⟩)] nd (putN nd name val) := by
  intro X g i l p hO hD hln hp hp1 hX
  show Calls _ _ #[.pointer (some ⟨g, i * 7, none⟩), .pointer (some ⟨bn, 0, none⟩), .pointer (some ⟨bv, 0, none⟩)] X _
  obtain ⟨nd0, ⟨⟨A, m, cm⟩, K, R⟩⟩ := p
  obtain rfl : nd0 = nd := hp1
  have hmem := List.mem_of_getElem? hp
  have hbn := hb.after hX
  have hbw := hbv.after hX
  have hleaf := hO.leaf _ hmem
  have htg := hD.tight _ hmem
  obtain rfl : cm = m := htg.pc
  obtain ⟨c4, f4⟩ := hO.cellOf hln hp (j := 4) (by decide) rfl
  have hrow := (own_row hleaf.p).mono (Nat.zero_le _) (Nat.le_refl X.heap.size)
  dsimp only at hleaf htg c4 hrow
  have hnl : cm = nd0.props.length := hleaf.pn
  have hpf := hfit.p
  have HP := Lib.hid (pAt_any X X.heap.size g (i * 7) A cm cm nd0.props name c4 hrow (Nat.le_refl _) hs (by omega))
  have c0 := (hbn.cell 0).trans (show _ = some (.string name) from rfl)
  have v0 := (hbw.cell 0).trans (show _ = some (.string val) from rfl)
  have hgX : g < X.heap.size := by
    have h1 := hO.own
    unfold OwnN at h1
    rw [hln] at h1
    obtain ⟨cs, hg, _, _⟩ := own_blk h1
    exact hg.lt
  rw [hfd] at HP
  obtain ⟨kx, hkx, _⟩ := rank_found hs hfd
  have hkl : rankS (nd0.props.map (·.1)) name < nd0.props.length := by
    have := (List.getElem?_eq_some_iff.1 hkx).1
    rwa [List.length_map] at this
  have hN : (putN nd0 name val) = { nd0 with props := nd0.props.modify (rankS (nd0.props.map (·.1)) name) (fun x => (x.1, val)) } := by unfold putN; rw [if_pos hfd]
  rw [hN]
  clear hN hkx
  generalize rankS (nd0.props.map (·.1)) name = k at HP hkl ⊢
  obtain ⟨kv, hkv⟩ : ∃ kv, nd0.props[k]? = some kv := ⟨_, List.getElem?_eq_getElem hkl⟩
  have hmf : nd0.props.modify k (fun x => (x.1, val)) = nd0.props.set k (kv.1, val) := modify_set hkv
  have hlp : X.ownsRow w.heap.size 94 2 (.slice A cm cm) cm (propCells nd0.props) := hleaf.p
  obtain ⟨gp, hA, hgp, hgB, hcm⟩ := own_tight hlp (by omega)
  subst hA
  have p1 : X.cell? ⟨gp, k * 2 + 1, none⟩ = some (.string kv.2) := by
    rw [hgp.cell, List.getElem?_toArray, propCells, flatN_get (s := 2) (fun _ => rfl) nd0.props k kv hkv 1 (by decide)]
    rfl
  have p2 : X.frozen? ⟨gp, k * 2 + 1, none⟩ = false := hgp.frozen _
  have hSS := Lib.hid fun (Y : World) (hY : Below X.heap.size X Y) => show Y.cell? ⟨g, i * 7 + 4, none⟩ = some (.slice (some ⟨gp, 0, none⟩) cm cm) ∧ Y.cell? ⟨bv, 0, none⟩ = some (.string val) ∧ Y.cell? ⟨gp, k * 2 + 1, none⟩ = some (.string kv.2) ∧ Y.frozen? ⟨gp, k * 2 + 1, none⟩ = false from
    ⟨(hY.cell (p := ⟨g, i * 7 + 4, none⟩) hgX).trans c4, (hY.cell (p := ⟨bv, 0, none⟩) hbw.lt).trans v0, (hY.cell (p := ⟨gp, k * 2 + 1, none⟩) hgp.lt).trans p1, (hY.frozen (p := ⟨gp, k * 2 + 1, none⟩) hgp.lt).trans p2⟩
  have HO := Lib.hid hO
  have HX := Lib.hid hX
  have HPP := Lib.hid hp
  have HDD := Lib.hid hD
  have HGP := Lib.hid hgp
  have HKV := Lib.hid hkv
  have HMF := Lib.hid hmf
  have hk63 : cm ≤ 9223372036854775807 := hcm
  have hkm : k < cm := by omega
  clear hO hX hp hD hleaf hs hfd htg hrow hmem hb hbv hbn hbw hlp hgp hfit hpf hkl hkv hmf hnl p1 p2 v0
  go_enter Tryz.func63, Tryz.ntmps63
  go_upto_region 3 with (go_at_call 64; go_must (refine HP.out.mono ?_; rintro e w2 ⟨rfl, hb2⟩; have HB2 := Lib.hid hb2; clear hb2))
  refine wp_region_held_tail 8 (fun Y => Y.cell? ⟨g, i * 7 + 4, none⟩ = some (.slice (some ⟨gp, 0, none⟩) cm cm) ∧ Y.cell? ⟨bv, 0, none⟩ = some (.string val) ∧ Y.cell? ⟨gp, k * 2 + 1, none⟩ = some (.string kv.2) ∧ Y.frozen? ⟨gp, k * 2 + 1, none⟩ = false) (by kernel_rfl) (by kernel_rfl) (hSS.out _ (HB2.out.trans ((below_drew1 w2).mono HB2.out.size))) (fun hHeld => ?qr0)
  case qr0 =>
    simp only [List.take_succ_cons, List.take_zero, List.drop_succ_cons, List.drop_zero]
    refine wpAnyH_take (i := 0) (v := (.pointer (some ⟨g, i * 7, none⟩))) rfl (by kernel_rfl) (by kernel_rfl) (by kernel_rfl) (fun _ _ _ h => h) (Or.inl ⟨by rfl, ?yr_1⟩) (by assumption) ?qr_1
    case yr_1 => (intro w hSw; (try dsimp only at hSw); go_simp)
    case qr_1 =>
      (try simp only [Act.put]); (try simp only [List.setIfInBounds_toArray])
      refine wpAnyH_take (i := 1) (v := (.pointer (some ⟨g, i * 7, none⟩))) rfl (by kernel_rfl) (by kernel_rfl) (by kernel_rfl) (fun _ _ _ h => h) (Or.inl ⟨by rfl, ?yr_2⟩) (by assumption) ?qr_2
      case yr_2 => (intro w hSw; (try dsimp only at hSw); go_simp)
      case qr_2 =>
        (try simp only [Act.put]); (try simp only [List.setIfInBounds_toArray])
        refine wpAnyH_take (i := 2) (v := (.pointer (some ⟨g, i * 7 + 4, none⟩))) rfl (by kernel_rfl) (by kernel_rfl) (by kernel_rfl) (fun _ _ _ h => h) (Or.inl ⟨by rfl, ?yr_3⟩) (by assumption) ?qr_3
        case yr_3 => (intro w hSw; (try dsimp only at hSw); go_simp)
        case qr_3 =>
          (try simp only [Act.put]); (try simp only [List.setIfInBounds_toArray])
          refine wpAnyH_take (i := 3) (v := (.slice (some ⟨gp, 0, none⟩) cm cm)) rfl (by kernel_rfl) (by kernel_rfl) (by kernel_rfl) (fun _ _ _ h => h) (Or.inl ⟨by rfl, ?yr_4⟩) (by assumption) ?qr_4
          case yr_4 => (intro w hSw; (try dsimp only at hSw); go_simp)
          case qr_4 =>
            (try simp only [Act.put]); (try simp only [List.setIfInBounds_toArray])
            refine wpAnyH_take (i := 4) (v := (.int .i64 k)) rfl (by kernel_rfl) (by kernel_rfl) (by kernel_rfl) (fun _ _ _ h => h) (Or.inl ⟨by rfl, ?yr_5⟩) (by assumption) ?qr_5
            case yr_5 => (intro w hSw; (try dsimp only at hSw); go_simp)
            case qr_5 =>
              (try simp only [Act.put]); (try simp only [List.setIfInBounds_toArray])
              refine wpAnyH_take (i := 5) (v := (.string val)) rfl (by kernel_rfl) (by kernel_rfl) (by kernel_rfl) (fun _ _ _ h => h) (Or.inl ⟨by rfl, ?yr_6⟩) (by assumption) ?qr_6
              case yr_6 => (intro w hSw; (try dsimp only at hSw); go_simp)
              case qr_6 =>
                (try simp only [Act.put]); (try simp only [List.setIfInBounds_toArray])
                refine wpAnyH_take (i := 6) (v := (.pointer (some ⟨gp, k * 2, none⟩))) rfl (by kernel_rfl) (by kernel_rfl) (by kernel_rfl) (fun _ _ _ h => h) (Or.inl ⟨by rfl, ?yr_7⟩) (by assumption) ?qr_7
                case yr_7 => (intro w hSw; (try dsimp only at hSw); go_simp)
                case qr_7 =>
                  (try simp only [Act.put]); (try simp only [List.setIfInBounds_toArray])
                  refine wpAnyH_take (i := 7) (v := (.pointer (some ⟨gp, k * 2 + 1, none⟩))) rfl (by kernel_rfl) (by kernel_rfl) (by kernel_rfl) (fun _ _ _ h => h) (Or.inl ⟨by rfl, ?yr_8⟩) (by assumption) ?qr_8
                  case yr_8 => (intro w hSw; (try dsimp only at hSw); go_simp)
                  case qr_8 =>
                    (try simp only [Act.put]); (try simp only [List.setIfInBounds_toArray])
                    refine wpAnyH_done (by kernel_rfl) ?_ _
                    obtain ⟨q1, q2, q3, q4⟩ := hHeld
                    show wpList _ _ _ _ _ _
                    go_wp2_with fail
                    refine bodyPost_end (results_none (by kernel_rfl) _ _ _) rfl ?_
                    have hO2 := HO.out.after HB2.out
                    obtain ⟨hoL, hgr⟩ := put_last (val := val) (k := k) hO2 HPP.out (fun j q hj hq => (HDD.out.apart i j _ q (fun e => hj e.symm) HPP.out hq).1) HKV.out hv
                    refine ⟨rfl, _, hoL, by rw [List.map_set, HMF.out], ?_, fun gb cs h => ?_⟩
                    · have h2 : Below w.heap.size w w2 := HX.out.trans (HB2.out.mono HX.out.size)
                      exact (h2.trans ((below_drew1 w2).mono h2.size)).setCell (p := ⟨gp, k * 2 + 1, none⟩) hgB _
                    · have h2 := h.after HB2.out
                      have h3 : gb ≠ gp := h2.ne_ (HGP.out.after HB2.out) (by decide)
                      exact h2.grown hgr (by simpa using h3)
/-- the node with that name laid on -/
def aimN (nd : Nd) (name : ByteArray) (val : Int) : Nd := { nd with refs := if foundS (nd.refs.map (·.1)) name = true then nd.refs.modify (rankS (nd.refs.map (·.1)) name) (fun x => (x.1, val)) else insL nd.refs (rankS (nd.refs.map (·.1)) name) (name, val) }
theorem aim_last {W : World} {B g n i gp m c k : Nat} {l : List (Nd × Leaf)} {nd : Nd} {K R : Sl} {kv : ByteArray × Int} {val : Int} (hO : OwnM W B (.slice (some ⟨g, 0, none⟩) n n) l) (hp : l[i]? = some (nd, ⟨K, R, ⟨some ⟨gp, 0, none⟩, m, c⟩⟩))
    (hap : ∀ (j : Nat) q, j ≠ i → l[j]? = some q → NoClash ⟨some ⟨gp, 0, none⟩, m, c⟩ q.2.r) (hk : nd.refs[k]? = some kv)  :
    OwnM (W.drew.setCell ⟨gp, k * 2 + 1, none⟩ (.int .i64 val)) B (.slice (some ⟨g, 0, none⟩) n n) (l.set i ({ nd with refs := nd.refs.set k (kv.1, val) }, ⟨K, R, ⟨some ⟨gp, 0, none⟩, m, c⟩⟩)) ∧ W.grownBy (W.drew.setCell ⟨gp, k * 2 + 1, none⟩ (.int .i64 val)) (some gp) := by
  have hlp := hO.leaf _ (List.mem_of_getElem? hp)
  have hlr : W.ownsRow B 60 2 (.slice (some ⟨gp, 0, none⟩) m c) m (refCells nd.refs) := hlp.r
  have hdr : Below W.heap.size W W.drew := below_drew1 W
  obtain ⟨hnr, hgr⟩ := World.ownsRow.stored (own_after hlr hdr) (k * 2 + 1) (.int .i64 val)
  have hgr2 : W.grownBy (W.drew.setCell ⟨gp, k * 2 + 1, none⟩ (.int .i64 val)) (some gp) := ⟨hgr.os, hgr.tape, hgr.output, hgr.size, fun j hj hne => (hgr.block j hj hne)⟩
  have hcs : (refCells nd.refs).set (k * 2 + 1) (.int .i64 val) = refCells (nd.refs.set k (kv.1, val)) := flat_set (fun _ => rfl) hk rfl
  rw [hcs] at hnr
  obtain ⟨hbes, hk1, hk2⟩ := hO.touchR hp (gp := gp) rfl hap hgr2
  have hsz : SzN { nd with refs := nd.refs.set k (kv.1, val) } := ⟨hlp.sz.con, hlp.sz.role, hlp.sz.props, fun x hx => by
    rcases List.mem_or_eq_of_mem_set hx with hx | rfl
    · exact hlp.sz.refs x hx
    · exact hlp.sz.refs kv (List.mem_of_getElem? hk)⟩
  exact ⟨hbes.close hp rfl ⟨hlp.pn, hlp.kn, by rw [List.length_set]; exact hlp.rn, hk1, hk2, hnr, hsz⟩, hgr2⟩
set_option maxRecDepth 20000 in
set_option maxHeartbeats 3200000 in
theorem aim_found (w : World) (n : Nat) (nd : Nd) (bn bv : Nat) (name : ByteArray) (val : Int)  (hb : Blk w bn 9 #[.string name]) (hbv : Blk w bv 3 #[.int .i64 val]) (hs : SortS (nd.refs.map (·.1))) (hfit : Fits 1 nd)
    (hfd : foundS (nd.refs.map (·.1)) name = true) : Change w n 66 #[.pointer (some ⟨bn, 0, none⟩), .pointer (some ⟨bv, 0, none⟩)] nd (aimN nd name val) := by
  intro X g i l p hO hD hln hp hp1 hX
  show Calls _ _ #[.pointer (some ⟨g, i * 7, none⟩), .pointer (some ⟨bn, 0, none⟩), .pointer (some ⟨bv, 0, none⟩)] X _
  obtain ⟨nd0, ⟨K, R, ⟨A, m, cm⟩⟩⟩ := p
  obtain rfl : nd0 = nd := hp1
  have hmem := List.mem_of_getElem? hp
  have hbn := hb.after hX
  have hbw := hbv.after hX
  have hleaf := hO.leaf _ hmem
  have htg := hD.tight _ hmem
  obtain rfl : cm = m := htg.rc
  obtain ⟨c4, f4⟩ := hO.cellOf hln hp (j := 6) (by decide) rfl
  have hrow := (own_row hleaf.r).mono (Nat.zero_le _) (Nat.le_refl X.heap.size)
  dsimp only at hleaf htg c4 hrow
  have hnl : cm = nd0.refs.length := hleaf.rn
  have hpf := hfit.r
  have HP := Lib.hid (rAt_any X X.heap.size g (i * 7) A cm cm nd0.refs name c4 hrow (Nat.le_refl _) hs (by omega))
  have c0 := (hbn.cell 0).trans (show _ = some (.string name) from rfl)
  have v0 := (hbw.cell 0).trans (show _ = some (.int .i64 val) from rfl)
  have hgX : g < X.heap.size := by
    have h1 := hO.own
    unfold OwnN at h1
    rw [hln] at h1
    obtain ⟨cs, hg, _, _⟩ := own_blk h1
    exact hg.lt
  rw [hfd] at HP
  obtain ⟨kx, hkx, _⟩ := rank_found hs hfd
  have hkl : rankS (nd0.refs.map (·.1)) name < nd0.refs.length := by
    have := (List.getElem?_eq_some_iff.1 hkx).1
    rwa [List.length_map] at this
  have hN : (aimN nd0 name val) = { nd0 with refs := nd0.refs.modify (rankS (nd0.refs.map (·.1)) name) (fun x => (x.1, val)) } := by unfold aimN; rw [if_pos hfd]
  rw [hN]
  clear hN hkx
  generalize rankS (nd0.refs.map (·.1)) name = k at HP hkl ⊢
  obtain ⟨kv, hkv⟩ : ∃ kv, nd0.refs[k]? = some kv := ⟨_, List.getElem?_eq_getElem hkl⟩
  have hmf : nd0.refs.modify k (fun x => (x.1, val)) = nd0.refs.set k (kv.1, val) := modify_set hkv
  have hlp : X.ownsRow w.heap.size 60 2 (.slice A cm cm) cm (refCells nd0.refs) := hleaf.r
  obtain ⟨gp, hA, hgp, hgB, hcm⟩ := own_tight hlp (by omega)
  subst hA
  have p1 : X.cell? ⟨gp, k * 2 + 1, none⟩ = some (.int .i64 kv.2) := by
    rw [hgp.cell, List.getElem?_toArray, refCells, flatN_get (s := 2) (fun _ => rfl) nd0.refs k kv hkv 1 (by decide)]
    rfl
  have p2 : X.frozen? ⟨gp, k * 2 + 1, none⟩ = false := hgp.frozen _
  have hSS := Lib.hid fun (Y : World) (hY : Below X.heap.size X Y) => show Y.cell? ⟨g, i * 7 + 6, none⟩ = some (.slice (some ⟨gp, 0, none⟩) cm cm) ∧ Y.cell? ⟨bv, 0, none⟩ = some (.int .i64 val) ∧ Y.cell? ⟨gp, k * 2 + 1, none⟩ = some (.int .i64 kv.2) ∧ Y.frozen? ⟨gp, k * 2 + 1, none⟩ = false from
    ⟨(hY.cell (p := ⟨g, i * 7 + 6, none⟩) hgX).trans c4, (hY.cell (p := ⟨bv, 0, none⟩) hbw.lt).trans v0, (hY.cell (p := ⟨gp, k * 2 + 1, none⟩) hgp.lt).trans p1, (hY.frozen (p := ⟨gp, k * 2 + 1, none⟩) hgp.lt).trans p2⟩
  have HO := Lib.hid hO
  have HX := Lib.hid hX
  have HPP := Lib.hid hp
  have HDD := Lib.hid hD
  have HGP := Lib.hid hgp
  have HKV := Lib.hid hkv
  have HMF := Lib.hid hmf
  have hk63 : cm ≤ 9223372036854775807 := hcm
  have hkm : k < cm := by omega
  clear hO hX hp hD hleaf hs hfd htg hrow hmem hb hbv hbn hbw hlp hgp hfit hpf hkl hkv hmf hnl p1 p2 v0
  go_enter Tryz.func66, Tryz.ntmps66
  go_upto_region 3 with (go_at_call 67; go_must (refine HP.out.mono ?_; rintro e w2 ⟨rfl, hb2⟩; have HB2 := Lib.hid hb2; clear hb2))
  refine wp_region_held_tail 8 (fun Y => Y.cell? ⟨g, i * 7 + 6, none⟩ = some (.slice (some ⟨gp, 0, none⟩) cm cm) ∧ Y.cell? ⟨bv, 0, none⟩ = some (.int .i64 val) ∧ Y.cell? ⟨gp, k * 2 + 1, none⟩ = some (.int .i64 kv.2) ∧ Y.frozen? ⟨gp, k * 2 + 1, none⟩ = false) (by kernel_rfl) (by kernel_rfl) (hSS.out _ (HB2.out.trans ((below_drew1 w2).mono HB2.out.size))) (fun hHeld => ?qr0)
  case qr0 =>
    simp only [List.take_succ_cons, List.take_zero, List.drop_succ_cons, List.drop_zero]
    refine wpAnyH_take (i := 0) (v := (.pointer (some ⟨g, i * 7, none⟩))) rfl (by kernel_rfl) (by kernel_rfl) (by kernel_rfl) (fun _ _ _ h => h) (Or.inl ⟨by rfl, ?yr_1⟩) (by assumption) ?qr_1
    case yr_1 => (intro w hSw; (try dsimp only at hSw); go_simp)
    case qr_1 =>
      (try simp only [Act.put]); (try simp only [List.setIfInBounds_toArray])
      refine wpAnyH_take (i := 1) (v := (.pointer (some ⟨g, i * 7, none⟩))) rfl (by kernel_rfl) (by kernel_rfl) (by kernel_rfl) (fun _ _ _ h => h) (Or.inl ⟨by rfl, ?yr_2⟩) (by assumption) ?qr_2
      case yr_2 => (intro w hSw; (try dsimp only at hSw); go_simp)
      case qr_2 =>
        (try simp only [Act.put]); (try simp only [List.setIfInBounds_toArray])
        refine wpAnyH_take (i := 2) (v := (.pointer (some ⟨g, i * 7 + 6, none⟩))) rfl (by kernel_rfl) (by kernel_rfl) (by kernel_rfl) (fun _ _ _ h => h) (Or.inl ⟨by rfl, ?yr_3⟩) (by assumption) ?qr_3
        case yr_3 => (intro w hSw; (try dsimp only at hSw); go_simp)
        case qr_3 =>
          (try simp only [Act.put]); (try simp only [List.setIfInBounds_toArray])
          refine wpAnyH_take (i := 3) (v := (.slice (some ⟨gp, 0, none⟩) cm cm)) rfl (by kernel_rfl) (by kernel_rfl) (by kernel_rfl) (fun _ _ _ h => h) (Or.inl ⟨by rfl, ?yr_4⟩) (by assumption) ?qr_4
          case yr_4 => (intro w hSw; (try dsimp only at hSw); go_simp)
          case qr_4 =>
            (try simp only [Act.put]); (try simp only [List.setIfInBounds_toArray])
            refine wpAnyH_take (i := 4) (v := (.int .i64 k)) rfl (by kernel_rfl) (by kernel_rfl) (by kernel_rfl) (fun _ _ _ h => h) (Or.inl ⟨by rfl, ?yr_5⟩) (by assumption) ?qr_5
            case yr_5 => (intro w hSw; (try dsimp only at hSw); go_simp)
            case qr_5 =>
              (try simp only [Act.put]); (try simp only [List.setIfInBounds_toArray])
              refine wpAnyH_take (i := 5) (v := (.int .i64 val)) rfl (by kernel_rfl) (by kernel_rfl) (by kernel_rfl) (fun _ _ _ h => h) (Or.inl ⟨by rfl, ?yr_6⟩) (by assumption) ?qr_6
              case yr_6 => (intro w hSw; (try dsimp only at hSw); go_simp)
              case qr_6 =>
                (try simp only [Act.put]); (try simp only [List.setIfInBounds_toArray])
                refine wpAnyH_take (i := 6) (v := (.pointer (some ⟨gp, k * 2, none⟩))) rfl (by kernel_rfl) (by kernel_rfl) (by kernel_rfl) (fun _ _ _ h => h) (Or.inl ⟨by rfl, ?yr_7⟩) (by assumption) ?qr_7
                case yr_7 => (intro w hSw; (try dsimp only at hSw); go_simp)
                case qr_7 =>
                  (try simp only [Act.put]); (try simp only [List.setIfInBounds_toArray])
                  refine wpAnyH_take (i := 7) (v := (.pointer (some ⟨gp, k * 2 + 1, none⟩))) rfl (by kernel_rfl) (by kernel_rfl) (by kernel_rfl) (fun _ _ _ h => h) (Or.inl ⟨by rfl, ?yr_8⟩) (by assumption) ?qr_8
                  case yr_8 => (intro w hSw; (try dsimp only at hSw); go_simp)
                  case qr_8 =>
                    (try simp only [Act.put]); (try simp only [List.setIfInBounds_toArray])
                    refine wpAnyH_done (by kernel_rfl) ?_ _
                    obtain ⟨q1, q2, q3, q4⟩ := hHeld
                    show wpList _ _ _ _ _ _
                    go_wp2_with fail
                    refine bodyPost_end (results_none (by kernel_rfl) _ _ _) rfl ?_
                    have hO2 := HO.out.after HB2.out
                    obtain ⟨hoL, hgr⟩ := aim_last (val := val) (k := k) hO2 HPP.out (fun j q hj hq => (HDD.out.apart i j _ q (fun e => hj e.symm) HPP.out hq).2) HKV.out 
                    refine ⟨rfl, _, hoL, by rw [List.map_set, HMF.out], ?_, fun gb cs h => ?_⟩
                    · have h2 : Below w.heap.size w w2 := HX.out.trans (HB2.out.mono HX.out.size)
                      exact (h2.trans ((below_drew1 w2).mono h2.size)).setCell (p := ⟨gp, k * 2 + 1, none⟩) hgB _
                    · have h2 := h.after HB2.out
                      have h3 : gb ≠ gp := h2.ne_ (HGP.out.after HB2.out) (by decide)
                      exact h2.grown hgr (by simpa using h3)
end Go.Proofs.YtbkmdlfenbfdlaaGreat

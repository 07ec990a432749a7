/-
  WALKS over package sheet: a node and all below it (the closure of Print).
-/
import Derived.Test.YtdeoblhdojbbbaaDoorZ28
namespace Go.Proofs.YtdeoblhdojbbbaaDoor
open Go Go.RowKit
set_option linter.unusedVariables false
/-- where Print's closure works: the model's box, the nodes, the closure's own box -/
structure DE (X0 : World) (gp B gm gd hi : Nat) (next : Int) (b0 o0 n c : Nat) (nds : List Nd) (V : Nat → Leaf) : Prop where
  nodes : NodesIn X0 0 hi (some ⟨b0, o0, none⟩) n c nds
  at_ : ∀ i nd, nds[i]? = some nd → NodeAt X0 b0 (o0 + i * 7) nd (V i) ∧ LeafIn X0 0 hi nd (V i)
  b0h : b0 < hi
  hh : hi ≤ gp
  gpB : gp < B
  hB : B ≤ X0.heap.size
  m : Blk X0 gm 24 #[.int .i64 next, .slice (some ⟨b0, o0, none⟩) n c]
  gmne : gm ≠ gp
  d : Blk X0 gd 45 #[.func (.func 13) #[] #[.pointer (some ⟨gp, 0, none⟩), .pointer (some ⟨gd, 0, none⟩), .pointer (some ⟨gm, 0, none⟩)]]
  gdne : gd ≠ gp
  right : RightM next nds
  ok : ∀ nd ∈ nds, NdOk nd
  tab : TabEnv X0
  tgt : 0 < gp
theorem WrP.from {gp B : Nat} {X0 X Y : World} {L L' : List UInt8} (h : WrP gp B X0 L X) (h' : WrP gp B X L' Y) : WrP gp B X0 L' Y := ⟨h'.p, h.k.trans h'.k⟩
set_option maxRecDepth 20000 in
set_option maxHeartbeats 6400000 in
theorem down_node {X0 : World} {gp B gm gd hi : Nat} {next : Int} {b0 o0 n c : Nat} {nds : List Nd} {V : Nat → Leaf} (E : DE X0 gp B gm gd hi next b0 o0 n c nds V) (f d : Nat) (hd1 : 1 ≤ d) (hd : d ≤ 64) (i : Nat) (nd : Nd) (hnd : nds[i]? = some nd)
    (HREC : ∀ (k : Int) (iy : Nat) (y : Nd) (X : World) (L : List UInt8), k ∈ nd.kids → nds[iy]? = some y → y.id = k → WrP gp B X0 L X →
      Calls Tryd.prog 13 #[.pointer (some ⟨b0, o0 + iy * 7, none⟩), .int .i64 ((d : Int) + 1), .pointer (some ⟨gp, 0, none⟩), .pointer (some ⟨gd, 0, none⟩), .pointer (some ⟨gm, 0, none⟩)] X fun e Y => e = .returned (.tuple #[]) ∧ WrP gp B X0 (pageV L ((pre nds f (d + 1) [k]).flatMap (nodeT nds))) Y)
    (X : World) (L : List UInt8) (hW : WrP gp B X0 L X) :
    Calls Tryd.prog 13 #[.pointer (some ⟨b0, o0 + i * 7, none⟩), .int .i64 d, .pointer (some ⟨gp, 0, none⟩), .pointer (some ⟨gd, 0, none⟩), .pointer (some ⟨gm, 0, none⟩)] X fun e Y => e = .returned (.tuple #[]) ∧ WrP gp B X0 (pageV L (nodeL nd d ++ (pre nds f (d + 1) nd.kids).flatMap (nodeT nds))) Y := by
  have HE := Lib.hid E
  have HW := Lib.hid hW
  have HND := Lib.hid hnd
  have HR := Lib.hid HREC
  have hgB := E.gpB
  have hhi := E.hh
  have hb0 := E.b0h
  have hB0 := E.hB
  have HLOW : Hid (∀ Y, KeepP gp B X0 Y → Below gp X0 Y) := Lib.hid fun Y hY => hY.below (by omega) (by omega)
  have HAT : Hid (∀ Y, KeepP gp B X0 Y → NodeAt Y b0 (o0 + i * 7) nd (V i) ∧ LeafIn Y 0 hi nd (V i)) := Lib.hid fun Y hY => ⟨(HE.out.at_ i nd HND.out).1.below (HLOW.out Y hY) (by omega), (HE.out.at_ i nd HND.out).2.below ((HLOW.out Y hY).mono hhi)⟩
  have HPN := Lib.hid (nodeLines_any X gp B L hi b0 (o0 + i * 7) d nd (V i) hW.p (HAT.out X hW.k).1 (HAT.out X hW.k).2 hb0 hhi hd1 hd (E.ok nd (List.mem_of_getElem? hnd)) (tab_keep E.tab (HLOW.out X hW.k) E.tgt) E.tgt)
  have hnk : (V i).k.n = nd.kids.length := (E.at_ i nd hnd).2.kn
  have hmk : (V i).k.n ≤ maxLen := Nat.le_trans (E.at_ i nd hnd).2.k.2.1 (E.at_ i nd hnd).2.k.2.2.1
  unfold maxLen at hmk
  generalize V i = F at HAT HPN hnk hmk
  obtain ⟨⟨Ap, np, cp⟩, ⟨Ak, nk, ck⟩, ⟨Ar, nr, cr⟩⟩ := F
  simp only at hnk hmk
  have hwr : IntKind.i64.wrap ((d : Int) + 1) = (d : Int) + 1 := by
    have h2 : (d : Int) ≤ 64 := by omega
    unfold IntKind.wrap
    simp [IntKind.bits, IntKind.signed]
    omega
  clear E hW hnd HREC
  go_enter Tryd.func13, Tryd.ntmps13
  go_wp2_with (go_at_call 14; refine HPN.out.mono ?_; rintro e Z ⟨rfl, hwz⟩; have HWZ := Lib.hid (HW.out.from hwz); have c5 := (HAT.out Z HWZ.out.k).1.c5; clear hwz)
  go_loopw [17] (fun v wr => ∃ j : Nat, j ≤ nk ∧ v = .int .i64 j ∧ Hid (WrP gp B X0 (pageV L (nodeL nd d ++ (pre nds f (d + 1) (nd.kids.take j)).flatMap (nodeT nds))) wr)) (fun v _ => nk - (intOf v).toNat)
  case atStart => exact ⟨0, Nat.zero_le _, rfl, Lib.hid (by rw [List.take_zero, pre_nil, List.flatMap_nil, List.append_nil]; exact HWZ.out)⟩
  case round =>
    clear c5
    rename World => wr
    obtain ⟨j, hj, rfl, HWr⟩ := hrel
    by_cases hjn : j < nk
    · obtain ⟨k, hk⟩ : ∃ k, nd.kids[j]? = some k := ⟨nd.kids[j]'(by omega), List.getElem?_eq_getElem _⟩
      obtain ⟨bk, ok_, hAk, _, hbk, hck⟩ := (HAT.out wr HWr.out.k).2.k.at_ (show 0 < nk by omega)
      simp only at hAk
      subst hAk
      have q0 := hck j _ (intCells_get hk)
      have HTK : Hid ((pre nds f (d + 1) (nd.kids.take (j + 1))).flatMap (nodeT nds) = (pre nds f (d + 1) (nd.kids.take j)).flatMap (nodeT nds) ++ (pre nds f (d + 1) [k]).flatMap (nodeT nds)) := Lib.hid (by
        rw [List.take_add_one, hk, Option.toList_some, pre_append, List.flatMap_append])
      obtain ⟨y, hy, _, _⟩ := kid_depth HE.out.right (ndOf_is HE.out.right.rise HND.out) (List.mem_of_getElem? hk)
      obtain ⟨iy, _, hiy, hyk⟩ := ndOf_some hy
      have HKM := Lib.hid (List.mem_of_getElem? hk)
      have HIY := Lib.hid hiy
      have HYK := Lib.hid hyk
      have hsz : B ≤ wr.heap.size := by obtain ⟨v, hv⟩ := HWr.out.p; exact hv.sz
      have hn4 : n ≤ 4096 := by rw [← HE.out.nodes.1]; exact HE.out.right.len
      have HSN : Hid (Calls Tryd.prog 15 #[.agg #[.int .i64 next, .slice (some ⟨b0, o0, none⟩) n c], .int .i64 k] wr.drew fun e w' => e = .returned (.pointer (some ⟨b0, o0 + iy * 7, none⟩)) ∧ Below wr.heap.size wr w') := Lib.hid
        ((snode_any wr.drew hi next k (some ⟨b0, o0, none⟩) n c nds (HE.out.nodes.below (((HLOW.out wr HWr.out.k).trans ((below_drew1' wr).mono (by omega))).mono hhi)) (by have := (below_drew1' wr).size; omega) HE.out.right.rise hn4 iy y HIY.out HYK.out b0 o0 rfl).mono fun e w' he => ⟨he.1, (below_drew1' wr).trans (he.2.mono (below_drew1' wr).size)⟩)
      have HC4 : Hid (∀ Y, Below wr.heap.size wr Y → Y.cell? ⟨gd, 0, none⟩ = some (.func (.func 13) #[] #[.pointer (some ⟨gp, 0, none⟩), .pointer (some ⟨gd, 0, none⟩), .pointer (some ⟨gm, 0, none⟩)]) ∧ Y.cell? ⟨gm, 0, none⟩ = some (.int .i64 next) ∧ Y.cell? ⟨gm, 1, none⟩ = some (.slice (some ⟨b0, o0, none⟩) n c)) := Lib.hid fun Y hY =>
        ⟨((((HWr.out.k.blk HE.out.d HE.out.gdne).after hY).cell 0)).trans rfl, ((((HWr.out.k.blk HE.out.m HE.out.gmne).after hY).cell 0)).trans rfl, ((((HWr.out.k.blk HE.out.m HE.out.gmne).after hY).cell 1)).trans rfl⟩
      have HRC : Hid (∀ Y, Below wr.heap.size wr Y → Calls Tryd.prog 13 #[.pointer (some ⟨b0, o0 + iy * 7, none⟩), .int .i64 ((d : Int) + 1), .pointer (some ⟨gp, 0, none⟩), .pointer (some ⟨gd, 0, none⟩), .pointer (some ⟨gm, 0, none⟩)] Y fun e Z => e = .returned (.tuple #[]) ∧ WrP gp B X0 (pageV L (nodeL nd d ++ (pre nds f (d + 1) (nd.kids.take (j + 1))).flatMap (nodeT nds))) Z) := Lib.hid fun Y hY => by
        have := HR.out k iy y Y _ HKM.out HIY.out HYK.out (HWr.out.after hY)
        rw [HTK.out, ← List.append_assoc, pageV_append]
        exact this
      clear hck hk hy hiy hyk
      go_upto_region 4 with (fail)
      refine wp_region_held_tail 6 (fun Y => Below wr.heap.size wr Y ∧ Y.cell? ⟨gd, 0, none⟩ = some (.func (.func 13) #[] #[.pointer (some ⟨gp, 0, none⟩), .pointer (some ⟨gd, 0, none⟩), .pointer (some ⟨gm, 0, none⟩)]) ∧ Y.cell? ⟨gm, 0, none⟩ = some (.int .i64 next) ∧ Y.cell? ⟨gm, 1, none⟩ = some (.slice (some ⟨b0, o0, none⟩) n c)) (by kernel_rfl) (by kernel_rfl) ?hSd (fun hHeld => ?qd0)
      case hSd => exact ⟨below_drew1' wr, HC4.out _ (below_drew1' wr)⟩
      case qd0 =>
        simp only [List.take_succ_cons, List.take_zero, List.drop_succ_cons, List.drop_zero]
        refine wpAnyH_take (i := 0) (oi := ⟨some 21, _, _, _, _, _⟩) (v := (.func (.func 13) #[] #[.pointer (some ⟨gp, 0, none⟩), .pointer (some ⟨gd, 0, none⟩), .pointer (some ⟨gm, 0, none⟩)])) rfl (by kernel_rfl) (by kernel_rfl) (by kernel_rfl) (fun _ _ _ h => h) (Or.inl ⟨by rfl, ?yd_1⟩) (by assumption) ?qd_1
        case yd_1 => (intro w hSw; (try dsimp only at hSw); go_simp)
        case qd_1 =>
          (try simp only [Act.put]); (try simp only [List.setIfInBounds_toArray])
          refine wpAnyH_take (i := 1) (oi := ⟨some 22, _, _, _, _, _⟩) (v := (.agg #[.int .i64 next, .slice (some ⟨b0, o0, none⟩) n c])) rfl (by kernel_rfl) (by kernel_rfl) (by kernel_rfl) (fun _ _ _ h => h) (Or.inl ⟨by rfl, ?yd_2⟩) (by assumption) ?qd_2
          case yd_2 => (intro w hSw; (try dsimp only at hSw); go_simp)
          case qd_2 =>
            (try simp only [Act.put]); (try simp only [List.setIfInBounds_toArray])
            refine wpAnyH_take (i := 2) (oi := ⟨some 23, _, _, _, _, _⟩) (v := (.int .i64 k)) rfl (by kernel_rfl) (by kernel_rfl) (by kernel_rfl) (fun _ _ _ h => h) (Or.inl ⟨by rfl, ?yd_3⟩) (by assumption) ?qd_3
            case yd_3 => (intro w hSw; (try dsimp only at hSw); go_simp)
            case qd_3 =>
              (try simp only [Act.put]); (try simp only [List.setIfInBounds_toArray])
              refine wpAnyH_take (i := 4) (oi := ⟨some 25, _, _, _, _, _⟩) (v := (.int .i64 (d : Int))) rfl (by kernel_rfl) (by kernel_rfl) (by kernel_rfl) (fun _ _ _ h => h) (Or.inl ⟨by rfl, ?yd_5⟩) (by assumption) ?qd_5
              case yd_5 => (intro w hSw; (try dsimp only at hSw); go_simp)
              case qd_5 =>
                (try simp only [Act.put]); (try simp only [List.setIfInBounds_toArray])
                refine wpAnyH_take (i := 5) (oi := ⟨some 26, _, _, _, _, _⟩) (v := (.int .i64 ((d : Int) + 1))) rfl (by kernel_rfl) (by kernel_rfl) (by kernel_rfl) (fun _ _ _ h => h) (Or.inl ⟨by rfl, ?yd_6⟩) (by assumption) ?qd_6
                case yd_6 => (intro w hSw; (try dsimp only at hSw); go_simp)
                case qd_6 =>
                  (try simp only [Act.put]); (try simp only [List.setIfInBounds_toArray])
                  refine wpAnyH_make (i := 3) (o := ⟨some 24, _, _, _, _, _⟩) (by kernel_rfl) rfl (by simp [Region.wanted, yielded]) 15 #[.agg #[.int .i64 next, .slice (some ⟨b0, o0, none⟩) n c], .int .i64 k] (.pointer (some ⟨b0, o0 + iy * 7, none⟩)) (R := fun Y => Below wr.heap.size wr Y) (by go_simp) HSN.out (fun Y hY => ⟨hY, HC4.out Y hY⟩) (fun Y hY => ?qnode)
                  case qnode =>
                    (try simp only [Act.put]); (try simp only [List.setIfInBounds_toArray])
                    have hHeldY : Below wr.heap.size wr Y ∧ Y.cell? ⟨gd, 0, none⟩ = some (.func (.func 13) #[] #[.pointer (some ⟨gp, 0, none⟩), .pointer (some ⟨gd, 0, none⟩), .pointer (some ⟨gm, 0, none⟩)]) ∧ Y.cell? ⟨gm, 0, none⟩ = some (.int .i64 next) ∧ Y.cell? ⟨gm, 1, none⟩ = some (.slice (some ⟨b0, o0, none⟩) n c) := ⟨hY, HC4.out Y hY⟩
                    refine wpAnyH_done (by kernel_rfl) ?_ _
                    clear hHeld hHeldY
                    show wpList _ _ _ _ _ _
                    have HYc := Lib.hid hY
                    go_wp2_with (go_at_call 13; refine (HRC.out _ HYc.out).mono ?_; rintro e Z2 ⟨rfl, hwz⟩; have HW2 := Lib.hid hwz; clear hwz)
                    go_roundw
                    case rel => exact ⟨j + 1, by omega, by go_num, HW2⟩
                    case measure => simp [intOf]; omega
    · have HFI : Hid (WrP gp B X0 (pageV L (nodeL nd d ++ (pre nds f (d + 1) nd.kids).flatMap (nodeT nds))) wr) := Lib.hid (by have := HWr.out; rw [List.take_of_length_le (by omega)] at this; exact this)
      have hjn2 : ¬ (j : Int) < (nk : Int) := by omega
      go_wp2_with fail
      go_end0
      exact ⟨rfl, HFI.out⟩
/-- a node and all below it -/
theorem down_any {X0 : World} {gp B gm gd hi : Nat} {next : Int} {b0 o0 n c : Nat} {nds : List Nd} {V : Nat → Leaf} (E : DE X0 gp B gm gd hi next b0 o0 n c nds V) : ∀ (f d : Nat), f + 1 + d = 65 → 1 ≤ d → ∀ (i : Nat) (nd : Nd), nds[i]? = some nd → depthV nds nd.id = d →
    ∀ (X : World) (L : List UInt8), WrP gp B X0 L X →
    Calls Tryd.prog 13 #[.pointer (some ⟨b0, o0 + i * 7, none⟩), .int .i64 d, .pointer (some ⟨gp, 0, none⟩), .pointer (some ⟨gd, 0, none⟩), .pointer (some ⟨gm, 0, none⟩)] X fun e Y => e = .returned (.tuple #[]) ∧ WrP gp B X0 (pageV L ((pre nds (f + 1) d [nd.id]).flatMap (nodeT nds))) Y := by
  intro f
  induction f with
  | zero =>
    intro d hfd hd1 i nd hnd hdep X L hW
    have hx := ndOf_is E.right.rise hnd
    have e1 : (pre nds (0 + 1) d [nd.id]).flatMap (nodeT nds) = nodeL nd d ++ (pre nds 0 (d + 1) nd.kids).flatMap (nodeT nds) := by
      rw [pre_cons, pre_nil, List.append_nil, List.flatMap_cons, kidsV_of hx]
      congr 1
      unfold nodeT
      simp only [hx]
    rw [e1]
    refine down_node E 0 d hd1 (by omega) i nd hnd ?_ X L hW
    intro k iy y X' L' hk hy hyk hW'
    obtain ⟨y', hy', _, hdk⟩ := kid_depth E.right hx hk
    have := (E.right.depth hy').2.2
    omega
  | succ f ih =>
    intro d hfd hd1 i nd hnd hdep X L hW
    have hx := ndOf_is E.right.rise hnd
    have e1 : (pre nds (f + 1 + 1) d [nd.id]).flatMap (nodeT nds) = nodeL nd d ++ (pre nds (f + 1) (d + 1) nd.kids).flatMap (nodeT nds) := by
      rw [pre_cons, pre_nil, List.append_nil, List.flatMap_cons, kidsV_of hx]
      congr 1
      unfold nodeT
      simp only [hx]
    rw [e1]
    refine down_node E (f + 1) d hd1 (by omega) i nd hnd ?_ X L hW
    intro k iy y X' L' hk hy hyk hW'
    obtain ⟨y', hy', _, hdk⟩ := kid_depth E.right hx hk
    have := ih (d + 1) (by omega) (by omega) iy y hy (by rw [hyk, hdk, hdep]) X' L' hW'
    rw [hyk, show ((d + 1 : Nat) : Int) = (d : Int) + 1 from by omega] at this
    exact this
end Go.Proofs.YtdeoblhdojbbbaaDoor

/-
  WALKS: the document's: a node that stands nowhere is put there.
-/
import Derived.Test.YtnhkghmgkfmiaaaW32
namespace Go.Proofs.Ytnhkghmgkfmiaaa
open Go Go.RowKit Go.Sort
set_option linter.unusedVariables false
attribute [local go_sem ↓] Go.wp_at_zero Go.wp_at_succ

/-- what a put keeps: its box, its own nodes, all but one row of what was there -/
structure RB (w : World) (B : Nat) (next : Int) (g n c : Nat) (l : List (Nd × Leaf)) (X : World) : Prop where
  m : Blk X w.heap.size 24 #[.int .i64 next, .slice (some ⟨g, 0, none⟩) n c]
  gr : w.grownBy X (some g)
  own : OwnM X B (.slice (some ⟨g, 0, none⟩) n c) l
section
variable {w X X' : World} {B : Nat} {next : Int} {g n c : Nat} {l : List (Nd × Leaf)}
theorem RB.start (h : OwnM w B (.slice (some ⟨g, 0, none⟩) n c) l) : RB w B next g n c l (w.alloc (.cells #[.int .i64 next, .slice (some ⟨g, 0, none⟩) n c] 24)) :=
  ⟨Blk.new _ _ _, grown_below (World.grownBy.refl _ _) (below_more (Below.refl _ _) _), h.after (below_more (Below.refl _ _) _)⟩
theorem RB.after (h : RB w B next g n c l X) (hb : Below X.heap.size X X') : RB w B next g n c l X' := ⟨h.m.after hb, grown_below h.gr hb, h.own.after hb⟩
theorem RB.store {i j : Nat} {p q : Nd × Leaf} {u : Value} (h : RB w B next g n c l X) (hn : l.length = n) (hp : l[i]? = some p) (hj : j < 7) (hq : (ndCells p).set j u = ndCells q) (hl : OwnLeaf X B q.1 q.2) : RB w B next g n c (l.set i q) (X.setCell ⟨g, i * 7 + j, none⟩ u) := by
  subst hn
  obtain ⟨cs, hg, _, _⟩ := own_blk (n := l.length) (xs := allCells l) h.own.own
  exact ⟨h.m.far (p := ⟨g, _, none⟩) (h.m.ne_ hg (by decide)) u, grown_set h.gr _ u, h.own.store rfl hp hj hq hl⟩
theorem RB.cellAt {i j : Nat} {p : Nd × Leaf} {u : Value} (h : RB w B next g n c l X) (hn : l.length = n) (hp : l[i]? = some p) (hj : j < 7) (hu : (ndCells p)[j]? = some u) : X.cell? ⟨g, i * 7 + j, none⟩ = some u := by
  subst hn
  have hi := (List.getElem?_eq_some_iff.1 hp).1
  have h1 := World.ownsRow.cellAt (n := l.length) (xs := allCells l) h.own.own (i * 7 + j) (by omega)
  rw [h1]
  unfold allCells
  rw [flatN_get ndCells_len l i p hp j hj]
  exact hu
theorem RB.frozenAt {j : Nat} (h : RB w B next g n c l X) (hn : l.length = n) : X.frozen? ⟨g, j, none⟩ = false := by
  subst hn
  exact World.ownsRow.frozenAt (n := l.length) (xs := allCells l) h.own.own j
theorem RB.nodes (h : RB w B next g n c l X) (hn : l.length = n) : NodesIn X 0 X.heap.size (some ⟨g, 0, none⟩) n c (l.map (·.1)) := (h.own.nodesIn hn).mono (Nat.zero_le _) (Nat.le_refl _)
theorem RB.at_ (h : RB w B next g n c l X) (hn : l.length = n) (hn4 : n ≤ 4096) (hr : Rise (l.map (·.1))) {i : Nat} {p : Nd × Leaf} {id : Int} (hp : l[i]? = some p) (hid : p.1.id = id) :
    Calls Try.prog 62 #[.agg #[.int .i64 next, .slice (some ⟨g, 0, none⟩) n c], .int .i64 id] X (Ret X (.int .i64 i)) := by
  have h1 := refAt_any X X.heap.size next id _ n c _ (h.nodes hn) (Nat.le_refl _) hr hn4
  rw [show atV (l.map (·.1)) id = i from by unfold atV; rw [ixOf_is hr (by rw [List.getElem?_map, hp]; rfl) hid]] at h1
  exact h1
end

set_option maxRecDepth 100000 in
set_option maxHeartbeats 6400000 in
theorem refPutRoot_any (w : World) (B : Nat) (next id at_ : Int) (role : ByteArray) (g n c : Nat) (l : List (Nd × Leaf)) (h : OwnM w B (.slice (some ⟨g, 0, none⟩) n c) l) (hn : l.length = n) (hn4 : n ≤ 4096) (hr : Rise (l.map (·.1))) (ii : Nat) (p : Nd × Leaf) (hp : l[ii]? = some p) (hid : p.1.id = id) (hrole : role = ⟨#[]⟩)
    (nds' : List Nd) (hpost : nds' = (l.map (·.1)).set ii { p.1 with par := 0, role := role }) :
    Calls Try.prog 65 #[.agg #[.int .i64 next, .slice (some ⟨g, 0, none⟩) n c], .int .i64 id, .int .i64 0, .string role, .int .i64 at_] w (PutPost w B g n c nds') := by
  have hR := RB.start (next := next) h
  have HR0 := Lib.hid hR
  have hii : ii < n := by rw [← hn]; exact (List.getElem?_eq_some_iff.1 hp).1
  have HLNb := Lib.hid hn
  have HRI := Lib.hid hr
  have HPOST := Lib.hid hpost
  have HRole := Lib.hid hrole
  obtain ⟨nd, L⟩ := p
  have HPPb := Lib.hid hp
  have HID : Hid (nd.id = id) := Lib.hid hid
  have HAtb : Hid (∀ X, RB w B next g n c l X → Calls Try.prog 62 #[.agg #[.int .i64 next, .slice (some ⟨g, 0, none⟩) n c], .int .i64 id] X (Ret X (.int .i64 ii))) := Lib.hid fun X hX => hX.at_ HLNb.out hn4 HRI.out HPPb.out HID.out
  have HSof : Hid (∀ l' X, RB w B next g n c l' X → X.cell? ⟨w.heap.size, 0, none⟩ = some (.int .i64 next) ∧ X.cell? ⟨w.heap.size, 1, none⟩ = some (.slice (some ⟨g, 0, none⟩) n c)) := Lib.hid fun l' X hX => ⟨(hX.m.cell 0).trans rfl, (hX.m.cell 1).trans rfl⟩
  clear hR h hid hp hn hpost hr hrole
  go_enter Try.func65, Try.ntmps65
  go_upto_region 2 with (fail)
  have Hb := Lib.hid (HR0.out.after (below_drew (Below.refl _ _)))
  refine wp_region_held_tail 5 (fun X => X.cell? ⟨w.heap.size, 0, none⟩ = some (.int .i64 next) ∧ X.cell? ⟨w.heap.size, 1, none⟩ = some (.slice (some ⟨g, 0, none⟩) n c)) (by kernel_rfl) (by kernel_rfl) ?hSb (fun hHeld => ?qb0)
  case hSb => exact HSof.out _ _ Hb.out
  case qb0 =>
    simp only [List.take_succ_cons, List.take_zero, List.drop_succ_cons, List.drop_zero]
    refine wpAnyH_take (i := 0) (v := (.pointer (some ⟨w.heap.size, 1, none⟩))) rfl (by kernel_rfl) (by kernel_rfl) (by kernel_rfl) (fun _ _ _ h => h) (Or.inl ⟨by rfl, ?yb_1⟩) (by assumption) ?qb_1
    case yb_1 => (intro w hSw; (try dsimp only at hSw); go_simp)
    case qb_1 =>
      (try simp only [Act.put]); (try simp only [List.setIfInBounds_toArray])
      refine wpAnyH_take (i := 1) (v := (.slice (some ⟨g, 0, none⟩) n c)) rfl (by kernel_rfl) (by kernel_rfl) (by kernel_rfl) (fun _ _ _ h => h) (Or.inl ⟨by rfl, ?yb_2⟩) (by assumption) ?qb_2
      case yb_2 => (intro w hSw; (try dsimp only at hSw); go_simp)
      case qb_2 =>
        (try simp only [Act.put]); (try simp only [List.setIfInBounds_toArray])
        refine wpAnyH_take (i := 2) (v := (.agg #[.int .i64 next, .slice (some ⟨g, 0, none⟩) n c])) rfl (by kernel_rfl) (by kernel_rfl) (by kernel_rfl) (fun _ _ _ h => h) (Or.inl ⟨by rfl, ?yb_3⟩) (by assumption) ?qb_3
        case yb_3 => (intro w hSw; (try dsimp only at hSw); go_simp)
        case qb_3 =>
          (try simp only [Act.put]); (try simp only [List.setIfInBounds_toArray])
          refine wpAnyH_take (i := 3) (v := (.int .i64 id)) rfl (by kernel_rfl) (by kernel_rfl) (by kernel_rfl) (fun _ _ _ h => h) (Or.inl ⟨by rfl, ?yb_4⟩) (by assumption) ?qb_4
          case yb_4 => (intro w hSw; (try dsimp only at hSw); go_simp)
          case qb_4 =>
            (try simp only [Act.put]); (try simp only [List.setIfInBounds_toArray])
            refine wpAnyH_ready (rs := [4]) (by kernel_rfl) (by simp) ?_
            refine AllReadyH.cons rfl (fun K hK => ?sb_5) ?mb_5
            case sb_5 =>
              (refine step_call _ (by rfl) 62 #[.agg #[.int .i64 next, .slice (some ⟨g, 0, none⟩) n c], .int .i64 id] (by go_simp) (HAtb.out _ Hb.out) ?_; rintro e Yb ⟨rfl, hbb⟩; refine ⟨_, rfl, ?_⟩; replace Hb := Lib.hid (Hb.out.after hbb); clear hbb)
              refine hK.out _ _ ?kb_5 (fun hHeld => ?qb_5)
              case kb_5 => ((try dsimp only); exact HSof.out _ _ Hb.out)
              case qb_5 =>
                clear hK K
                (try simp only [Act.put]); (try simp only [List.setIfInBounds_toArray])
                refine wpAnyH_done (by kernel_rfl) ?_ _
                have cb := Hb.out.cellAt HLNb.out HPPb.out (j := 2) (by omega) rfl
                have fb := Hb.out.frozenAt (j := ii * 7 + 2) HLNb.out
                show wpList _ _ _ _ _ _
                have HRb := Lib.hid (Hb.out.store (q := ({ nd with par := 0 }, L)) (u := .int .i64 0) HLNb.out HPPb.out (j := 2) (by omega) rfl ((Hb.out.own.leaf _ (List.mem_of_getElem? HPPb.out)).turn (Hb.out.own.leaf _ (List.mem_of_getElem? HPPb.out)).sz.role))
                have HLNc : Hid ((l.set ii ({ nd with par := 0 }, L)).length = n) := Lib.hid (by rw [List.length_set]; exact HLNb.out)
                have HPPc : Hid ((l.set ii ({ nd with par := 0 }, L))[ii]? = some ({ nd with par := 0 }, L)) := Lib.hid (by rw [List.getElem?_set_self (by have := HLNb.out; omega)])
                have HAtc : Hid (∀ X, RB w B next g n c (l.set ii ({ nd with par := 0 }, L)) X → Calls Try.prog 62 #[.agg #[.int .i64 next, .slice (some ⟨g, 0, none⟩) n c], .int .i64 id] X (Ret X (.int .i64 ii))) := Lib.hid fun X hX => hX.at_ HLNc.out hn4 (by rw [List.map_set]; exact rise_set HRI.out (nd := nd) (by rw [List.getElem?_map, HPPb.out]; rfl) rfl) (p := ({ nd with par := 0 }, L)) HPPc.out HID.out
                go_upto_region 3 with (fail)
                have Hc := Lib.hid (HRb.out.after (below_drew (Below.refl _ _)))
                refine wp_region_held_tail 5 (fun X => X.cell? ⟨w.heap.size, 0, none⟩ = some (.int .i64 next) ∧ X.cell? ⟨w.heap.size, 1, none⟩ = some (.slice (some ⟨g, 0, none⟩) n c)) (by kernel_rfl) (by kernel_rfl) ?hSc (fun hHeld => ?qc0)
                case hSc => exact HSof.out _ _ Hc.out
                case qc0 =>
                  simp only [List.take_succ_cons, List.take_zero, List.drop_succ_cons, List.drop_zero]
                  refine wpAnyH_take (i := 0) (v := (.pointer (some ⟨w.heap.size, 1, none⟩))) rfl (by kernel_rfl) (by kernel_rfl) (by kernel_rfl) (fun _ _ _ h => h) (Or.inl ⟨by rfl, ?yc_1⟩) (by assumption) ?qc_1
                  case yc_1 => (intro w hSw; (try dsimp only at hSw); go_simp)
                  case qc_1 =>
                    (try simp only [Act.put]); (try simp only [List.setIfInBounds_toArray])
                    refine wpAnyH_take (i := 1) (v := (.slice (some ⟨g, 0, none⟩) n c)) rfl (by kernel_rfl) (by kernel_rfl) (by kernel_rfl) (fun _ _ _ h => h) (Or.inl ⟨by rfl, ?yc_2⟩) (by assumption) ?qc_2
                    case yc_2 => (intro w hSw; (try dsimp only at hSw); go_simp)
                    case qc_2 =>
                      (try simp only [Act.put]); (try simp only [List.setIfInBounds_toArray])
                      refine wpAnyH_take (i := 2) (v := (.agg #[.int .i64 next, .slice (some ⟨g, 0, none⟩) n c])) rfl (by kernel_rfl) (by kernel_rfl) (by kernel_rfl) (fun _ _ _ h => h) (Or.inl ⟨by rfl, ?yc_3⟩) (by assumption) ?qc_3
                      case yc_3 => (intro w hSw; (try dsimp only at hSw); go_simp)
                      case qc_3 =>
                        (try simp only [Act.put]); (try simp only [List.setIfInBounds_toArray])
                        refine wpAnyH_take (i := 3) (v := (.int .i64 id)) rfl (by kernel_rfl) (by kernel_rfl) (by kernel_rfl) (fun _ _ _ h => h) (Or.inl ⟨by rfl, ?yc_4⟩) (by assumption) ?qc_4
                        case yc_4 => (intro w hSw; (try dsimp only at hSw); go_simp)
                        case qc_4 =>
                          (try simp only [Act.put]); (try simp only [List.setIfInBounds_toArray])
                          refine wpAnyH_ready (rs := [4]) (by kernel_rfl) (by simp) ?_
                          refine AllReadyH.cons rfl (fun K hK => ?sc_5) ?mc_5
                          case sc_5 =>
                            (refine step_call _ (by rfl) 62 #[.agg #[.int .i64 next, .slice (some ⟨g, 0, none⟩) n c], .int .i64 id] (by go_simp) (HAtc.out _ Hc.out) ?_; rintro e Yc ⟨rfl, hbc⟩; refine ⟨_, rfl, ?_⟩; replace Hc := Lib.hid (Hc.out.after hbc); clear hbc)
                            refine hK.out _ _ ?kc_5 (fun hHeld => ?qc_5)
                            case kc_5 => ((try dsimp only); exact HSof.out _ _ Hc.out)
                            case qc_5 =>
                              clear hK K
                              (try simp only [Act.put]); (try simp only [List.setIfInBounds_toArray])
                              refine wpAnyH_done (by kernel_rfl) ?_ _
                              have cc := Hc.out.cellAt HLNc.out HPPc.out (j := 3) (by omega) rfl
                              have fc := Hc.out.frozenAt (j := ii * 7 + 3) HLNc.out
                              show wpList _ _ _ _ _ _
                              have HRe := Lib.hid (Hc.out.store (q := ({ nd with par := 0, role := ⟨#[]⟩ }, L)) (u := .string ⟨#[]⟩) HLNc.out HPPc.out (j := 3) (by omega) rfl ((Hc.out.own.leaf _ (List.mem_of_getElem? HPPc.out)).turn (by simp [ByteArray.size, maxLen])))
                              go_wp2_with fail
                              (try rw [Exit.noGoto_ret])
                              (try simp only [Exit.inBlock, Exit.then])
                              first | refine bodyPost_ret (results_none (by kernel_rfl) _ _ _) rfl ?_ | refine bodyPost_end (results_none (by kernel_rfl) _ _ _) rfl ?_
                              exact ⟨rfl, _, HRe.out.own, HRe.out.gr, by rw [HPOST.out, List.set_set, List.map_set, HRole.out]⟩
                          case mc_5 =>
                            exact AllReadyH.nil
            case mb_5 =>
              exact AllReadyH.nil
end Go.Proofs.Ytnhkghmgkfmiaaa

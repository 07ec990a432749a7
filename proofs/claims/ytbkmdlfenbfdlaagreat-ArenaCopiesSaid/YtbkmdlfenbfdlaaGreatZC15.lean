/-
  WALKS: the program's: a node that stands nowhere is put at a spot.
-/
import Derived.Test.YtbkmdlfenbfdlaaGreatZC14
namespace Go.Proofs.YtbkmdlfenbfdlaaGreat
open Go Go.RowKit Go.Sort
set_option linter.unusedVariables false
attribute [local go_sem ↓] Go.wp_at_zero Go.wp_at_succ
theorem grown_below {w X X' : World} {row : Option Nat} (h : w.grownBy X row) (hb : Below X.heap.size X X') : w.grownBy X' row :=
  ⟨hb.os.trans h.os, hb.tape.trans h.tape, hb.output.trans h.output, Nat.le_trans h.size hb.size, fun k hk hne => (hb.block k (Nat.lt_of_lt_of_le hk h.size)).trans (h.block k hk hne)⟩
theorem grown_set {w X : World} {g : Nat} (h : w.grownBy X (some g)) (i : Nat) (u : Value) : w.grownBy (X.setCell ⟨g, i, none⟩ u) (some g) :=
  ⟨h.os, h.tape, h.output, by simpa [World.setCell] using h.size, fun k hk hne => (Below.heap_setCell X ⟨g, i, none⟩ u k (fun e => hne (by rw [e]))).trans (h.block k hk hne)⟩
theorem OwnLeaf.turn {w : World} {B : Nat} {nd : Nd} {L : Leaf} (h : OwnLeaf w B nd L) {par : Int} {role : ByteArray} (hs : role.size ≤ maxLen) : OwnLeaf w B { nd with par := par, role := role } L :=
  ⟨h.pn, h.kn, h.rn, h.p, h.k, h.r, ⟨h.sz.con, hs, h.sz.props, h.sz.refs⟩⟩
/-- what a put keeps: its boxes, its own nodes, all but one row of what was there -/
structure PB (w : World) (B : Nat) (parent : Int) (role : ByteArray) (at_ next : Int) (g n c : Nat) (l : List (Nd × Leaf)) (X : World) : Prop where
  m : Blk X w.heap.size 26 #[.int .i64 next, .slice (some ⟨g, 0, none⟩) n c]
  s : Blk X (w.heap.size + 1) 78 #[.int .i64 parent, .string role, .int .i64 at_]
  gr : w.grownBy X (some g)
  own : OwnM X B (.slice (some ⟨g, 0, none⟩) n c) l
section
variable {w X X' : World} {B : Nat} {parent at_ next : Int} {role : ByteArray} {g n c : Nat} {l : List (Nd × Leaf)}
theorem PB.start (h : OwnM w B (.slice (some ⟨g, 0, none⟩) n c) l) :
    PB w B parent role at_ next g n c l ((w.alloc (.cells #[.int .i64 next, .slice (some ⟨g, 0, none⟩) n c] 26)).alloc (.cells #[.int .i64 parent, .string role, .int .i64 at_] 78)) :=
  ⟨(Blk.new _ _ _).alloc _, Blk.new' (by simp), grown_below (World.grownBy.refl _ _) (below_more (below_more (Below.refl _ _) _) _), h.after (below_more (below_more (Below.refl _ _) _) _)⟩
theorem PB.after (h : PB w B parent role at_ next g n c l X) (hb : Below X.heap.size X X') : PB w B parent role at_ next g n c l X' := ⟨h.m.after hb, h.s.after hb, grown_below h.gr hb, h.own.after hb⟩
theorem PB.store {i j : Nat} {p q : Nd × Leaf} {u : Value} (h : PB w B parent role at_ next g n c l X) (hn : l.length = n) (hp : l[i]? = some p) (hj : j < 7) (hq : (ndCells p).set j u = ndCells q) (hl : OwnLeaf X B q.1 q.2) :
    PB w B parent role at_ next g n c (l.set i q) (X.setCell ⟨g, i * 7 + j, none⟩ u) := by
  subst hn
  obtain ⟨cs, hg, _, _⟩ := own_blk (n := l.length) (xs := allCells l) h.own.own
  exact ⟨h.m.far (p := ⟨g, _, none⟩) (h.m.ne_ hg (by decide)) u, h.s.far (p := ⟨g, _, none⟩) (h.s.ne_ hg (by decide)) u, grown_set h.gr _ u, h.own.store rfl hp hj hq hl⟩
theorem PB.cellAt {i j : Nat} {p : Nd × Leaf} {u : Value} (h : PB w B parent role at_ next g n c l X) (hn : l.length = n) (hp : l[i]? = some p) (hj : j < 7) (hu : (ndCells p)[j]? = some u) : X.cell? ⟨g, i * 7 + j, none⟩ = some u := by
  subst hn
  have hi := (List.getElem?_eq_some_iff.1 hp).1
  have h1 := World.ownsRow.cellAt (n := l.length) (xs := allCells l) h.own.own (i * 7 + j) (by omega)
  rw [h1]
  unfold allCells
  rw [flatN_get ndCells_len l i p hp j hj]
  exact hu
theorem PB.frozenAt {j : Nat} (h : PB w B parent role at_ next g n c l X) (hn : l.length = n) : X.frozen? ⟨g, j, none⟩ = false := by
  subst hn
  exact World.ownsRow.frozenAt (n := l.length) (xs := allCells l) h.own.own j
theorem rise_set {nds : List Nd} (h : Rise nds) {i : Nat} {nd nd' : Nd} (hi : nds[i]? = some nd) (he : nd'.id = nd.id) : Rise (nds.set i nd') := by
  have key : ∀ (j : Nat) x, (nds.set i nd')[j]? = some x → ∃ y, nds[j]? = some y ∧ y.id = x.id := by
    intro j x hx
    rw [List.getElem?_set] at hx
    split at hx
    · rename_i e
      subst e
      split at hx
      · obtain rfl : nd' = x := by simpa using hx
        exact ⟨nd, hi, he.symm⟩
      · cases hx
    · exact ⟨x, hx, rfl⟩
  refine ⟨fun j x hx => ?_, fun j k x y hjk hx hy => ?_⟩
  · obtain ⟨z, h1, h2⟩ := key j x hx
    rw [← h2]; exact h.pos j z h1
  · obtain ⟨z, h1, h2⟩ := key j x hx
    obtain ⟨z', h3, h4⟩ := key k y hy
    rw [← h2, ← h4]; exact h.lt j k z z' hjk h1 h3
/-- copy of the first ones into a new row, whatever their number -/
theorem copy_some {P : Program} (W : World) (T e : TypeId) (hu : P.underlying T = some (.slice e)) (hsz : (P.info? e).map (·.size) = some 1) (g off dLen dCap sLen sCap : Nat) (dp A : Option Addr) (cur : List Value) (hg : W.heap[g]? = some (.cells cur.toArray e (0, 0)))
    (cs : List Value) (hn : cs.length = Nat.min sLen dLen) (hpos : 0 < cs.length → dp = some ⟨g, off, none⟩ ∧ ∃ ad, A = some ad ∧ ∀ j v, cs[j]? = some v → W.cell? (ad.add j) = some v) (hfit : off + cs.length ≤ cur.length) (h1 : ∀ v ∈ cs, v.oneCell' = true)
    (B : Nat) (w0 : World) (hb : Below B w0 W) (hB : B ≤ g) :
    ∃ X, (∀ ty, (Builtin.copy_ #[T, T] ty #[.slice dp dLen dCap, .slice A sLen sCap]).run P W = .ok (goInt cs.length) X) ∧ X.heap[g]? = some (.cells (splice cur off cs).toArray e (0, 0)) ∧ Below B w0 X := by
  by_cases h0 : cs.length = 0
  · obtain rfl : cs = [] := List.eq_nil_of_length_eq_zero h0
    exact ⟨W, fun ty => run_copy_none (P := P) W T T ty e dp A dLen dCap sLen sCap hu hsz (by simpa using hn.symm), by simpa [splice] using hg, hb⟩
  · obtain ⟨rfl, ad, rfl, hsrc⟩ := hpos (by omega)
    refine ⟨_, fun ty => run_copy_row (P := P) W T T ty e g off dLen dCap ad sLen sCap cur.toArray e cs hu hsz hg hn hsrc (by simpa using hfit) h1, ?_, below_setRow hb hB _⟩
    simpa [splice] using setRow_heap W g _ _ e _ hg
theorem splice_fin {α : Type} {Z X1 X2 : List α} {v : α} {k : Nat} (hk : X1.length = k) (hZ : Z.length = k + 1 + X2.length) : splice ((splice Z 0 X1).set k v) (k + 1) X2 = X1 ++ v :: X2 := by
  subst hk
  have e1 : splice Z 0 X1 = X1 ++ Z.drop X1.length := by simp [splice]
  have e2 : Z.drop X1.length = Z[X1.length]'(by omega) :: Z.drop (X1.length + 1) := List.drop_eq_getElem_cons (by omega)
  rw [e1, e2, List.set_append_right _ _ (Nat.le_refl _), Nat.sub_self, List.set_cons_zero]
  unfold splice
  have e3 : (X1 ++ v :: Z.drop (X1.length + 1)).take (X1.length + 1) = X1 ++ [v] := by
    rw [show X1 ++ v :: Z.drop (X1.length + 1) = (X1 ++ [v]) ++ Z.drop (X1.length + 1) from by simp, List.take_append_of_le_length (by simp), List.take_of_length_le (by simp)]
  have e4 : (X1 ++ v :: Z.drop (X1.length + 1)).drop (X1.length + 1 + X2.length) = [] := List.drop_eq_nil_of_le (by simp; omega)
  rw [e3, e4]
  simp
def insAt {α : Type} (l : List α) (k : Nat) (x : α) : List α := l.take k ++ x :: l.drop k
def PutPost (w : World) (B g n c : Nat) (nds : List Nd) (e : Ending) (w' : World) : Prop := e = .returned (.tuple #[]) ∧ ∃ l', OwnM w' B (.slice (some ⟨g, 0, none⟩) n c) l' ∧ w.grownBy w' (some g) ∧ l'.map (·.1) = nds
theorem PB.nodes (h : PB w B parent role at_ next g n c l X) (hn : l.length = n) : NodesIn X 0 X.heap.size (some ⟨g, 0, none⟩) n c (l.map (·.1)) := (h.own.nodesIn hn).mono (Nat.zero_le _) (Nat.le_refl _)
end
set_option maxRecDepth 100000 in
set_option maxHeartbeats 6400000 in
theorem put_any (w : World) (B : Nat) (next id am parent at_ : Int) (role : ByteArray) (g n c : Nat) (l : List (Nd × Leaf)) (h : OwnM w B (.slice (some ⟨g, 0, none⟩) n c) l) (hn : l.length = n) (hn4 : n ≤ 4096) (hr : Rise (l.map (·.1))) (ii : Nat) (p : Nd × Leaf) (hp : l[ii]? = some p) (hid : p.1.id = id) (hrs : role.size ≤ maxLen)
    (jj a : Nat) (x : Nd) (M : Leaf) (hx : parent ≠ 0 → l[jj]? = some (x, M) ∧ x.id = parent ∧ jj ≠ ii ∧ a ≤ x.kids.length ∧ x.kids.length ≤ 4096 ∧ am = a)
    (nds' : List Nd) (hpost : nds' = (if parent = 0 then (l.map (·.1)).set ii { p.1 with par := parent, role := role } else ((l.map (·.1)).set ii { p.1 with par := parent, role := role }).set jj { x with kids := insAt x.kids a id })) :
    Calls Tryz.prog 47 #[.agg #[.int .i64 next, .slice (some ⟨g, 0, none⟩) n c], .int .i64 id, .agg #[.int .i64 parent, .string role, .int .i64 at_], .int .i64 am] w (PutPost w B g n c nds') := by
  have hBg : B ≤ w.heap.size := by
    obtain ⟨cs, hg, h1, _⟩ := own_blk (n := n) (xs := allCells l) (by have := h.own; unfold OwnN at this; rw [hn] at this; exact this)
    exact Nat.le_trans h1 (Nat.le_of_lt hg.lt)
  have hP := PB.start (parent := parent) (role := role) (at_ := at_) (next := next) h
  have HP0 := Lib.hid hP
  have hix : ixOf (l.map (·.1)) id = some ii := ixOf_is hr (by rw [List.getElem?_map, hp]; rfl) hid
  have hii : ii < n := by rw [← hn]; exact (List.getElem?_eq_some_iff.1 hp).1
  have HNo := Lib.hid (node_any _ _ next id (some ⟨g, 0, none⟩) n c (l.map (·.1)) (hP.nodes hn) (Nat.le_refl _) hr hn4 (.pointer (some ⟨g, ii * 7, none⟩)) (by rw [hix]; exact ⟨g, 0, rfl, by simp⟩))
  have HLN := Lib.hid hn
  have HPp := Lib.hid hp
  have HRS := Lib.hid hrs
  have HPOST := Lib.hid hpost
  clear hP h hix hid hp hn hrs hpost
  go_enter Tryz.func47, Tryz.ntmps47
  go_wp2_with (go_at_call 42; go_must (refine HNo.out.mono ?_; rintro e w2 ⟨rfl, hb2⟩; have HP2 := Lib.hid (HP0.out.after hb2); clear hb2))
  have HSof : Hid (∀ l' X, PB w B parent role at_ next g n c l' X → X.cell? ⟨w.heap.size + 1, 0, none⟩ = some (.int .i64 parent) ∧ X.cell? ⟨w.heap.size + 1, 1, none⟩ = some (.string role)) := Lib.hid fun l' X hX => ⟨(hX.s.cell 0).trans rfl, (hX.s.cell 1).trans rfl⟩
  obtain ⟨nd, L⟩ := p
  have HPd := Lib.hid (HP2.out.after (below_drew (Below.refl _ _)))
  have c2 := HPd.out.cellAt HLN.out HPp.out (j := 2) (by omega) rfl
  have f2 := HPd.out.frozenAt (j := ii * 7 + 2) HLN.out
  refine wp_region_held_tail 11 (fun X => X.cell? ⟨w.heap.size + 1, 0, none⟩ = some (.int .i64 parent) ∧ X.cell? ⟨w.heap.size + 1, 1, none⟩ = some (.string role)) (by kernel_rfl) (by kernel_rfl) ?hSp (fun hHeld => ?qp0)
  case hSp => exact HSof.out _ _ HPd.out
  case qp0 =>
    simp only [List.take_succ_cons, List.take_zero, List.drop_succ_cons, List.drop_zero]
    refine wpAnyH_take (i := 0) (v := (.pointer (some ⟨g, ii * 7, none⟩))) rfl (by kernel_rfl) (by kernel_rfl) (by kernel_rfl) (fun _ _ _ h => h) (Or.inl ⟨by rfl, ?yp_1⟩) (by assumption) ?qp_1
    case yp_1 => (intro w hSw; (try dsimp only at hSw); go_simp)
    case qp_1 =>
      (try simp only [Act.put]); (try simp only [List.setIfInBounds_toArray])
      refine wpAnyH_take (i := 1) (v := (.pointer (some ⟨g, ii * 7, none⟩))) rfl (by kernel_rfl) (by kernel_rfl) (by kernel_rfl) (fun _ _ _ h => h) (Or.inl ⟨by rfl, ?yp_2⟩) (by assumption) ?qp_2
      case yp_2 => (intro w hSw; (try dsimp only at hSw); go_simp)
      case qp_2 =>
        (try simp only [Act.put]); (try simp only [List.setIfInBounds_toArray])
        refine wpAnyH_take (i := 2) (v := (.pointer (some ⟨w.heap.size + 1, 0, none⟩))) rfl (by kernel_rfl) (by kernel_rfl) (by kernel_rfl) (fun _ _ _ h => h) (Or.inl ⟨by rfl, ?yp_3⟩) (by assumption) ?qp_3
        case yp_3 => (intro w hSw; (try dsimp only at hSw); go_simp)
        case qp_3 =>
          (try simp only [Act.put]); (try simp only [List.setIfInBounds_toArray])
          refine wpAnyH_take (i := 3) (v := (.int .i64 parent)) rfl (by kernel_rfl) (by kernel_rfl) (by kernel_rfl) (fun _ _ _ h => h) (Or.inl ⟨by rfl, ?yp_4⟩) (by assumption) ?qp_4
          case yp_4 => (intro w hSw; (try dsimp only at hSw); go_simp)
          case qp_4 =>
            (try simp only [Act.put]); (try simp only [List.setIfInBounds_toArray])
            refine wpAnyH_take (i := 4) (v := (.pointer (some ⟨w.heap.size + 1, 1, none⟩))) rfl (by kernel_rfl) (by kernel_rfl) (by kernel_rfl) (fun _ _ _ h => h) (Or.inl ⟨by rfl, ?yp_5⟩) (by assumption) ?qp_5
            case yp_5 => (intro w hSw; (try dsimp only at hSw); go_simp)
            case qp_5 =>
              (try simp only [Act.put]); (try simp only [List.setIfInBounds_toArray])
              refine wpAnyH_take (i := 5) (v := (.string role)) rfl (by kernel_rfl) (by kernel_rfl) (by kernel_rfl) (fun _ _ _ h => h) (Or.inl ⟨by rfl, ?yp_6⟩) (by assumption) ?qp_6
              case yp_6 => (intro w hSw; (try dsimp only at hSw); go_simp)
              case qp_6 =>
                (try simp only [Act.put]); (try simp only [List.setIfInBounds_toArray])
                refine wpAnyH_take (i := 6) (v := (.pointer (some ⟨g, ii * 7, none⟩))) rfl (by kernel_rfl) (by kernel_rfl) (by kernel_rfl) (fun _ _ _ h => h) (Or.inl ⟨by rfl, ?yp_7⟩) (by assumption) ?qp_7
                case yp_7 => (intro w hSw; (try dsimp only at hSw); go_simp)
                case qp_7 =>
                  (try simp only [Act.put]); (try simp only [List.setIfInBounds_toArray])
                  refine wpAnyH_take (i := 7) (v := (.pointer (some ⟨g, ii * 7 + 2, none⟩))) rfl (by kernel_rfl) (by kernel_rfl) (by kernel_rfl) (fun _ _ _ h => h) (Or.inl ⟨by rfl, ?yp_8⟩) (by assumption) ?qp_8
                  case yp_8 => (intro w hSw; (try dsimp only at hSw); go_simp)
                  case qp_8 =>
                    (try simp only [Act.put]); (try simp only [List.setIfInBounds_toArray])
                    refine wpAnyH_ready (rs := [8]) (by kernel_rfl) (by simp) ?_
                    refine AllReadyH.cons rfl (fun K hK => ?sp_9) ?mp_9
                    case sp_9 =>
                      (go_simp; have HP3 := Lib.hid (HPd.out.store (q := ({ nd with par := parent }, L)) (u := .int .i64 parent) HLN.out HPp.out (j := 2) (by omega) rfl ((HPd.out.own.leaf _ (List.mem_of_getElem? HPp.out)).turn (HPd.out.own.leaf _ (List.mem_of_getElem? HPp.out)).sz.role)))
                      refine hK.out _ _ ?kp_9 (fun hHeld => ?qp_9)
                      case kp_9 => ((try dsimp only); exact HSof.out _ _ HP3.out)
                      case qp_9 =>
                        clear hK K
                        (try simp only [Act.put]); (try simp only [List.setIfInBounds_toArray])
                        refine wpAnyH_take (i := 9) (v := (.pointer (some ⟨g, ii * 7, none⟩))) rfl (by kernel_rfl) (by kernel_rfl) (by kernel_rfl) (fun _ _ _ h => h) (Or.inl ⟨by rfl, ?yp_10⟩) (by assumption) ?qp_10
                        case yp_10 => (intro w hSw; (try dsimp only at hSw); go_simp)
                        case qp_10 =>
                          (try simp only [Act.put]); (try simp only [List.setIfInBounds_toArray])
                          refine wpAnyH_take (i := 10) (v := (.pointer (some ⟨g, ii * 7 + 3, none⟩))) rfl (by kernel_rfl) (by kernel_rfl) (by kernel_rfl) (fun _ _ _ h => h) (Or.inl ⟨by rfl, ?yp_11⟩) (by assumption) ?qp_11
                          case yp_11 => (intro w hSw; (try dsimp only at hSw); go_simp)
                          case qp_11 =>
                            (try simp only [Act.put]); (try simp only [List.setIfInBounds_toArray])
                            refine wpAnyH_done (by kernel_rfl) ?_ _
                            have hp3 : (l.set ii ({ nd with par := parent }, L))[ii]? = some ({ nd with par := parent }, L) := by rw [List.getElem?_set_self (by have := HLN.out; omega)]
                            have hln3 : (l.set ii ({ nd with par := parent }, L)).length = n := by rw [List.length_set]; exact HLN.out
                            have c3 := HP3.out.cellAt hln3 hp3 (j := 3) (by omega) rfl
                            have f3 := HP3.out.frozenAt (j := ii * 7 + 3) hln3
                            have HP4 := Lib.hid (HP3.out.store (q := ({ nd with par := parent, role := role }, L)) (u := .string role) hln3 hp3 (j := 3) (by omega) rfl ((HP3.out.own.leaf _ (List.mem_of_getElem? hp3)).turn HRS.out))
                            have e30 := (HP4.out.s.cell 0).trans (show _ = some (.int .i64 parent) from rfl)
                            clear hp3 hln3
                            change wpList _ _ _ _ _ (w2.drew.setCell ⟨g, ii * 7 + 2, none⟩ (.int .i64 parent))
                            generalize w2.drew.setCell ⟨g, ii * 7 + 2, none⟩ (.int .i64 parent) = X3 at HP3 c3 f3 HP4 e30 ⊢
                            rw [List.set_set] at HP4
                            by_cases hpz : parent = 0
                            · have d0 : (parent == 0) = true := by rw [beq_iff_eq]; exact hpz
                              go_wp2_with fail
                              (try rw [Exit.noGoto_ret])
                              (try simp only [Exit.inBlock, Exit.then])
                              refine bodyPost_ret (results_none (by kernel_rfl) _ _ _) rfl ?_
                              exact ⟨rfl, _, HP4.out.own, HP4.out.gr, by rw [HPOST.out, if_pos hpz, List.map_set]⟩
                            · have d0 : (parent == 0) = false := by rw [beq_eq_false_iff_ne]; exact hpz
                              obtain ⟨hx1, hx2, hx3, hx4, hx5, rfl⟩ := hx hpz
                              obtain ⟨⟨Ap, np, cp⟩, ⟨Ak, nk, ck⟩, ⟨Ar, nr, cr⟩⟩ := M
                              have hlx : (l.set ii ({ nd with par := parent, role := role }, L))[jj]? = some (x, ⟨⟨Ap, np, cp⟩, ⟨Ak, nk, ck⟩, ⟨Ar, nr, cr⟩⟩) := by rw [List.getElem?_set_ne (Ne.symm hx3)]; exact hx1
                              have hln4 : (l.set ii ({ nd with par := parent, role := role }, L)).length = n := by rw [List.length_set]; exact HLN.out
                              have hr4 : Rise ((l.set ii ({ nd with par := parent, role := role }, L)).map (·.1)) := by
                                rw [List.map_set]
                                exact rise_set hr (nd := nd) (by rw [List.getElem?_map, HPp.out]; rfl) rfl
                              have hix4 : ixOf ((l.set ii ({ nd with par := parent, role := role }, L)).map (·.1)) parent = some jj := ixOf_is hr4 (by rw [List.getElem?_map, hlx]; rfl) hx2
                              have hjn : jj < n := by rw [← hln4]; exact (List.getElem?_eq_some_iff.1 hlx).1
                              have HNo4 := Lib.hid (node_any _ _ next parent (some ⟨g, 0, none⟩) n c _ (HP4.out.nodes hln4) (Nat.le_refl _) hr4 hn4 (.pointer (some ⟨g, jj * 7, none⟩)) (by rw [hix4]; exact ⟨g, 0, rfl, by simp⟩))
                              have m40 := (HP4.out.m.cell 0).trans (show _ = some (.int .i64 next) from rfl)
                              have m41 := (HP4.out.m.cell 1).trans (show _ = some (.slice (some ⟨g, 0, none⟩) n c) from rfl)
                              have hlf := HP4.out.own.leaf _ (List.mem_of_getElem? hlx)
                              have hkn : nk = x.kids.length := hlf.kn
                              have HM4 : Hid ((l.set ii ({ nd with par := parent, role := role }, L)).map (·.1) = (l.map (·.1)).set ii { nd with par := parent, role := role }) := Lib.hid (by rw [List.map_set])
                              generalize l.set ii ({ nd with par := parent, role := role }, L) = l4 at HM4 HP4 hlx hln4 hr4 hix4 HNo4
                              have HL4 := Lib.hid hln4
                              have HX4 := Lib.hid hlx
                              have HKN := Lib.hid hkn
                              clear hx hx1 hx2 hlx hln4 hr4 hix4 hkn hlf
                              go_upto_region 5 with (go_at_call 42; go_must (refine HNo4.out.mono ?_; rintro e w5 ⟨rfl, hb5⟩; have hp5 := HP4.out.after hb5; have k5 := hp5.cellAt HL4.out HX4.out (j := 5) (by omega) rfl; have HP5 := Lib.hid hp5; clear hb5 hp5))
                              have hkb : nk + 1 ≤ 4097 := by have := HKN.out; omega
                              have hnk := (own_row (HP5.out.own.leaf _ (List.mem_of_getElem? HX4.out)).k).2.1
                              have hck := (own_row (HP5.out.own.leaf _ (List.mem_of_getElem? HX4.out)).k).2.2.1
                              simp only at hnk hck
                              unfold maxLen at hck
                              obtain ⟨i0, hi0, hz0, hz1, hz2⟩ := info_parts intInfo
                              obtain ⟨cur, hcs, hmk⟩ := make_rows 33 3 i0 _ 1 8 Tryz.underlying33 hi0 hz0 hz1 hz2 rfl (nk + 1) (by omega) (by omega)
                              rw [Int.natCast_add, Int.natCast_one] at hmk
                              have HCS := Lib.hid hcs
                              have HZ1 : Hid ((Tryz.prog.info? 3).map (·.size) = some 1) := Lib.hid (by rw [hi0]; simp [hz1])
                              clear hcs hi0 hz0 hz1 hz2 m40 m41 e30
                              have ha : a ≤ nk := by have := HKN.out; omega
                              go_upto_region 6 with (fail)
                              have hP6 := HP5.out.after (below_more (Below.refl _ _) (.cells cur 3))
                              have k6 := hP6.cellAt HL4.out HX4.out (j := 5) (by omega) rfl
                              have hrow := own_row (hP6.own.leaf _ (List.mem_of_getElem? HX4.out)).k
                              simp only at hrow k6
                              obtain ⟨X6, hcp, hX6, hbX⟩ := copy_some (P := Tryz.prog) (w5.alloc (.cells cur 3)) 33 3 Tryz.underlying33 HZ1.out w5.heap.size 0 (nk + 1) (nk + 1) a ck (some ⟨w5.heap.size, 0, none⟩) Ak cur.toList (by have := Blk.new w5 3 cur; unfold Blk at this; simpa using this)
                                (intCells (x.kids.take a)) (by rw [intCells_length, List.length_take, ← HKN.out]; show min a nk = min a (nk + 1); omega) (fun h0 => ⟨rfl, by
                                  rw [intCells_length, List.length_take] at h0
                                  obtain ⟨bk, ok, hA, _, _, hc⟩ := hrow.2.2.2 (by have := HKN.out; omega)
                                  refine ⟨_, hA, fun j u hj => ?_⟩
                                  rw [Addr.add_lit]
                                  refine hc j u ?_
                                  unfold intCells at hj ⊢
                                  rw [List.map_take, List.getElem?_take] at hj
                                  split at hj
                                  · exact hj
                                  · cases hj⟩) (by rw [intCells_length, List.length_take, Array.length_toList, HCS.out]; omega) (intCells_one _) w5.heap.size w5 (below_more (Below.refl _ _) _) (Nat.le_refl _)
                              rw [show (intCells (x.kids.take a)).length = a from by rw [intCells_length, List.length_take]; omega] at hcp
                              have HP7 := Lib.hid (HP5.out.after hbX)
                              have HX6 := Lib.hid hX6
                              have HBX := Lib.hid hbX
                              have hls : (splice cur.toList 0 (intCells (x.kids.take a))).length = nk + 1 := by
                                rw [length_splice _ _ _ (by rw [intCells_length, List.length_take, Array.length_toList, HCS.out]; omega), Array.length_toList, HCS.out]; omega
                              have hB6 : Blk X6 w5.heap.size 3 (splice cur.toList 0 (intCells (x.kids.take a))).toArray := hX6
                              obtain ⟨u6, hu6⟩ : ∃ u6, X6.cell? ⟨w5.heap.size, a, none⟩ = some u6 := ⟨_, (hB6.cell a).trans (Array.getElem?_eq_getElem (by simp only [List.size_toArray]; omega))⟩
                              have hf6 := hB6.frozen a
                              obtain ⟨L6, hL6⟩ : ∃ L6, splice cur.toList 0 (intCells (x.kids.take a)) = L6 := ⟨_, rfl⟩
                              rw [hL6] at hB6 hls
                              have HL6 := Lib.hid hL6
                              have hB7 : Blk (X6.setCell ⟨w5.heap.size, a, none⟩ (.int .i64 id)) w5.heap.size 3 (L6.set a (.int .i64 id)).toArray := by have := hB6.set_ a (.int .i64 id); simpa using this
                              have hgr7 : ∀ k, k < w5.heap.size → (X6.setCell ⟨w5.heap.size, a, none⟩ (.int .i64 id)).heap[k]? = X6.heap[k]? := fun k hk => Below.heap_setCell X6 ⟨w5.heap.size, a, none⟩ (.int .i64 id) k (by simp; omega)
                              have hb7 : Below w5.heap.size w5 (X6.setCell ⟨w5.heap.size, a, none⟩ (.int .i64 id)) := hbX.setCell (p := ⟨w5.heap.size, a, none⟩) (Nat.le_refl _) _
                              have hP8 := HP5.out.after hb7
                              have HP8 := Lib.hid hP8
                              have HB7 := Lib.hid hB7
                              have HLS := Lib.hid hls
                              have HB8 := Lib.hid hb7
                              have hrow8 := own_row (hP8.own.leaf _ (List.mem_of_getElem? HX4.out)).k
                              simp only at hrow8
                              have HRW := Lib.hid hrow8
                              clear hP6 hrow hX6 hbX k5 hls hB6 hL6 hB7 hgr7 hb7 hP8 hrow8 HP7
                              go_upto_region 8 with (fail)
                              generalize X6.setCell ⟨w5.heap.size, a, none⟩ (.int .i64 id) = X7 at HP8 HB7 HB8 HRW ⊢
                              have hS8 : X7.cell? ⟨g, jj * 7 + 5, none⟩ = some (.slice Ak nk ck) := HP8.out.cellAt HL4.out HX4.out (j := 5) (by omega) rfl
                              by_cases hlt : a < nk
                              · obtain ⟨bk, ok, rfl, _, hbk, hck8⟩ := HRW.out.2.2.2 (by omega)
                                have HCK := Lib.hid hck8
                                have n1 : ¬ (nk = a) := by omega
                                have n2 : ¬ (ck = a) := by omega
                                have n3 : IntKind.i64.wrap ((a : Int) + 1) = (a : Int) + 1 := by rw [IntKind.wrap_i64]; omega
                                have n4 : (0 : Int) ≤ (a : Int) + 1 := by omega
                                clear hck8
                                refine wp_region_held_tail 10 (fun X => X.cell? ⟨g, jj * 7 + 5, none⟩ = some (.slice (some ⟨bk, ok, none⟩) nk ck)) (by kernel_rfl) (by kernel_rfl) ?hSa (fun hHeld => ?qa0)
                                case hSa => exact hS8
                                case qa0 =>
                                  simp only [List.take_succ_cons, List.take_zero, List.drop_succ_cons, List.drop_zero]
                                  refine wpAnyH_take (i := 0) (v := (.slice (some ⟨w5.heap.size, 0, none⟩) (nk + 1) (nk + 1))) rfl (by kernel_rfl) (by kernel_rfl) (by kernel_rfl) (fun _ _ _ h => h) (Or.inl ⟨by rfl, ?ya_1⟩) (by assumption) ?qa_1
                                  case ya_1 => (intro w hSw; (try dsimp only at hSw); go_simp)
                                  case qa_1 =>
                                    (try simp only [Act.put]); (try simp only [List.setIfInBounds_toArray])
                                    refine wpAnyH_take (i := 1) (v := (.int .i64 a)) rfl (by kernel_rfl) (by kernel_rfl) (by kernel_rfl) (fun _ _ _ h => h) (Or.inl ⟨by rfl, ?ya_2⟩) (by assumption) ?qa_2
                                    case ya_2 => (intro w hSw; (try dsimp only at hSw); go_simp)
                                    case qa_2 =>
                                      (try simp only [Act.put]); (try simp only [List.setIfInBounds_toArray])
                                      refine wpAnyH_take (i := 2) (v := (.int .i64 (a + 1))) rfl (by kernel_rfl) (by kernel_rfl) (by kernel_rfl) (fun _ _ _ h => h) (Or.inl ⟨by rfl, ?ya_3⟩) (by assumption) ?qa_3
                                      case ya_3 => (intro w hSw; (try dsimp only at hSw); go_simp)
                                      case qa_3 =>
                                        (try simp only [Act.put]); (try simp only [List.setIfInBounds_toArray])
                                        refine wpAnyH_take (i := 3) (v := (.slice (some ⟨w5.heap.size, a + 1, none⟩) (nk - a) (nk - a))) rfl (by kernel_rfl) (by kernel_rfl) (by kernel_rfl) (fun _ _ _ h => h) (Or.inl ⟨by rfl, ?ya_4⟩) (by assumption) ?qa_4
                                        case ya_4 => (intro w hSw; (try dsimp only at hSw); go_simp)
                                        case qa_4 =>
                                          (try simp only [Act.put]); (try simp only [List.setIfInBounds_toArray])
                                          refine wpAnyH_take (i := 4) (v := (.pointer (some ⟨g, jj * 7, none⟩))) rfl (by kernel_rfl) (by kernel_rfl) (by kernel_rfl) (fun _ _ _ h => h) (Or.inl ⟨by rfl, ?ya_5⟩) (by assumption) ?qa_5
                                          case ya_5 => (intro w hSw; (try dsimp only at hSw); go_simp)
                                          case qa_5 =>
                                            (try simp only [Act.put]); (try simp only [List.setIfInBounds_toArray])
                                            refine wpAnyH_take (i := 5) (v := (.pointer (some ⟨g, jj * 7, none⟩))) rfl (by kernel_rfl) (by kernel_rfl) (by kernel_rfl) (fun _ _ _ h => h) (Or.inl ⟨by rfl, ?ya_6⟩) (by assumption) ?qa_6
                                            case ya_6 => (intro w hSw; (try dsimp only at hSw); go_simp)
                                            case qa_6 =>
                                              (try simp only [Act.put]); (try simp only [List.setIfInBounds_toArray])
                                              refine wpAnyH_take (i := 6) (v := (.pointer (some ⟨g, jj * 7 + 5, none⟩))) rfl (by kernel_rfl) (by kernel_rfl) (by kernel_rfl) (fun _ _ _ h => h) (Or.inl ⟨by rfl, ?ya_7⟩) (by assumption) ?qa_7
                                              case ya_7 => (intro w hSw; (try dsimp only at hSw); go_simp)
                                              case qa_7 =>
                                                (try simp only [Act.put]); (try simp only [List.setIfInBounds_toArray])
                                                refine wpAnyH_take (i := 7) (v := (.slice (some ⟨bk, ok, none⟩) nk ck)) rfl (by kernel_rfl) (by kernel_rfl) (by kernel_rfl) (fun _ _ _ h => h) (Or.inl ⟨by rfl, ?ya_8⟩) (by assumption) ?qa_8
                                                case ya_8 => (intro w hSw; (try dsimp only at hSw); go_simp)
                                                case qa_8 =>
                                                  (try simp only [Act.put]); (try simp only [List.setIfInBounds_toArray])
                                                  refine wpAnyH_take (i := 8) (v := (.int .i64 a)) rfl (by kernel_rfl) (by kernel_rfl) (by kernel_rfl) (fun _ _ _ h => h) (Or.inl ⟨by rfl, ?ya_9⟩) (by assumption) ?qa_9
                                                  case ya_9 => (intro w hSw; (try dsimp only at hSw); go_simp)
                                                  case qa_9 =>
                                                    (try simp only [Act.put]); (try simp only [List.setIfInBounds_toArray])
                                                    refine wpAnyH_take (i := 9) (v := (.slice (some ⟨bk, ok + a, none⟩) (nk - a) (ck - a))) rfl (by kernel_rfl) (by kernel_rfl) (by kernel_rfl) (fun _ _ _ h => h) (Or.inl ⟨by rfl, ?ya_10⟩) (by assumption) ?qa_10
                                                    case ya_10 => (intro w hSw; (try dsimp only at hSw); go_simp)
                                                    case qa_10 =>
                                                      (try simp only [Act.put]); (try simp only [List.setIfInBounds_toArray])
                                                      refine wpAnyH_done (by kernel_rfl) ?_ _
                                                      obtain ⟨X9, hcp9, hX9, hb9⟩ := copy_some (P := Tryz.prog) X7.drew 33 3 Tryz.underlying33 HZ1.out w5.heap.size (a + 1) (nk - a) (nk - a) (nk - a) (ck - a) (some ⟨w5.heap.size, a + 1, none⟩) (some ⟨bk, ok + a, none⟩) (L6.set a (.int .i64 id)) HB7.out
                                                        (intCells (x.kids.drop a)) (by rw [intCells_length, List.length_drop, ← HKN.out]; show nk - a = min (nk - a) (nk - a); omega) (fun h0 => ⟨rfl, _, rfl, fun j u hj => by
                                                          rw [Addr.add_lit]
                                                          have := HCK.out (a + j) u (by unfold intCells at hj ⊢; rw [List.map_drop, List.getElem?_drop] at hj; exact hj)
                                                          rw [← Nat.add_assoc] at this
                                                          exact this⟩) (by rw [intCells_length, List.length_drop, List.length_set, HLS.out, ← HKN.out]; omega) (intCells_one _) w5.heap.size w5 (below_drew HB8.out) (Nat.le_refl _)
                                                      rw [show (intCells (x.kids.drop a)).length = nk - a from by rw [intCells_length, List.length_drop, ← HKN.out]] at hcp9
                                                      change wpList _ _ _ _ _ X7.drew
                                                      have hfin : X9.heap[w5.heap.size]? = some (.cells (intCells (insAt x.kids a id)).toArray 3 (0, 0)) := by
                                                        rw [hX9, ← HL6.out, splice_fin (by rw [intCells_length, List.length_take]; omega) (by rw [Array.length_toList, HCS.out, intCells_length, List.length_drop]; have := HKN.out; omega)]
                                                        congr 3
                                                        try simp [insAt, intCells]
                                                      have hil : (insAt x.kids a id).length = nk + 1 := by have := HKN.out; simp only [insAt, List.length_append, List.length_take, List.length_cons, List.length_drop]; omega
                                                      have hP9 := HP5.out.after hb9
                                                      have hown9 : X9.ownsRow B 3 1 (.slice (some ⟨w5.heap.size, 0, none⟩) (nk + 1) (nk + 1)) (nk + 1) (intCells (insAt x.kids a id)) := ⟨by rw [intCells_length, hil, Nat.mul_one], .inr ⟨w5.heap.size, nk + 1, _, rfl, Nat.le_trans hBg HP5.out.gr.size, hfin, Nat.le_refl _, by unfold maxLen; omega, by simp only [List.size_toArray, intCells_length, hil, Nat.mul_one], by rw [List.take_of_length_le (by simp only [intCells_length, hil]; omega)]⟩⟩
                                                      have hlf9 := hP9.own.leaf _ (List.mem_of_getElem? HX4.out)
                                                      have HP10 := Lib.hid (hP9.store (q := ({ x with kids := insAt x.kids a id }, ⟨⟨Ap, np, cp⟩, ⟨some ⟨w5.heap.size, 0, none⟩, nk + 1, nk + 1⟩, ⟨Ar, nr, cr⟩⟩)) (u := .slice (some ⟨w5.heap.size, 0, none⟩) (nk + 1) (nk + 1)) HL4.out HX4.out (j := 5) (by omega) rfl ⟨hlf9.pn, hil.symm, hlf9.rn, hlf9.p, hown9, hlf9.r, ⟨hlf9.sz.con, hlf9.sz.role, hlf9.sz.props, hlf9.sz.refs⟩⟩)
                                                      have k9 := hP9.cellAt HL4.out HX4.out (j := 5) (by omega) rfl
                                                      have f9 := hP9.frozenAt (j := jj * 7 + 5) HL4.out
                                                      simp only at k9
                                                      clear hfin hil hP9 hown9 hlf9 hX9 hb9
                                                      go_wp2_with fail
                                                      (try rw [Exit.noGoto_ret])
                                                      (try simp only [Exit.inBlock, Exit.then])
                                                      first | refine bodyPost_ret (results_none (by kernel_rfl) _ _ _) rfl ?_ | refine bodyPost_end (results_none (by kernel_rfl) _ _ _) rfl ?_
                                                      exact ⟨rfl, _, HP10.out.own, HP10.out.gr, by rw [List.map_set, HM4.out, HPOST.out, if_neg hpz]⟩
                              · have hea : nk = a := by omega
                                subst hea
                                have n3 : IntKind.i64.wrap ((nk : Int) + 1) = (nk : Int) + 1 := by rw [IntKind.wrap_i64]; omega
                                have n4 : (0 : Int) ≤ (nk : Int) + 1 := by omega
                                have n6 : IntKind.i64.wrap 1 = 1 := by rw [IntKind.wrap_i64]; omega
                                have hko := (HP8.out.own.leaf _ (List.mem_of_getElem? HX4.out)).k
                                rcases hko.2 with ⟨hv, _⟩ | ⟨g', cap', cur', hv, _⟩
                                · simp only at hv
                                  injection hv with v1 v2 v3
                                  subst v1 v2 v3
                                  clear hko
                                  refine wp_region_held_tail 10 (fun X => X.cell? ⟨g, jj * 7 + 5, none⟩ = some (.slice none 0 0)) (by kernel_rfl) (by kernel_rfl) ?hSb (fun hHeld => ?qb0)
                                  case hSb => exact hS8
                                  case qb0 =>
                                    simp only [List.take_succ_cons, List.take_zero, List.drop_succ_cons, List.drop_zero]
                                    refine wpAnyH_take (i := 0) (v := (.slice (some ⟨w5.heap.size, 0, none⟩) (0 + 1) (0 + 1))) rfl (by kernel_rfl) (by kernel_rfl) (by kernel_rfl) (fun _ _ _ h => h) (Or.inl ⟨by rfl, ?yb_1⟩) (by assumption) ?qb_1
                                    case yb_1 => (intro w hSw; (try dsimp only at hSw); go_simp)
                                    case qb_1 =>
                                      (try simp only [Act.put]); (try simp only [List.setIfInBounds_toArray])
                                      refine wpAnyH_take (i := 1) (v := (.int .i64 0)) rfl (by kernel_rfl) (by kernel_rfl) (by kernel_rfl) (fun _ _ _ h => h) (Or.inl ⟨by rfl, ?yb_2⟩) (by assumption) ?qb_2
                                      case yb_2 => (intro w hSw; (try dsimp only at hSw); go_simp)
                                      case qb_2 =>
                                        (try simp only [Act.put]); (try simp only [List.setIfInBounds_toArray])
                                        refine wpAnyH_take (i := 2) (v := (.int .i64 1)) rfl (by kernel_rfl) (by kernel_rfl) (by kernel_rfl) (fun _ _ _ h => h) (Or.inl ⟨by rfl, ?yb_3⟩) (by assumption) ?qb_3
                                        case yb_3 => (intro w hSw; (try dsimp only at hSw); go_simp)
                                        case qb_3 =>
                                          (try simp only [Act.put]); (try simp only [List.setIfInBounds_toArray])
                                          refine wpAnyH_take (i := 3) (v := (.slice (some ⟨w5.heap.size, 0, none⟩) 0 0)) rfl (by kernel_rfl) (by kernel_rfl) (by kernel_rfl) (fun _ _ _ h => h) (Or.inl ⟨by rfl, ?yb_4⟩) (by assumption) ?qb_4
                                          case yb_4 => (intro w hSw; (try dsimp only at hSw); go_simp)
                                          case qb_4 =>
                                            (try simp only [Act.put]); (try simp only [List.setIfInBounds_toArray])
                                            refine wpAnyH_take (i := 4) (v := (.pointer (some ⟨g, jj * 7, none⟩))) rfl (by kernel_rfl) (by kernel_rfl) (by kernel_rfl) (fun _ _ _ h => h) (Or.inl ⟨by rfl, ?yb_5⟩) (by assumption) ?qb_5
                                            case yb_5 => (intro w hSw; (try dsimp only at hSw); go_simp)
                                            case qb_5 =>
                                              (try simp only [Act.put]); (try simp only [List.setIfInBounds_toArray])
                                              refine wpAnyH_take (i := 5) (v := (.pointer (some ⟨g, jj * 7, none⟩))) rfl (by kernel_rfl) (by kernel_rfl) (by kernel_rfl) (fun _ _ _ h => h) (Or.inl ⟨by rfl, ?yb_6⟩) (by assumption) ?qb_6
                                              case yb_6 => (intro w hSw; (try dsimp only at hSw); go_simp)
                                              case qb_6 =>
                                                (try simp only [Act.put]); (try simp only [List.setIfInBounds_toArray])
                                                refine wpAnyH_take (i := 6) (v := (.pointer (some ⟨g, jj * 7 + 5, none⟩))) rfl (by kernel_rfl) (by kernel_rfl) (by kernel_rfl) (fun _ _ _ h => h) (Or.inl ⟨by rfl, ?yb_7⟩) (by assumption) ?qb_7
                                                case yb_7 => (intro w hSw; (try dsimp only at hSw); go_simp)
                                                case qb_7 =>
                                                  (try simp only [Act.put]); (try simp only [List.setIfInBounds_toArray])
                                                  refine wpAnyH_take (i := 7) (v := (.slice none 0 0)) rfl (by kernel_rfl) (by kernel_rfl) (by kernel_rfl) (fun _ _ _ h => h) (Or.inl ⟨by rfl, ?yb_8⟩) (by assumption) ?qb_8
                                                  case yb_8 => (intro w hSw; (try dsimp only at hSw); go_simp)
                                                  case qb_8 =>
                                                    (try simp only [Act.put]); (try simp only [List.setIfInBounds_toArray])
                                                    refine wpAnyH_take (i := 8) (v := (.int .i64 0)) rfl (by kernel_rfl) (by kernel_rfl) (by kernel_rfl) (fun _ _ _ h => h) (Or.inl ⟨by rfl, ?yb_9⟩) (by assumption) ?qb_9
                                                    case yb_9 => (intro w hSw; (try dsimp only at hSw); go_simp)
                                                    case qb_9 =>
                                                      (try simp only [Act.put]); (try simp only [List.setIfInBounds_toArray])
                                                      refine wpAnyH_take (i := 9) (v := (.slice none 0 0)) rfl (by kernel_rfl) (by kernel_rfl) (by kernel_rfl) (fun _ _ _ h => h) (Or.inl ⟨by rfl, ?yb_10⟩) (by assumption) ?qb_10
                                                      case yb_10 => (intro w hSw; (try dsimp only at hSw); go_simp)
                                                      case qb_10 =>
                                                        (try simp only [Act.put]); (try simp only [List.setIfInBounds_toArray])
                                                        refine wpAnyH_done (by kernel_rfl) ?_ _
                                                        obtain ⟨X9, hcp9, hX9, hb9⟩ := copy_some (P := Tryz.prog) X7.drew 33 3 Tryz.underlying33 HZ1.out w5.heap.size (0 + 1) 0 0 0 0 (some ⟨w5.heap.size, 0, none⟩) none (L6.set 0 (.int .i64 id)) HB7.out
                                                          (intCells (x.kids.drop 0)) (by have := HKN.out; rw [intCells_length, List.length_drop]; show _ = min 0 0; omega) (fun h0 => by have := HKN.out; rw [intCells_length, List.length_drop] at h0; omega) (by have := HKN.out; rw [intCells_length, List.length_drop, List.length_set, HLS.out]; omega) (intCells_one _) w5.heap.size w5 (below_drew HB8.out) (Nat.le_refl _)
                                                        rw [show (intCells (x.kids.drop 0)).length = 0 from by have := HKN.out; rw [intCells_length, List.length_drop]; omega] at hcp9
                                                        change wpList _ _ _ _ _ X7.drew
                                                        have hfin : X9.heap[w5.heap.size]? = some (.cells (intCells (insAt x.kids 0 id)).toArray 3 (0, 0)) := by
                                                          rw [hX9, ← HL6.out, splice_fin (by rw [intCells_length, List.length_take]; omega) (by rw [Array.length_toList, HCS.out, intCells_length, List.length_drop]; have := HKN.out; omega)]
                                                          congr 3
                                                          try simp [insAt, intCells]
                                                        have hil : (insAt x.kids 0 id).length = 0 + 1 := by have := HKN.out; simp only [insAt, List.length_append, List.length_take, List.length_cons, List.length_drop]; omega
                                                        have hP9 := HP5.out.after hb9
                                                        have hown9 : X9.ownsRow B 3 1 (.slice (some ⟨w5.heap.size, 0, none⟩) (0 + 1) (0 + 1)) (0 + 1) (intCells (insAt x.kids 0 id)) := ⟨by rw [intCells_length, hil, Nat.mul_one], .inr ⟨w5.heap.size, 0 + 1, _, rfl, Nat.le_trans hBg HP5.out.gr.size, hfin, Nat.le_refl _, by unfold maxLen; omega, by simp only [List.size_toArray, intCells_length, hil, Nat.mul_one], by rw [List.take_of_length_le (by simp only [intCells_length, hil]; omega)]⟩⟩
                                                        have hlf9 := hP9.own.leaf _ (List.mem_of_getElem? HX4.out)
                                                        have HP10 := Lib.hid (hP9.store (q := ({ x with kids := insAt x.kids 0 id }, ⟨⟨Ap, np, cp⟩, ⟨some ⟨w5.heap.size, 0, none⟩, 0 + 1, 0 + 1⟩, ⟨Ar, nr, cr⟩⟩)) (u := .slice (some ⟨w5.heap.size, 0, none⟩) (0 + 1) (0 + 1)) HL4.out HX4.out (j := 5) (by omega) rfl ⟨hlf9.pn, hil.symm, hlf9.rn, hlf9.p, hown9, hlf9.r, ⟨hlf9.sz.con, hlf9.sz.role, hlf9.sz.props, hlf9.sz.refs⟩⟩)
                                                        have k9 := hP9.cellAt HL4.out HX4.out (j := 5) (by omega) rfl
                                                        have f9 := hP9.frozenAt (j := jj * 7 + 5) HL4.out
                                                        simp only at k9
                                                        clear hfin hil hP9 hown9 hlf9 hX9 hb9
                                                        go_wp2_with fail
                                                        (try rw [Exit.noGoto_ret])
                                                        (try simp only [Exit.inBlock, Exit.then])
                                                        first | refine bodyPost_ret (results_none (by kernel_rfl) _ _ _) rfl ?_ | refine bodyPost_end (results_none (by kernel_rfl) _ _ _) rfl ?_
                                                        exact ⟨rfl, _, HP10.out.own, HP10.out.gr, by rw [List.map_set, HM4.out, HPOST.out, if_neg hpz]⟩
                                · simp only at hv
                                  injection hv with v1 v2 v3
                                  subst v1
                                  clear hko v2 v3
                                  by_cases hcc : ck = nk
                                  · subst hcc
                                    refine wp_region_held_tail 10 (fun X => X.cell? ⟨g, jj * 7 + 5, none⟩ = some (.slice (some ⟨g', 0, none⟩) ck ck)) (by kernel_rfl) (by kernel_rfl) ?hSc (fun hHeld => ?qc0)
                                    case hSc => exact hS8
                                    case qc0 =>
                                      simp only [List.take_succ_cons, List.take_zero, List.drop_succ_cons, List.drop_zero]
                                      refine wpAnyH_take (i := 0) (v := (.slice (some ⟨w5.heap.size, 0, none⟩) (ck + 1) (ck + 1))) rfl (by kernel_rfl) (by kernel_rfl) (by kernel_rfl) (fun _ _ _ h => h) (Or.inl ⟨by rfl, ?yc_1⟩) (by assumption) ?qc_1
                                      case yc_1 => (intro w hSw; (try dsimp only at hSw); go_simp)
                                      case qc_1 =>
                                        (try simp only [Act.put]); (try simp only [List.setIfInBounds_toArray])
                                        refine wpAnyH_take (i := 1) (v := (.int .i64 ck)) rfl (by kernel_rfl) (by kernel_rfl) (by kernel_rfl) (fun _ _ _ h => h) (Or.inl ⟨by rfl, ?yc_2⟩) (by assumption) ?qc_2
                                        case yc_2 => (intro w hSw; (try dsimp only at hSw); go_simp)
                                        case qc_2 =>
                                          (try simp only [Act.put]); (try simp only [List.setIfInBounds_toArray])
                                          refine wpAnyH_take (i := 2) (v := (.int .i64 (ck + 1))) rfl (by kernel_rfl) (by kernel_rfl) (by kernel_rfl) (fun _ _ _ h => h) (Or.inl ⟨by rfl, ?yc_3⟩) (by assumption) ?qc_3
                                          case yc_3 => (intro w hSw; (try dsimp only at hSw); go_simp)
                                          case qc_3 =>
                                            (try simp only [Act.put]); (try simp only [List.setIfInBounds_toArray])
                                            refine wpAnyH_take (i := 3) (v := (.slice (some ⟨w5.heap.size, 0, none⟩) 0 0)) rfl (by kernel_rfl) (by kernel_rfl) (by kernel_rfl) (fun _ _ _ h => h) (Or.inl ⟨by rfl, ?yc_4⟩) (by assumption) ?qc_4
                                            case yc_4 => (intro w hSw; (try dsimp only at hSw); go_simp)
                                            case qc_4 =>
                                              (try simp only [Act.put]); (try simp only [List.setIfInBounds_toArray])
                                              refine wpAnyH_take (i := 4) (v := (.pointer (some ⟨g, jj * 7, none⟩))) rfl (by kernel_rfl) (by kernel_rfl) (by kernel_rfl) (fun _ _ _ h => h) (Or.inl ⟨by rfl, ?yc_5⟩) (by assumption) ?qc_5
                                              case yc_5 => (intro w hSw; (try dsimp only at hSw); go_simp)
                                              case qc_5 =>
                                                (try simp only [Act.put]); (try simp only [List.setIfInBounds_toArray])
                                                refine wpAnyH_take (i := 5) (v := (.pointer (some ⟨g, jj * 7, none⟩))) rfl (by kernel_rfl) (by kernel_rfl) (by kernel_rfl) (fun _ _ _ h => h) (Or.inl ⟨by rfl, ?yc_6⟩) (by assumption) ?qc_6
                                                case yc_6 => (intro w hSw; (try dsimp only at hSw); go_simp)
                                                case qc_6 =>
                                                  (try simp only [Act.put]); (try simp only [List.setIfInBounds_toArray])
                                                  refine wpAnyH_take (i := 6) (v := (.pointer (some ⟨g, jj * 7 + 5, none⟩))) rfl (by kernel_rfl) (by kernel_rfl) (by kernel_rfl) (fun _ _ _ h => h) (Or.inl ⟨by rfl, ?yc_7⟩) (by assumption) ?qc_7
                                                  case yc_7 => (intro w hSw; (try dsimp only at hSw); go_simp)
                                                  case qc_7 =>
                                                    (try simp only [Act.put]); (try simp only [List.setIfInBounds_toArray])
                                                    refine wpAnyH_take (i := 7) (v := (.slice (some ⟨g', 0, none⟩) ck ck)) rfl (by kernel_rfl) (by kernel_rfl) (by kernel_rfl) (fun _ _ _ h => h) (Or.inl ⟨by rfl, ?yc_8⟩) (by assumption) ?qc_8
                                                    case yc_8 => (intro w hSw; (try dsimp only at hSw); go_simp)
                                                    case qc_8 =>
                                                      (try simp only [Act.put]); (try simp only [List.setIfInBounds_toArray])
                                                      refine wpAnyH_take (i := 8) (v := (.int .i64 ck)) rfl (by kernel_rfl) (by kernel_rfl) (by kernel_rfl) (fun _ _ _ h => h) (Or.inl ⟨by rfl, ?yc_9⟩) (by assumption) ?qc_9
                                                      case yc_9 => (intro w hSw; (try dsimp only at hSw); go_simp)
                                                      case qc_9 =>
                                                        (try simp only [Act.put]); (try simp only [List.setIfInBounds_toArray])
                                                        refine wpAnyH_take (i := 9) (v := (.slice (some ⟨g', 0, none⟩) 0 0)) rfl (by kernel_rfl) (by kernel_rfl) (by kernel_rfl) (fun _ _ _ h => h) (Or.inl ⟨by rfl, ?yc_10⟩) (by assumption) ?qc_10
                                                        case yc_10 => (intro w hSw; (try dsimp only at hSw); go_simp)
                                                        case qc_10 =>
                                                          (try simp only [Act.put]); (try simp only [List.setIfInBounds_toArray])
                                                          refine wpAnyH_done (by kernel_rfl) ?_ _
                                                          obtain ⟨X9, hcp9, hX9, hb9⟩ := copy_some (P := Tryz.prog) X7.drew 33 3 Tryz.underlying33 HZ1.out w5.heap.size (ck + 1) 0 0 0 0 (some ⟨w5.heap.size, 0, none⟩) (some ⟨g', 0, none⟩) (L6.set ck (.int .i64 id)) HB7.out
                                                            (intCells (x.kids.drop ck)) (by have := HKN.out; rw [intCells_length, List.length_drop]; show _ = min 0 0; omega) (fun h0 => by have := HKN.out; rw [intCells_length, List.length_drop] at h0; omega) (by have := HKN.out; rw [intCells_length, List.length_drop, List.length_set, HLS.out]; omega) (intCells_one _) w5.heap.size w5 (below_drew HB8.out) (Nat.le_refl _)
                                                          rw [show (intCells (x.kids.drop ck)).length = 0 from by have := HKN.out; rw [intCells_length, List.length_drop]; omega] at hcp9
                                                          change wpList _ _ _ _ _ X7.drew
                                                          have hfin : X9.heap[w5.heap.size]? = some (.cells (intCells (insAt x.kids ck id)).toArray 3 (0, 0)) := by
                                                            rw [hX9, ← HL6.out, splice_fin (by rw [intCells_length, List.length_take]; omega) (by rw [Array.length_toList, HCS.out, intCells_length, List.length_drop]; have := HKN.out; omega)]
                                                            congr 3
                                                            try simp [insAt, intCells]
                                                          have hil : (insAt x.kids ck id).length = ck + 1 := by have := HKN.out; simp only [insAt, List.length_append, List.length_take, List.length_cons, List.length_drop]; omega
                                                          have hP9 := HP5.out.after hb9
                                                          have hown9 : X9.ownsRow B 3 1 (.slice (some ⟨w5.heap.size, 0, none⟩) (ck + 1) (ck + 1)) (ck + 1) (intCells (insAt x.kids ck id)) := ⟨by rw [intCells_length, hil, Nat.mul_one], .inr ⟨w5.heap.size, ck + 1, _, rfl, Nat.le_trans hBg HP5.out.gr.size, hfin, Nat.le_refl _, by unfold maxLen; omega, by simp only [List.size_toArray, intCells_length, hil, Nat.mul_one], by rw [List.take_of_length_le (by simp only [intCells_length, hil]; omega)]⟩⟩
                                                          have hlf9 := hP9.own.leaf _ (List.mem_of_getElem? HX4.out)
                                                          have HP10 := Lib.hid (hP9.store (q := ({ x with kids := insAt x.kids ck id }, ⟨⟨Ap, np, cp⟩, ⟨some ⟨w5.heap.size, 0, none⟩, ck + 1, ck + 1⟩, ⟨Ar, nr, cr⟩⟩)) (u := .slice (some ⟨w5.heap.size, 0, none⟩) (ck + 1) (ck + 1)) HL4.out HX4.out (j := 5) (by omega) rfl ⟨hlf9.pn, hil.symm, hlf9.rn, hlf9.p, hown9, hlf9.r, ⟨hlf9.sz.con, hlf9.sz.role, hlf9.sz.props, hlf9.sz.refs⟩⟩)
                                                          have k9 := hP9.cellAt HL4.out HX4.out (j := 5) (by omega) rfl
                                                          have f9 := hP9.frozenAt (j := jj * 7 + 5) HL4.out
                                                          simp only at k9
                                                          clear hfin hil hP9 hown9 hlf9 hX9 hb9
                                                          go_wp2_with fail
                                                          (try rw [Exit.noGoto_ret])
                                                          (try simp only [Exit.inBlock, Exit.then])
                                                          first | refine bodyPost_ret (results_none (by kernel_rfl) _ _ _) rfl ?_ | refine bodyPost_end (results_none (by kernel_rfl) _ _ _) rfl ?_
                                                          exact ⟨rfl, _, HP10.out.own, HP10.out.gr, by rw [List.map_set, HM4.out, HPOST.out, if_neg hpz]⟩
                                  · have n5 : ¬ ck = nk := hcc
                                    refine wp_region_held_tail 10 (fun X => X.cell? ⟨g, jj * 7 + 5, none⟩ = some (.slice (some ⟨g', 0, none⟩) nk ck)) (by kernel_rfl) (by kernel_rfl) ?hSd (fun hHeld => ?qd0)
                                    case hSd => exact hS8
                                    case qd0 =>
                                      simp only [List.take_succ_cons, List.take_zero, List.drop_succ_cons, List.drop_zero]
                                      refine wpAnyH_take (i := 0) (v := (.slice (some ⟨w5.heap.size, 0, none⟩) (nk + 1) (nk + 1))) rfl (by kernel_rfl) (by kernel_rfl) (by kernel_rfl) (fun _ _ _ h => h) (Or.inl ⟨by rfl, ?yd_1⟩) (by assumption) ?qd_1
                                      case yd_1 => (intro w hSw; (try dsimp only at hSw); go_simp)
                                      case qd_1 =>
                                        (try simp only [Act.put]); (try simp only [List.setIfInBounds_toArray])
                                        refine wpAnyH_take (i := 1) (v := (.int .i64 nk)) rfl (by kernel_rfl) (by kernel_rfl) (by kernel_rfl) (fun _ _ _ h => h) (Or.inl ⟨by rfl, ?yd_2⟩) (by assumption) ?qd_2
                                        case yd_2 => (intro w hSw; (try dsimp only at hSw); go_simp)
                                        case qd_2 =>
                                          (try simp only [Act.put]); (try simp only [List.setIfInBounds_toArray])
                                          refine wpAnyH_take (i := 2) (v := (.int .i64 (nk + 1))) rfl (by kernel_rfl) (by kernel_rfl) (by kernel_rfl) (fun _ _ _ h => h) (Or.inl ⟨by rfl, ?yd_3⟩) (by assumption) ?qd_3
                                          case yd_3 => (intro w hSw; (try dsimp only at hSw); go_simp)
                                          case qd_3 =>
                                            (try simp only [Act.put]); (try simp only [List.setIfInBounds_toArray])
                                            refine wpAnyH_take (i := 3) (v := (.slice (some ⟨w5.heap.size, 0, none⟩) 0 0)) rfl (by kernel_rfl) (by kernel_rfl) (by kernel_rfl) (fun _ _ _ h => h) (Or.inl ⟨by rfl, ?yd_4⟩) (by assumption) ?qd_4
                                            case yd_4 => (intro w hSw; (try dsimp only at hSw); go_simp)
                                            case qd_4 =>
                                              (try simp only [Act.put]); (try simp only [List.setIfInBounds_toArray])
                                              refine wpAnyH_take (i := 4) (v := (.pointer (some ⟨g, jj * 7, none⟩))) rfl (by kernel_rfl) (by kernel_rfl) (by kernel_rfl) (fun _ _ _ h => h) (Or.inl ⟨by rfl, ?yd_5⟩) (by assumption) ?qd_5
                                              case yd_5 => (intro w hSw; (try dsimp only at hSw); go_simp)
                                              case qd_5 =>
                                                (try simp only [Act.put]); (try simp only [List.setIfInBounds_toArray])
                                                refine wpAnyH_take (i := 5) (v := (.pointer (some ⟨g, jj * 7, none⟩))) rfl (by kernel_rfl) (by kernel_rfl) (by kernel_rfl) (fun _ _ _ h => h) (Or.inl ⟨by rfl, ?yd_6⟩) (by assumption) ?qd_6
                                                case yd_6 => (intro w hSw; (try dsimp only at hSw); go_simp)
                                                case qd_6 =>
                                                  (try simp only [Act.put]); (try simp only [List.setIfInBounds_toArray])
                                                  refine wpAnyH_take (i := 6) (v := (.pointer (some ⟨g, jj * 7 + 5, none⟩))) rfl (by kernel_rfl) (by kernel_rfl) (by kernel_rfl) (fun _ _ _ h => h) (Or.inl ⟨by rfl, ?yd_7⟩) (by assumption) ?qd_7
                                                  case yd_7 => (intro w hSw; (try dsimp only at hSw); go_simp)
                                                  case qd_7 =>
                                                    (try simp only [Act.put]); (try simp only [List.setIfInBounds_toArray])
                                                    refine wpAnyH_take (i := 7) (v := (.slice (some ⟨g', 0, none⟩) nk ck)) rfl (by kernel_rfl) (by kernel_rfl) (by kernel_rfl) (fun _ _ _ h => h) (Or.inl ⟨by rfl, ?yd_8⟩) (by assumption) ?qd_8
                                                    case yd_8 => (intro w hSw; (try dsimp only at hSw); go_simp)
                                                    case qd_8 =>
                                                      (try simp only [Act.put]); (try simp only [List.setIfInBounds_toArray])
                                                      refine wpAnyH_take (i := 8) (v := (.int .i64 nk)) rfl (by kernel_rfl) (by kernel_rfl) (by kernel_rfl) (fun _ _ _ h => h) (Or.inl ⟨by rfl, ?yd_9⟩) (by assumption) ?qd_9
                                                      case yd_9 => (intro w hSw; (try dsimp only at hSw); go_simp)
                                                      case qd_9 =>
                                                        (try simp only [Act.put]); (try simp only [List.setIfInBounds_toArray])
                                                        refine wpAnyH_take (i := 9) (v := (.slice (some ⟨g', nk, none⟩) 0 (ck - nk))) rfl (by kernel_rfl) (by kernel_rfl) (by kernel_rfl) (fun _ _ _ h => h) (Or.inl ⟨by rfl, ?yd_10⟩) (by assumption) ?qd_10
                                                        case yd_10 => (intro w hSw; (try dsimp only at hSw); go_simp)
                                                        case qd_10 =>
                                                          (try simp only [Act.put]); (try simp only [List.setIfInBounds_toArray])
                                                          refine wpAnyH_done (by kernel_rfl) ?_ _
                                                          obtain ⟨X9, hcp9, hX9, hb9⟩ := copy_some (P := Tryz.prog) X7.drew 33 3 Tryz.underlying33 HZ1.out w5.heap.size (nk + 1) 0 0 0 (ck - nk) (some ⟨w5.heap.size, 0, none⟩) (some ⟨g', nk, none⟩) (L6.set nk (.int .i64 id)) HB7.out
                                                            (intCells (x.kids.drop nk)) (by have := HKN.out; rw [intCells_length, List.length_drop]; show _ = min 0 0; omega) (fun h0 => by have := HKN.out; rw [intCells_length, List.length_drop] at h0; omega) (by have := HKN.out; rw [intCells_length, List.length_drop, List.length_set, HLS.out]; omega) (intCells_one _) w5.heap.size w5 (below_drew HB8.out) (Nat.le_refl _)
                                                          rw [show (intCells (x.kids.drop nk)).length = 0 from by have := HKN.out; rw [intCells_length, List.length_drop]; omega] at hcp9
                                                          change wpList _ _ _ _ _ X7.drew
                                                          have hfin : X9.heap[w5.heap.size]? = some (.cells (intCells (insAt x.kids nk id)).toArray 3 (0, 0)) := by
                                                            rw [hX9, ← HL6.out, splice_fin (by rw [intCells_length, List.length_take]; omega) (by rw [Array.length_toList, HCS.out, intCells_length, List.length_drop]; have := HKN.out; omega)]
                                                            congr 3
                                                            try simp [insAt, intCells]
                                                          have hil : (insAt x.kids nk id).length = nk + 1 := by have := HKN.out; simp only [insAt, List.length_append, List.length_take, List.length_cons, List.length_drop]; omega
                                                          have hP9 := HP5.out.after hb9
                                                          have hown9 : X9.ownsRow B 3 1 (.slice (some ⟨w5.heap.size, 0, none⟩) (nk + 1) (nk + 1)) (nk + 1) (intCells (insAt x.kids nk id)) := ⟨by rw [intCells_length, hil, Nat.mul_one], .inr ⟨w5.heap.size, nk + 1, _, rfl, Nat.le_trans hBg HP5.out.gr.size, hfin, Nat.le_refl _, by unfold maxLen; omega, by simp only [List.size_toArray, intCells_length, hil, Nat.mul_one], by rw [List.take_of_length_le (by simp only [intCells_length, hil]; omega)]⟩⟩
                                                          have hlf9 := hP9.own.leaf _ (List.mem_of_getElem? HX4.out)
                                                          have HP10 := Lib.hid (hP9.store (q := ({ x with kids := insAt x.kids nk id }, ⟨⟨Ap, np, cp⟩, ⟨some ⟨w5.heap.size, 0, none⟩, nk + 1, nk + 1⟩, ⟨Ar, nr, cr⟩⟩)) (u := .slice (some ⟨w5.heap.size, 0, none⟩) (nk + 1) (nk + 1)) HL4.out HX4.out (j := 5) (by omega) rfl ⟨hlf9.pn, hil.symm, hlf9.rn, hlf9.p, hown9, hlf9.r, ⟨hlf9.sz.con, hlf9.sz.role, hlf9.sz.props, hlf9.sz.refs⟩⟩)
                                                          have k9 := hP9.cellAt HL4.out HX4.out (j := 5) (by omega) rfl
                                                          have f9 := hP9.frozenAt (j := jj * 7 + 5) HL4.out
                                                          simp only at k9
                                                          clear hfin hil hP9 hown9 hlf9 hX9 hb9
                                                          go_wp2_with fail
                                                          (try rw [Exit.noGoto_ret])
                                                          (try simp only [Exit.inBlock, Exit.then])
                                                          first | refine bodyPost_ret (results_none (by kernel_rfl) _ _ _) rfl ?_ | refine bodyPost_end (results_none (by kernel_rfl) _ _ _) rfl ?_
                                                          exact ⟨rfl, _, HP10.out.own, HP10.out.gr, by rw [List.map_set, HM4.out, HPOST.out, if_neg hpz]⟩
                    case mp_9 =>
                      exact AllReadyH.nil
end Go.Proofs.YtbkmdlfenbfdlaaGreat

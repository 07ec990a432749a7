/-
  WALKS: Same, of two lists of nodes that are the same (as XU22, of any texts and numbers); lists of the call's own as lists that lie.
-/
import Derived.Test.YtckfcpiedainfaaGreatDoorZE47
namespace Go.Proofs.YtckfcpiedainfaaGreatDoor
open Go Go.RowKit Go.Sort
set_option linter.unusedVariables false
/-- nodes in memory below hi -/
structure GIn (w : World) (hi : Nat) (S : Sl) (l : List (EN × Sl)) : Prop where
  g : GRow enC EnIn 4 w 0 hi S l
theorem GIn.at_ {w : World} {hi : Nat} {S : Sl} {l : List (EN × Sl)} (h : GIn w hi S l) {i : Nat} (hi' : i < S.n) : ∃ b o x, S.A = some ⟨b, o, none⟩ ∧ b < hi ∧ l[i]? = some x ∧ NodeC w b (o + i * 4) x ∧ EnIn w 0 hi x := by
  obtain ⟨b, o, hA, _, hb, V⟩ := h.g.at_ (fun _ => rfl) (by omega)
  have hl : i < l.length := by have := h.g.n; omega
  obtain ⟨h1, h2⟩ := V i l[i] (List.getElem?_eq_getElem hl)
  exact ⟨b, o, l[i], hA, hb, List.getElem?_eq_getElem hl, ⟨h2 0 _ (by omega) rfl, h2 1 _ (by omega) rfl, h2 2 _ (by omega) rfl, h2 3 _ (by omega) rfl⟩, h1⟩
theorem GIn.max {w : World} {hi : Nat} {S : Sl} {l : List (EN × Sl)} (h : GIn w hi S l) : S.n ≤ maxLen := Nat.le_trans h.g.row.2.1 h.g.row.2.2.1
theorem GIn.below {w w' : World} {hi : Nat} {S : Sl} {l : List (EN × Sl)} (h : GIn w hi S l) (hb : Below hi w w') : GIn w' hi S l := ⟨h.g.below enK hb⟩
theorem GIn.mono {w : World} {hi hi' : Nat} {S : Sl} {l : List (EN × Sl)} (h : GIn w hi S l) (hh : hi ≤ hi') : GIn w hi' S l := ⟨h.g.mono enK (Nat.le_refl _) hh⟩
theorem GE.gin {w : World} {A : Option Addr} {c B : Nat} {m : List (EN × Sl)} (h : GE B (.slice A m.length c) m w) : GIn w w.heap.size ⟨A, m.length, c⟩ m := by
  have hg : GRow enC EnIn 4 w B w.heap.size ⟨A, m.length, c⟩ m := h.toG rfl fun x hx => hx.in_
  exact ⟨hg.mono enK (Nat.zero_le _) (Nat.le_refl _)⟩
theorem OE.gin {w : World} {A : Option Addr} {c B : Nat} {m : List (EN × Sl)} (h : OE B (.slice A m.length c) m w) : GIn w w.heap.size ⟨A, m.length, c⟩ m := by
  have hg : GRow enC EnIn 4 w B w.heap.size ⟨A, m.length, c⟩ m := GL0.toG (O := EnOwn) (T := 52) ⟨h.own, h.leaf⟩ rfl fun x hx => hx.in_
  exact ⟨hg.mono enK (Nat.zero_le _) (Nat.le_refl _)⟩
set_option maxRecDepth 20000 in
set_option maxHeartbeats 6400000 in
theorem same_g (w : World) (hi hi' : Nat) (A A' : Option Addr) (n c c' : Nat) (l m : List (EN × Sl)) (hl : GIn w hi ⟨A, n, c⟩ l) (hh : hi ≤ w.heap.size) (hl' : GIn w hi' ⟨A', n, c'⟩ m) (hh' : hi' ≤ w.heap.size) (he : nodesOf l = nodesOf m) :
    Calls Tryz.prog 10 #[.agg #[.slice A n c], .agg #[.slice A' n c']] w (TellsB w true) := by
  have hm := hl.max
  unfold maxLen at hm
  have HL := Lib.hid hl
  have HL' := Lib.hid hl'
  have HN : Hid (n = l.length) := Lib.hid hl.g.n
  have HE := Lib.hid he
  clear hl hl' he
  have HB0 : Hid (SB2 w A A' n c c' ((w.alloc (.cells #[.slice A n c] 24)).alloc (.cells #[.slice A' n c'] 24))) := Lib.hid ⟨below_more (below_of_alloc _) _, (Blk.new _ _ _).alloc _, Blk.new' (by simp)⟩
  go_enter Tryz.func10, Tryz.ntmps10
  go_upto_region 1 with (fail)
  generalize (w.alloc (.cells #[.slice A n c] 24)).alloc (.cells #[.slice A' n c'] 24) = W0 at HB0 ⊢
  have cx := (HB0.out.e.cell 0).trans (show _ = some (.slice A n c) from rfl)
  have cy := (HB0.out.f.cell 0).trans (show _ = some (.slice A' n c') from rfl)
  go_wp2_with fail
  clear cx cy
  go_loopw [5, 6, 7, 8] (fun i _ _ _ wr => ∃ (k : Nat), k ≤ n ∧ i = .int .i64 k ∧ Hid (SB2 w A A' n c c' wr)) (fun i _ _ _ _ => n - (intOf i).toNat)
  case atStart => exact ⟨0, Nat.zero_le _, rfl, HB0⟩
  case round =>
    rename World => wo
    obtain ⟨k, hk, rfl, HB⟩ := hrel
    have cx := (HB.out.e.cell 0).trans (show _ = some (.slice A n c) from rfl)
    by_cases hlt : k < n
    · obtain ⟨b, o, x, hA, hb, hx, hc, hin⟩ := HL.out.at_ (i := k) hlt
      obtain ⟨b', o', y, hA', hb', hy, hc', hin'⟩ := HL'.out.at_ (i := k) hlt
      simp only at hA hA'
      subst hA hA'
      have hxy : y.1 = x.1 := by
        have h1 := nodesOf_at hx
        rw [HE.out, nodesOf_at hy] at h1
        exact Option.some.inj h1
      have cy := (HB.out.f.cell 0).trans (show _ = some (.slice (some ⟨b', o', none⟩) n c') from rfl)
      have q := hc.below HB.out.bel (show b < w.heap.size by omega)
      have p := hc'.below HB.out.bel (show b' < w.heap.size by omega)
      have q0 := q.c0
      have q1 := q.c1
      have q2 := q.c2
      have q3 := q.c3
      have p0 := p.c0
      have p1 := p.c1
      have p2 := p.c2
      have p3 := p.c3
      have HIN := Lib.hid hin
      have HIN' := Lib.hid hin'
      have hnn : y.2.n = x.2.n := by rw [hin.kn, hin'.kn, hxy]
      have hnk := hin.max
      unfold maxLen at hnk
      obtain ⟨⟨kd, T, nn, ks⟩, ⟨Ax, nx, cx'⟩⟩ := x
      obtain ⟨y1, ⟨Ay, ny, cy'⟩⟩ := y
      simp only at hxy hnn hnk
      subst hxy
      subst hnn
      simp only at q0 q1 q2 q3 p0 p1 p2 p3 HIN HIN'
      have hsz := HB.out.f.lt
      have hbz : b < w.heap.size := by omega
      have hbz' : b' < w.heap.size := by omega
      have HC := Lib.hid hc
      have HC' := Lib.hid hc'
      clear hc hc' hin hin' hx hy q p
      go_upto_region 6 with (fail)
      go_cut [6, 7] from 16 to 78 (fun s6 s7 wx => ∃ g6 g7 : Nat, s6 = .pointer (some ⟨g6, 0, none⟩) ∧ s7 = .pointer (some ⟨g7, 0, none⟩) ∧ Hid (SB2 w (some ⟨b, o, none⟩) (some ⟨b', o', none⟩) n c c' wx) ∧ Hid (Blk wx g6 52 #[.int .i64 kd, .string T, .int .i64 nn, .slice Ax ny cx']) ∧ Hid (Blk wx g7 52 #[.int .i64 kd, .string T, .int .i64 nn, .slice Ay ny cy']))
      case first =>
        have HSo : Hid (∀ Y, SB2 w (some ⟨b, o, none⟩) (some ⟨b', o', none⟩) n c c' Y → (Y.cell? ⟨w.heap.size, 0, none⟩ = some (.slice (some ⟨b, o, none⟩) n c) ∧ Y.cell? ⟨w.heap.size + 1, 0, none⟩ = some (.slice (some ⟨b', o', none⟩) n c') ∧ Y.cell? ⟨b, o + k * 4, none⟩ = some (.int .i64 kd) ∧ Y.cell? ⟨b, o + k * 4 + 1, none⟩ = some (.string T) ∧ Y.cell? ⟨b, o + k * 4 + 2, none⟩ = some (.int .i64 nn) ∧ Y.cell? ⟨b, o + k * 4 + 3, none⟩ = some (.slice Ax ny cx') ∧ Y.cell? ⟨b', o' + k * 4, none⟩ = some (.int .i64 kd) ∧ Y.cell? ⟨b', o' + k * 4 + 1, none⟩ = some (.string T) ∧ Y.cell? ⟨b', o' + k * 4 + 2, none⟩ = some (.int .i64 nn) ∧ Y.cell? ⟨b', o' + k * 4 + 3, none⟩ = some (.slice Ay ny cy'))) := Lib.hid fun Y h => ⟨h.e.cell 0, h.f.cell 0, (HC.out.below h.bel hbz).c0, (HC.out.below h.bel hbz).c1, (HC.out.below h.bel hbz).c2, (HC.out.below h.bel hbz).c3, (HC'.out.below h.bel hbz').c0, (HC'.out.below h.bel hbz').c1, (HC'.out.below h.bel hbz').c2, (HC'.out.below h.bel hbz').c3⟩
        have HBd := Lib.hid (HB.out.after (drew1_below _))
        refine wp_region_held_tail 13 (fun Y => Y.cell? ⟨w.heap.size, 0, none⟩ = some (.slice (some ⟨b, o, none⟩) n c) ∧ Y.cell? ⟨w.heap.size + 1, 0, none⟩ = some (.slice (some ⟨b', o', none⟩) n c') ∧ Y.cell? ⟨b, o + k * 4, none⟩ = some (.int .i64 kd) ∧ Y.cell? ⟨b, o + k * 4 + 1, none⟩ = some (.string T) ∧ Y.cell? ⟨b, o + k * 4 + 2, none⟩ = some (.int .i64 nn) ∧ Y.cell? ⟨b, o + k * 4 + 3, none⟩ = some (.slice Ax ny cx') ∧ Y.cell? ⟨b', o' + k * 4, none⟩ = some (.int .i64 kd) ∧ Y.cell? ⟨b', o' + k * 4 + 1, none⟩ = some (.string T) ∧ Y.cell? ⟨b', o' + k * 4 + 2, none⟩ = some (.int .i64 nn) ∧ Y.cell? ⟨b', o' + k * 4 + 3, none⟩ = some (.slice Ay ny cy')) (by kernel_rfl) (by kernel_rfl) ?hSu (fun hHeld => ?qu0)
        case hSu => exact HSo.out _ HBd.out
        case qu0 =>
          simp only [List.take_succ_cons, List.take_zero, List.drop_succ_cons, List.drop_zero]
          refine wpAnyH_take (i := 0) (v := (.pointer (some ⟨w.heap.size, 0, none⟩))) rfl (by kernel_rfl) (by kernel_rfl) (by kernel_rfl) (fun _ _ _ h => h) (Or.inl ⟨by rfl, ?yu_1⟩) (by assumption) ?qu_1
          case yu_1 => (intro w hSw; (try dsimp only at hSw); go_simp)
          case qu_1 =>
            (try simp only [Act.put]); (try simp only [List.setIfInBounds_toArray])
            refine wpAnyH_take (i := 1) (v := (.slice (some ⟨b, o, none⟩) n c)) rfl (by kernel_rfl) (by kernel_rfl) (by kernel_rfl) (fun _ _ _ h => h) (Or.inl ⟨by rfl, ?yu_2⟩) (by assumption) ?qu_2
            case yu_2 => (intro w hSw; (try dsimp only at hSw); go_simp)
            case qu_2 =>
              (try simp only [Act.put]); (try simp only [List.setIfInBounds_toArray])
              refine wpAnyH_take (i := 2) (v := (.int .i64 k)) rfl (by kernel_rfl) (by kernel_rfl) (by kernel_rfl) (fun _ _ _ h => h) (Or.inl ⟨by rfl, ?yu_3⟩) (by assumption) ?qu_3
              case yu_3 => (intro w hSw; (try dsimp only at hSw); go_simp)
              case qu_3 =>
                (try simp only [Act.put]); (try simp only [List.setIfInBounds_toArray])
                refine wpAnyH_take (i := 3) (v := (.pointer (some ⟨b, o + k * 4, none⟩))) rfl (by kernel_rfl) (by kernel_rfl) (by kernel_rfl) (fun _ _ _ h => h) (Or.inl ⟨by rfl, ?yu_4⟩) (by assumption) ?qu_4
                case yu_4 => (intro w hSw; (try dsimp only at hSw); go_simp)
                case qu_4 =>
                  (try simp only [Act.put]); (try simp only [List.setIfInBounds_toArray])
                  refine wpAnyH_take (i := 4) (v := (.agg #[.int .i64 kd, .string T, .int .i64 nn, .slice Ax ny cx'])) rfl (by kernel_rfl) (by kernel_rfl) (by kernel_rfl) (fun _ _ _ h => h) (Or.inl ⟨by rfl, ?yu_5⟩) (by assumption) ?qu_5
                  case yu_5 => (intro w hSw; (try dsimp only at hSw); go_simp)
                  case qu_5 =>
                    (try simp only [Act.put]); (try simp only [List.setIfInBounds_toArray])
                    refine wpAnyH_take (i := 5) (v := (.pointer (some ⟨w.heap.size + 1, 0, none⟩))) rfl (by kernel_rfl) (by kernel_rfl) (by kernel_rfl) (fun _ _ _ h => h) (Or.inl ⟨by rfl, ?yu_6⟩) (by assumption) ?qu_6
                    case yu_6 => (intro w hSw; (try dsimp only at hSw); go_simp)
                    case qu_6 =>
                      (try simp only [Act.put]); (try simp only [List.setIfInBounds_toArray])
                      refine wpAnyH_take (i := 6) (v := (.slice (some ⟨b', o', none⟩) n c')) rfl (by kernel_rfl) (by kernel_rfl) (by kernel_rfl) (fun _ _ _ h => h) (Or.inl ⟨by rfl, ?yu_7⟩) (by assumption) ?qu_7
                      case yu_7 => (intro w hSw; (try dsimp only at hSw); go_simp)
                      case qu_7 =>
                        (try simp only [Act.put]); (try simp only [List.setIfInBounds_toArray])
                        refine wpAnyH_take (i := 7) (v := (.int .i64 k)) rfl (by kernel_rfl) (by kernel_rfl) (by kernel_rfl) (fun _ _ _ h => h) (Or.inl ⟨by rfl, ?yu_8⟩) (by assumption) ?qu_8
                        case yu_8 => (intro w hSw; (try dsimp only at hSw); go_simp)
                        case qu_8 =>
                          (try simp only [Act.put]); (try simp only [List.setIfInBounds_toArray])
                          refine wpAnyH_take (i := 8) (v := (.pointer (some ⟨b', o' + k * 4, none⟩))) rfl (by kernel_rfl) (by kernel_rfl) (by kernel_rfl) (fun _ _ _ h => h) (Or.inl ⟨by rfl, ?yu_9⟩) (by assumption) ?qu_9
                          case yu_9 => (intro w hSw; (try dsimp only at hSw); go_simp)
                          case qu_9 =>
                            (try simp only [Act.put]); (try simp only [List.setIfInBounds_toArray])
                            refine wpAnyH_take (i := 9) (v := (.agg #[.int .i64 kd, .string T, .int .i64 nn, .slice Ay ny cy'])) rfl (by kernel_rfl) (by kernel_rfl) (by kernel_rfl) (fun _ _ _ h => h) (Or.inl ⟨by rfl, ?yu_10⟩) (by assumption) ?qu_10
                            case yu_10 => (intro w hSw; (try dsimp only at hSw); go_simp)
                            case qu_10 =>
                              (try simp only [Act.put]); (try simp only [List.setIfInBounds_toArray])
                              clear hHeld
                              refine wpAnyH_alloc2 (i := 10) (j := 11) 52 #[.int .i64 0, .string ByteArray.empty, .int .i64 0, .slice none 0 0] (by kernel_rfl) (by kernel_rfl) (by kernel_rfl) rfl rfl (by rfl) (by rfl) ?hri ?hrj (fun W hW => HSo.out _ (HBd.out.after hW)) ?u1 ?u2
                              case hri => (intro a9 w9; go_simp; rfl)
                              case hrj => (intro a9 w9; go_simp; rfl)
                              case u1 =>
                                intro g6 g7 W9 HZA HZB hga hgb hgn hbl hSw
                                have hgn' := Ne.symm hgn
                                have HSW := Lib.hid (HBd.out.after hbl)
                                have a0 := HZA.cell 0
                                have b0 := HZB.cell 0
                                have fa0 := HZA.frozen 0
                                have fb0 := HZB.frozen 0
                                have a1 := HZA.cell 1
                                have b1 := HZB.cell 1
                                have fa1 := HZA.frozen 1
                                have fb1 := HZB.frozen 1
                                have a2 := HZA.cell 2
                                have b2 := HZB.cell 2
                                have fa2 := HZA.frozen 2
                                have fb2 := HZB.frozen 2
                                have a3 := HZA.cell 3
                                have b3 := HZB.cell 3
                                have fa3 := HZA.frozen 3
                                have fb3 := HZB.frozen 3
                                have HZA' := Lib.hid HZA
                                have HZB' := Lib.hid HZB
                                clear HZA HZB hbl
                                (try simp only [Act.put]); (try simp only [List.setIfInBounds_toArray])
                                refine wpAnyH_ready (rs := [12]) (by kernel_rfl) (by simp) ?_
                                refine AllReadyH.cons rfl (fun K hK => ?su1) ?mu1
                                case mu1 => exact AllReadyH.nil
                                case su1 =>
                                  go_simp
                                  have hl6 : w.heap.size + 1 < g6 := Nat.lt_of_lt_of_le hsz (by first | exact hga | exact hgb)
                                  have hl7 : w.heap.size + 1 < g7 := Nat.lt_of_lt_of_le hsz (by first | exact hgb | exact hga)
                                  have HS4 := Lib.hid (sb_far4 (a := .int .i64 kd) (b := .string T) (d := .int .i64 nn) (e := .slice Ax ny cx') HSW.out hl6)
                                  have HA4 := Lib.hid (blk_four (a' := .int .i64 kd) (b' := .string T) (c' := .int .i64 nn) (d' := .slice Ax ny cx') HZA'.out)
                                  have HB4 := Lib.hid (blk_far4 (g' := g6) (a' := .int .i64 kd) (b' := .string T) (c' := .int .i64 nn) (d' := .slice Ax ny cx') HZB'.out (by first | exact hgn' | exact hgn))
                                  refine hK.out _ _ (HSo.out _ HS4.out) (fun hHeld => ?_)
                                  clear hK K a0 a1 a2 a3 b0 b1 b2 b3 fa0 fa1 fa2 fa3 fb0 fb1 fb2 fb3
                                  (try simp only [Act.put]); (try simp only [List.setIfInBounds_toArray])
                                  refine wpAnyH_done (by kernel_rfl) ?_ _
                                  clear hHeld
                                  show wpList _ _ _ _ _ _
                                  generalize (((W9.setCell ⟨g6, 0, none⟩ (.int .i64 kd)).setCell ⟨g6, 1, none⟩ (.string T)).setCell ⟨g6, 2, none⟩ (.int .i64 nn)).setCell ⟨g6, 3, none⟩ (.slice Ax ny cx') = W8 at HS4 HA4 HB4 ⊢
                                  have b0 := HB4.out.cell 0
                                  have b1 := HB4.out.cell 1
                                  have b2 := HB4.out.cell 2
                                  have b3 := HB4.out.cell 3
                                  have fb0 := HB4.out.frozen 0
                                  have fb1 := HB4.out.frozen 1
                                  have fb2 := HB4.out.frozen 2
                                  have fb3 := HB4.out.frozen 3
                                  have HS5 := Lib.hid (sb_far4 (a := .int .i64 kd) (b := .string T) (d := .int .i64 nn) (e := .slice Ay ny cy') HS4.out hl7)
                                  have HB5 := Lib.hid (blk_four (a' := .int .i64 kd) (b' := .string T) (c' := .int .i64 nn) (d' := .slice Ay ny cy') HB4.out)
                                  have HA5 := Lib.hid (blk_far4 (g' := g7) (a' := .int .i64 kd) (b' := .string T) (c' := .int .i64 nn) (d' := .slice Ay ny cy') HA4.out (by first | exact hgn | exact hgn'))
                                  go_wp2_with fail
                                  go_meet
                                  case rel => exact ⟨g6, g7, rfl, rfl, HS5, HA5, HB5⟩
                              case u2 =>
                                intro g7 g6 W9 HZB HZA hga hgb hgn hbl hSw
                                have hgn' := Ne.symm hgn
                                have HSW := Lib.hid (HBd.out.after hbl)
                                have a0 := HZA.cell 0
                                have b0 := HZB.cell 0
                                have fa0 := HZA.frozen 0
                                have fb0 := HZB.frozen 0
                                have a1 := HZA.cell 1
                                have b1 := HZB.cell 1
                                have fa1 := HZA.frozen 1
                                have fb1 := HZB.frozen 1
                                have a2 := HZA.cell 2
                                have b2 := HZB.cell 2
                                have fa2 := HZA.frozen 2
                                have fb2 := HZB.frozen 2
                                have a3 := HZA.cell 3
                                have b3 := HZB.cell 3
                                have fa3 := HZA.frozen 3
                                have fb3 := HZB.frozen 3
                                have HZA' := Lib.hid HZA
                                have HZB' := Lib.hid HZB
                                clear HZA HZB hbl
                                (try simp only [Act.put]); (try simp only [List.setIfInBounds_toArray])
                                refine wpAnyH_ready (rs := [12]) (by kernel_rfl) (by simp) ?_
                                refine AllReadyH.cons rfl (fun K hK => ?su2) ?mu2
                                case mu2 => exact AllReadyH.nil
                                case su2 =>
                                  go_simp
                                  have hl6 : w.heap.size + 1 < g6 := Nat.lt_of_lt_of_le hsz (by first | exact hga | exact hgb)
                                  have hl7 : w.heap.size + 1 < g7 := Nat.lt_of_lt_of_le hsz (by first | exact hgb | exact hga)
                                  have HS4 := Lib.hid (sb_far4 (a := .int .i64 kd) (b := .string T) (d := .int .i64 nn) (e := .slice Ax ny cx') HSW.out hl6)
                                  have HA4 := Lib.hid (blk_four (a' := .int .i64 kd) (b' := .string T) (c' := .int .i64 nn) (d' := .slice Ax ny cx') HZA'.out)
                                  have HB4 := Lib.hid (blk_far4 (g' := g6) (a' := .int .i64 kd) (b' := .string T) (c' := .int .i64 nn) (d' := .slice Ax ny cx') HZB'.out (by first | exact hgn' | exact hgn))
                                  refine hK.out _ _ (HSo.out _ HS4.out) (fun hHeld => ?_)
                                  clear hK K a0 a1 a2 a3 b0 b1 b2 b3 fa0 fa1 fa2 fa3 fb0 fb1 fb2 fb3
                                  (try simp only [Act.put]); (try simp only [List.setIfInBounds_toArray])
                                  refine wpAnyH_done (by kernel_rfl) ?_ _
                                  clear hHeld
                                  show wpList _ _ _ _ _ _
                                  generalize (((W9.setCell ⟨g6, 0, none⟩ (.int .i64 kd)).setCell ⟨g6, 1, none⟩ (.string T)).setCell ⟨g6, 2, none⟩ (.int .i64 nn)).setCell ⟨g6, 3, none⟩ (.slice Ax ny cx') = W8 at HS4 HA4 HB4 ⊢
                                  have b0 := HB4.out.cell 0
                                  have b1 := HB4.out.cell 1
                                  have b2 := HB4.out.cell 2
                                  have b3 := HB4.out.cell 3
                                  have fb0 := HB4.out.frozen 0
                                  have fb1 := HB4.out.frozen 1
                                  have fb2 := HB4.out.frozen 2
                                  have fb3 := HB4.out.frozen 3
                                  have HS5 := Lib.hid (sb_far4 (a := .int .i64 kd) (b := .string T) (d := .int .i64 nn) (e := .slice Ay ny cy') HS4.out hl7)
                                  have HB5 := Lib.hid (blk_four (a' := .int .i64 kd) (b' := .string T) (c' := .int .i64 nn) (d' := .slice Ay ny cy') HB4.out)
                                  have HA5 := Lib.hid (blk_far4 (g' := g7) (a' := .int .i64 kd) (b' := .string T) (c' := .int .i64 nn) (d' := .slice Ay ny cy') HA4.out (by first | exact hgn | exact hgn'))
                                  go_wp2_with fail
                                  go_meet
                                  case rel => exact ⟨g6, g7, rfl, rfl, HS5, HA5, HB5⟩
      case rest =>
        obtain ⟨g6, g7, rfl, rfl, HS6, HA6, HB6⟩ := hcut
        rename World => wc
        have a0 := HA6.out.cell 0
        have a1 := HA6.out.cell 1
        have a2 := HA6.out.cell 2
        have a3 := HA6.out.cell 3
        have b0 := HB6.out.cell 0
        have b1 := HB6.out.cell 1
        have b2 := HB6.out.cell 2
        have b3 := HB6.out.cell 3
        clear q0 q1 q2 q3 p0 p1 p2 p3 cx cy
        go_wp2_with fail
        clear a0 a1 a2 b0 b1 b2
        go_loopw [8] (fun i wr => ∃ j : Nat, j ≤ ny ∧ i = .int .i64 j ∧ Hid (SB2 w (some ⟨b, o, none⟩) (some ⟨b', o', none⟩) n c c' wr) ∧ Hid (∀ a v, wc.cell? a = some v → wr.cell? a = some v)) (fun i _ => ny - (intOf i).toNat)
        case atStart => exact ⟨0, Nat.zero_le _, rfl, HS6, Lib.hid fun _ _ h => h⟩
        case round =>
          rename World => wd
          obtain ⟨j, hj, rfl, HS7, HCE⟩ := hrel
          have a3' := HCE.out _ _ a3
          have b3' := HCE.out _ _ b3
          by_cases hjn : j < ny
          · obtain ⟨bk, ok, v, hAk, hbk, hv, hcv⟩ := HIN.out.at_ hjn
            obtain ⟨bk', ok', v', hAk', hbk', hv', hcv'⟩ := HIN'.out.at_ hjn
            simp only at hAk hAk' hv hv'
            rw [hv] at hv'
            obtain rfl := Option.some.inj hv'
            subst hAk hAk'
            have k1 := (HS7.out.bel.cell (p := ⟨bk, ok + j, none⟩) (show bk < w.heap.size by omega)).trans hcv
            have k2 := (HS7.out.bel.cell (p := ⟨bk', ok' + j, none⟩) (show bk' < w.heap.size by omega)).trans hcv'
            have e0 : (v != v) = false := by simp
            clear hcv hcv' hv hv' a3 b3
            go_wp2_with fail
            go_quiet (fail)
            go_wp2_with fail
            go_roundw
            case rel => exact ⟨j + 1, by omega, by go_num, Lib.hid (HS7.out.after ⟨rfl, rfl, rfl, Nat.le_refl _, fun _ _ => rfl⟩), Lib.hid fun a u h => HCE.out a u h⟩
            case measure => simp [intOf]; omega
          · obtain rfl : j = ny := by omega
            clear a3 b3
            go_wp2_with fail
            go_roundw
            case rel => exact ⟨k + 1, by omega, by go_num, HS7⟩
            case measure => simp [intOf]; omega
    · obtain rfl : k = n := by omega
      go_wp2_with fail
      go_ret
      exact tellsB rfl HB.out.bel
end Go.Proofs.YtckfcpiedainfaaGreatDoor

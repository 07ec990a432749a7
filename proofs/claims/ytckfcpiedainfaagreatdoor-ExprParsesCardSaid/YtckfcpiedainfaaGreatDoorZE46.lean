/-
  WALKS over the document's reader: Parse, where a tree is read.
  THE WALKER's MAP: by how many nodes a variable is bound.
  WALKS over package kinds' walker: walkKid.
  WALKS over package kinds' walker: walk of every tree; the iterator that is behind behindKids.
  A RANGE OVER THE NODES, EACH BEHIND ITS KIDS, where a round may leave the function: the law at the statement.
-/
import Derived.Test.YtckfcpiedainfaaGreatDoorZE45
import Derived.Maps.OwnSet
import Derived.OrdersIn
import Derived.TacticsIn
import Derived.RangeFuncSeq
import Derived.Defers
import Derived.RangeFuncKeeps
import Derived.Laws.EntriesVeiled
import Derived.RangeFuncFrom
namespace Go.Proofs.YtckfcpiedainfaaGreatDoor
open Go Go.RowKit Go.Sort
set_option linter.unusedVariables false
theorem OE.low {B g : Nat} {v : Value} {l : List (EN × Sl)} {X X' : World} (h : OE B v l X) (hg : X.grownBy X' (some g)) (hB : g < B) : OE B v l X' := ⟨own_low h.own hg hB, fun p hp => ⟨(h.leaf p hp).kn, own_low (h.leaf p hp).k hg hB⟩, h.ap, Nat.le_trans h.hB hg.size⟩
set_option maxRecDepth 20000 in
set_option maxHeartbeats 6400000 in
/-- something is left -/
theorem dparse_rest (w : World) (s : ByteArray) (hs : s.size ≤ 140737488355328) (S : List UInt8) (hS : s.data.toList = S) (l : List Tok) (hr : scanR S = (l, 0, 0)) (t : Tr) (l1 : List Tok) (hx : rdX (.lv 1) l = .ok (t, l1)) (hne : l1 ≠ []) (q : Int) (hqe : placeV l1 (s.size : Int) = q) (hq : 0 ≤ q) : Calls Tryz.prog 9 #[.string s] w (DocPost w ([], q, 80)) := by
  have HSC : Hid (∀ Y, Calls Tryz.prog 20 #[.string s] Y (ScanPost Y (l, 0, 0))) := Lib.hid fun Y => by rw [← hr, ← hS]; exact refScan_any s Y hs
  have HR0 : Hid (Blk (w.alloc (.cells #[.slice none 0 0] 24)) w.heap.size 24 #[.slice none 0 0]) := Lib.hid (Blk.new _ _ _)
  have HB0 : Hid (Below w.heap.size w (w.alloc (.cells #[.slice none 0 0] 24))) := Lib.hid (below_of_alloc _)
  have hl := (toks_ok hr).room
  obtain ⟨p1, hp1, _, hp1l⟩ := rdX_place (n := 1) (p := 0) (all := l) (q := (t, l1)) (by rw [List.drop_zero]; exact hx) (Nat.zero_le _)
  have hp1' : l1 = l.drop p1 := hp1
  subst hp1'
  have hsz := rdX_size hx
  have hts : t.size ≤ 4096 := by simp only at hsz; omega
  have HCX : Hid (∀ (W : World) (A : Option Addr) (k B : Nat), OwnT W B (.slice A l.length k) l → DCx W A k l (s.size : Int)) := Lib.hid fun W A k B ho => dcx_of hr ho
  have HL : Hid (∀ (W : World) (A : Option Addr) (k B : Nat), OwnT W B (.slice A l.length k) l → ∀ N X, N ≤ 4096 → DS W A k l (s.size : Int) (-1) N [] 0 X → Calls Tryz.prog 21 #[.pointer (some ⟨W.heap.size, 0, none⟩), .int .i64 1] X (LGot W A k l (s.size : Int) N [] t p1)) := Lib.hid fun W A k B ho N X hN hD => by
    rcases DC.read (dlevels_any W A k l (s.size : Int) (dcx_of hr ho) (l.length + 1) 0 (by omega) 0 (Nat.le_refl _) (Nat.zero_le _)).l1 (Nat.zero_le _) with ⟨l', h1, _⟩ | ⟨t', p1', h1, _, h2, h3⟩
    · rw [List.drop_zero, hx] at h1; cases h1
    · rw [List.drop_zero, hx] at h1
      injection h1 with h1; injection h1 with h4 h5
      subst h4
      have h6 := congrArg List.length h5
      rw [List.length_drop, List.length_drop] at h6
      obtain rfl : p1 = p1' := by omega
      exact h3.out N [] X hN hD
  clear hr hx hsz hp1
  have hlt : p1 < l.length := by
    rcases Nat.lt_or_ge p1 l.length with h | h
    · exact h
    · exact absurd (List.drop_eq_nil_of_le h) hne
  have q0 : decide ((p1 : Int) < (l.length : Int)) = true := decide_eq_true (by omega)
  go_enter Tryz.func9, Tryz.ntmps9
  go_upto_region 1 with (fail)
  generalize w.alloc (.cells #[.slice none 0 0] 24) = W0 at HB0 HR0 ⊢
  go_upto_region 5 with (go_at_call 20; (with_reducible refine (HSC.out _).mono ?_); go_must (rintro e w1 ⟨v, rfl, ho, hb⟩; obtain ⟨A, k, rfl⟩ := own_form ho; dsimp only; have HR1 := Lib.hid (HR0.out.after hb); have HB1 := Lib.hid (HB0.out.trans (hb.mono HB0.out.size)); have HO := Lib.hid ho; clear ho hb))
  have HL1 : Hid (Calls Tryz.prog 21 #[.pointer (some ⟨w1.heap.size, 0, none⟩), .int .i64 1] (w1.alloc (.cells #[.slice A l.length k, .int .i64 0, .int .i64 (s.size : Int), .int .i64 (-1), .slice none 0 0] 61)) (LGot w1 A k l (s.size : Int) l.length [] t p1)) := Lib.hid (HL.out _ _ _ _ HO.out _ _ hl (DS.start hl))
  generalize w1.alloc (.cells #[.slice A l.length k, .int .i64 0, .int .i64 (s.size : Int), .int .i64 (-1), .slice none 0 0] 61) = X0 at HL1 ⊢
  go_upto_region 6 with (go_at_call 21; (with_reducible refine HL1.out.mono ?_); go_must (rintro e X1 ⟨j, rfl, hD⟩; have HD := Lib.hid hD; clear hD))
  obtain ⟨x0, x1, x2, x3, f1, f3⟩ := HD.out.cells
  have q1 : decide ((-1 : Int) < 0) = true := by decide
  go_quiet (fail)
  have HD1 := Lib.hid (HD.out.after (below_drewN (Below.refl _ _) nq))
  clear x0 x1 x2 x3 f1 f3
  generalize X1.drewN nq = X2 at HD1 ⊢
  have HST : Hid (Calls Tryz.prog 22 #[.pointer (some ⟨w1.heap.size, 0, none⟩)] X2 (fun e X' => e = .returned (.int .i64 0) ∧ DS w1 A k l (s.size : Int) q l.length [(j, t)] p1 X')) := Lib.hid (by
    have := dstop_any w1 A k l _ (HCX.out _ _ _ _ HO.out) _ _ _ _ HD1.out
    rw [hqe] at this
    exact this)
  go_upto_region 8 with (go_at_call 22; (with_reducible refine HST.out.mono ?_); go_must (rintro e X9 ⟨rfl, hD⟩; have HD3 := Lib.hid hD; clear hD))
  have HP := Lib.hid (DPB.of HB1.out HR1.out HD3.out)
  obtain ⟨x0, f0, x3⟩ := HP.out.cells
  have q2 : decide ((0 : Int) ≤ q) = true := decide_eq_true hq
  go_upto_region 9 with (fail)
  clear x0 f0 x3 HD
  have HD := Lib.hid (HP.out.after (drew1_below X9))
  refine wp_region_held_drew (S := fun Y => ∃ v, DPB w w1.heap.size q v Y) (by kernel_rfl) ⟨_, HD.out⟩ (fun hHeld => ?t0)
  case t0 =>
    show wpAnyH _ _ _ _ _ 8 (Array.replicate 8 false) _ X9.drew
    generalize X9.drew = Y9 at HD hHeld ⊢
    refine wpAnyH_take (i := 0) (oi := ⟨some 54, _, _, _, _, _⟩) (v := (.agg #[.slice none 0 0])) rfl (by kernel_rfl) (by kernel_rfl) (by kernel_rfl) (fun _ _ _ h => h) (Or.inl ⟨by rfl, ?y0⟩) (by assumption) ?q0
    case y0 => (intro w5 hSw; go_simp <;> with_reducible rfl)
    case q0 =>
      (try simp only [Act.put]); (try simp only [List.setIfInBounds_toArray])
      refine wpAnyH_take (i := 1) (oi := ⟨some 55, _, _, _, _, _⟩) (v := (.pointer (some ⟨w1.heap.size, 0, none⟩))) rfl (by kernel_rfl) (by kernel_rfl) (by kernel_rfl) (fun _ _ _ h => h) (Or.inl ⟨by rfl, ?y1⟩) (by assumption) ?q1
      case y1 => (intro w5 hSw; go_simp <;> with_reducible rfl)
      case q1 =>
        (try simp only [Act.put]); (try simp only [List.setIfInBounds_toArray])
        refine wpAnyH_take (i := 2) (oi := ⟨some 56, _, _, _, _, _⟩) (v := (.pointer (some ⟨w1.heap.size, 0, none⟩))) rfl (by kernel_rfl) (by kernel_rfl) (by kernel_rfl) (fun _ _ _ h => h) (Or.inl ⟨by rfl, ?y2⟩) (by assumption) ?q2
        case y2 => (intro w5 hSw; obtain ⟨v5, hp5⟩ := hSw; obtain ⟨e0, z0, e3⟩ := hp5.cells; go_simp <;> with_reducible rfl)
        case q2 =>
          (try simp only [Act.put]); (try simp only [List.setIfInBounds_toArray])
          refine wpAnyH_take (i := 3) (oi := ⟨some 57, _, _, _, _, _⟩) (v := (.pointer (some ⟨w1.heap.size, 3, none⟩))) rfl (by kernel_rfl) (by kernel_rfl) (by kernel_rfl) (fun _ _ _ h => h) (Or.inl ⟨by rfl, ?y3⟩) (by assumption) ?q3
          case y3 => (intro w5 hSw; go_simp <;> with_reducible rfl)
          case q3 =>
            (try simp only [Act.put]); (try simp only [List.setIfInBounds_toArray])
            refine wpAnyH_take (i := 4) (oi := ⟨some 58, _, _, _, _, _⟩) (v := (.int .i64 q)) rfl (by kernel_rfl) (by kernel_rfl) (by kernel_rfl) (fun _ _ _ h => h) (Or.inl ⟨by rfl, ?y4⟩) (by assumption) ?q4
            case y4 => (intro w5 hSw; obtain ⟨v5, hp5⟩ := hSw; obtain ⟨e0, z0, e3⟩ := hp5.cells; go_simp <;> with_reducible rfl)
            case q4 =>
              (try simp only [Act.put]); (try simp only [List.setIfInBounds_toArray])
              refine wpAnyH_ready (rs := [5]) (by kernel_rfl) (by simp) ?_
              refine AllReadyH.cons (o := ⟨none, _, _, _, _, _⟩) rfl (fun K hK => ?s5) ?m5
              case m5 => exact AllReadyH.nil
              case s5 =>
                obtain ⟨e0, z0, e3⟩ := HD.out.cells
                have HD2 := Lib.hid (HD.out.set0 (.slice none 0 0))
                go_simp
                refine hK.out _ _ ⟨_, HD2.out⟩ (fun hHeld2 => ?q5)
                case q5 =>
                  clear hK K e0 z0 e3 hHeld
                  (try simp only [Act.put]); (try simp only [List.setIfInBounds_toArray])
                  generalize Y9.setCell ⟨w.heap.size, 0, none⟩ (.slice none 0 0) = Z9 at HD2 hHeld2 ⊢
                  refine wpAnyH_take (i := 6) (oi := ⟨some 3, _, _, _, _, _⟩) (v := (.int .i64 q)) rfl (by kernel_rfl) (by kernel_rfl) (by kernel_rfl) (fun _ _ _ h => h) (Or.inl ⟨by rfl, ?y6⟩) (by assumption) ?q6
                  case y6 => (intro w5 hSw; go_simp <;> with_reducible rfl)
                  case q6 =>
                    (try simp only [Act.put]); (try simp only [List.setIfInBounds_toArray])
                    refine wpAnyH_take (i := 7) (oi := ⟨some 4, _, _, _, _, _⟩) (v := (.int .i64 80)) rfl (by kernel_rfl) (by kernel_rfl) (by kernel_rfl) (fun _ _ _ h => h) (Or.inl ⟨by rfl, ?y7⟩) (by assumption) ?q7
                    case y7 => (intro w5 hSw; go_simp <;> with_reducible rfl)
                    case q7 =>
                      (try simp only [Act.put]); (try simp only [List.setIfInBounds_toArray])
                      refine wpAnyH_done (by kernel_rfl) ?_ _
                      obtain ⟨e0, z0, e3⟩ := HD2.out.cells
                      go_wp2_with fail
                      refine ⟨rfl, .tuple #[.agg #[.slice none 0 0], .int .i64 q, .int .i64 80], by simp [results, Tryz.results9, go_sem, e0], DocPost.none_ HD2.out.bel⟩
set_option maxRecDepth 20000 in
set_option maxHeartbeats 6400000 in
/-- all is read -/
theorem dparse_ok (w : World) (s : ByteArray) (hs : s.size ≤ 140737488355328) (S : List UInt8) (hS : s.data.toList = S) (l : List Tok) (hr : scanR S = (l, 0, 0)) (t : Tr) (l1 : List Tok) (hx : rdX (.lv 1) l = .ok (t, l1)) (hne : l1 = []) : Calls Tryz.prog 9 #[.string s] w (DocPost w (if 256 < t.size ∨ 32 < t.depth then ([], 0, 4) else (t.list, 0, 0))) := by
  have HSC : Hid (∀ Y, Calls Tryz.prog 20 #[.string s] Y (ScanPost Y (l, 0, 0))) := Lib.hid fun Y => by rw [← hr, ← hS]; exact refScan_any s Y hs
  have HR0 : Hid (Blk (w.alloc (.cells #[.slice none 0 0] 24)) w.heap.size 24 #[.slice none 0 0]) := Lib.hid (Blk.new _ _ _)
  have HB0 : Hid (Below w.heap.size w (w.alloc (.cells #[.slice none 0 0] 24))) := Lib.hid (below_of_alloc _)
  have hl := (toks_ok hr).room
  obtain ⟨p1, hp1, _, hp1l⟩ := rdX_place (n := 1) (p := 0) (all := l) (q := (t, l1)) (by rw [List.drop_zero]; exact hx) (Nat.zero_le _)
  have hp1' : l1 = l.drop p1 := hp1
  subst hp1'
  have hsz := rdX_size hx
  have hts : t.size ≤ 4096 := by simp only at hsz; omega
  have HCX : Hid (∀ (W : World) (A : Option Addr) (k B : Nat), OwnT W B (.slice A l.length k) l → DCx W A k l (s.size : Int)) := Lib.hid fun W A k B ho => dcx_of hr ho
  have HL : Hid (∀ (W : World) (A : Option Addr) (k B : Nat), OwnT W B (.slice A l.length k) l → ∀ N X, N ≤ 4096 → DS W A k l (s.size : Int) (-1) N [] 0 X → Calls Tryz.prog 21 #[.pointer (some ⟨W.heap.size, 0, none⟩), .int .i64 1] X (LGot W A k l (s.size : Int) N [] t p1)) := Lib.hid fun W A k B ho N X hN hD => by
    rcases DC.read (dlevels_any W A k l (s.size : Int) (dcx_of hr ho) (l.length + 1) 0 (by omega) 0 (Nat.le_refl _) (Nat.zero_le _)).l1 (Nat.zero_le _) with ⟨l', h1, _⟩ | ⟨t', p1', h1, _, h2, h3⟩
    · rw [List.drop_zero, hx] at h1; cases h1
    · rw [List.drop_zero, hx] at h1
      injection h1 with h1; injection h1 with h4 h5
      subst h4
      have h6 := congrArg List.length h5
      rw [List.length_drop, List.length_drop] at h6
      obtain rfl : p1 = p1' := by omega
      exact h3.out N [] X hN hD
  clear hr hx hsz hp1
  have hlt : p1 = l.length := by
    have h6 := congrArg List.length hne
    rw [List.length_drop] at h6
    simp at h6
    omega
  have q0 : decide ((p1 : Int) < (l.length : Int)) = false := decide_eq_false (by omega)
  go_enter Tryz.func9, Tryz.ntmps9
  go_upto_region 1 with (fail)
  generalize w.alloc (.cells #[.slice none 0 0] 24) = W0 at HB0 HR0 ⊢
  go_upto_region 5 with (go_at_call 20; (with_reducible refine (HSC.out _).mono ?_); go_must (rintro e w1 ⟨v, rfl, ho, hb⟩; obtain ⟨A, k, rfl⟩ := own_form ho; dsimp only; have HR1 := Lib.hid (HR0.out.after hb); have HB1 := Lib.hid (HB0.out.trans (hb.mono HB0.out.size)); have HO := Lib.hid ho; clear ho hb))
  have HL1 : Hid (Calls Tryz.prog 21 #[.pointer (some ⟨w1.heap.size, 0, none⟩), .int .i64 1] (w1.alloc (.cells #[.slice A l.length k, .int .i64 0, .int .i64 (s.size : Int), .int .i64 (-1), .slice none 0 0] 61)) (LGot w1 A k l (s.size : Int) l.length [] t p1)) := Lib.hid (HL.out _ _ _ _ HO.out _ _ hl (DS.start hl))
  generalize w1.alloc (.cells #[.slice A l.length k, .int .i64 0, .int .i64 (s.size : Int), .int .i64 (-1), .slice none 0 0] 61) = X0 at HL1 ⊢
  go_upto_region 6 with (go_at_call 21; (with_reducible refine HL1.out.mono ?_); go_must (rintro e X1 ⟨j, rfl, hD⟩; have HD := Lib.hid hD; clear hD))
  obtain ⟨x0, x1, x2, x3, f1, f3⟩ := HD.out.cells
  have q1 : decide ((-1 : Int) < 0) = true := by decide
  go_quiet (fail)
  have HD1 := Lib.hid (HD.out.after (below_drewN (Below.refl _ _) nq))
  clear x0 x1 x2 x3 f1 f3
  generalize X1.drewN nq = X2 at HD1 ⊢
  have HP := Lib.hid (DPB.of HB1.out HR1.out HD1.out)
  obtain ⟨h1, h2, m, Am, cm, h3, h4, h5, h6⟩ := HD1.out
  have x3 := (h3.cell 3).trans (show _ = some (.int .i64 (-1)) from rfl)
  have x4 := (h3.cell 4).trans (show _ = some (.slice Am m.length cm) from rfl)
  have q2 : decide ((0 : Int) ≤ (-1)) = false := by decide
  have HC : Hid (Calls Tryz.prog 23 #[.slice Am m.length cm, .int .i64 (j : Int), .slice none 0 0] X2 (OrdPost X2 X2 (.slice none 0 0) t [])) := Lib.hid (order_tree X2 w1.heap.size Am cm m h4 t.size t j X2 [] none 0 (Nat.le_refl _) (h6 (j, t) (by simp)) (OE.start X2) (Below.refl _ _) (by show 0 + t.size ≤ _; omega))
  clear h1 h2 h3 h4 h5 h6
  go_upto_region 11 with (go_at_call 23; (with_reducible refine HC.out.mono ?_); go_must (rintro e X3 ⟨l6, A6, c6, rfl, hn6, ho6, hb6, hf6⟩; have HP3 := Lib.hid (HP.out.after hb6); have HN6 := Lib.hid hn6; have HO6 := Lib.hid ho6; have HX23 := Lib.hid hb6.size; clear hn6 ho6 hb6 hf6))
  have HL6 : Hid (l6.length = t.size) := Lib.hid (by
    have h1 := congrArg List.length HN6.out
    rw [nodesOf_len, List.length_append, nodesOf_len, nodes_len] at h1
    have h2 : (row1 t).size = t.size := row1_size _
    simp at h1
    omega)
  obtain ⟨x0, f0, -⟩ := HP3.out.cells
  clear x3 x4
  have hl6 := HL6.out
  have htd : t.depth ≤ 4096 := by have h1 := depth_size t.a; show 1 + t.a.depth ≤ _; have h2 : t.size = 1 + t.a.size := rfl; omega
  by_cases h256 : 256 < t.size
  · have hif : (if 256 < t.size ∨ 32 < t.depth then (([], 0, 4) : List EN × Int × Int) else (t.list, 0, 0)) = ([], 0, 4) := if_pos (.inl h256)
    have q3 : decide ((256 : Int) < (l6.length : Int)) = true := decide_eq_true (by omega)
    clear hl6
    go_wp2_with fail
    obtain ⟨e0, z0, -⟩ := (HP3.out.set0 (.slice none 0 0)).cells
    refine ⟨rfl, .tuple #[.agg #[.slice none 0 0], .int .i64 0, .int .i64 4], by simp [results, Tryz.results9, go_sem, e0], ?_⟩
    exact DocPost.none_ (HP3.out.set0 (.slice none 0 0)).bel
  · have q3 : decide ((256 : Int) < (l6.length : Int)) = false := decide_eq_false (by omega)
    clear hl6
    by_cases h32 : 32 < t.depth
    · have hif : (if 256 < t.size ∨ 32 < t.depth then (([], 0, 4) : List EN × Int × Int) else (t.list, 0, 0)) = ([], 0, 4) := if_pos (.inr h32)
      have q4 : decide ((32 : Int) < (t.depth : Int)) = true := decide_eq_true (by omega)
      go_wp2_with fail
      obtain ⟨e0, z0, -⟩ := (HP3.out.set0 (.slice none 0 0)).cells
      refine ⟨rfl, .tuple #[.agg #[.slice none 0 0], .int .i64 0, .int .i64 4], by simp [results, Tryz.results9, go_sem, e0], ?_⟩
      exact DocPost.none_ (HP3.out.set0 (.slice none 0 0)).bel
    · have hif : (if 256 < t.size ∨ 32 < t.depth then (([], 0, 4) : List EN × Int × Int) else (t.list, 0, 0)) = (t.list, 0, 0) := if_neg (by rintro (h | h); exact h256 h; exact h32 h)
      have q4 : decide ((32 : Int) < (t.depth : Int)) = false := decide_eq_false (by omega)
      go_wp2_with fail
      obtain ⟨e0, z0, -⟩ := (HP3.out.set0 (.slice A6 l6.length c6)).cells
      refine ⟨rfl, .tuple #[.agg #[.slice A6 l6.length c6], .int .i64 0, .int .i64 0], by simp [results, Tryz.results9, go_sem, e0], ?_⟩
      exact ⟨A6, c6, l6, X2.heap.size, rfl, HN6.out, HP.out.bel.size, OE.low HO6.out grown_set HP.out.b0.lt, (HP3.out.set0 (.slice A6 l6.length c6)).bel⟩
/-- the document's Parse -/
theorem docParse_any (w : World) (s : ByteArray) (hs : s.size ≤ 140737488355328) : Calls Tryz.prog 9 #[.string s] w (DocPost w (exprR s.data.toList)) := by
  rcases scanR_cases s.data.toList with ⟨_, hr⟩ | ⟨_, l, _, hr⟩ | ⟨_, n, _, hr⟩
  · exact dparse_lexErr w s hs _ rfl (by rw [hr]; decide)
  · have hfin : (s.size : Int) = (s.data.toList.length : Int) := congrArg _ (toList_eq s).symm
    have hpl := toks_place hr
    rw [exprR_toks hr, ← hfin]
    cases hx : rdX (.lv 1) l with
    | error l' =>
      have hp : parseV l = .error l' := by unfold parseV readV; rw [hx]
      rw [hp]
      exact dparse_bad w s hs _ rfl l hr l' hx _ rfl
    | ok q =>
      obtain ⟨t, l1⟩ := q
      cases l1 with
      | nil =>
        have hp : parseV l = .ok (if 256 < t.size ∨ 32 < t.depth then none else some t.list) := by unfold parseV readV; rw [hx]
        have h1 := dparse_ok w s hs _ rfl l hr t [] hx rfl
        rw [hp]
        by_cases hb : 256 < t.size ∨ 32 < t.depth
        · rw [if_pos hb] at h1 ⊢; exact h1
        · rw [if_neg hb] at h1 ⊢; exact h1
      | cons x r =>
        have hp : parseV l = .error (x :: r) := by unfold parseV readV; rw [hx]
        rw [hp]
        obtain ⟨p1, e1, _, h2⟩ := rdX_place (n := 1) (p := 0) (all := l) (q := (t, x :: r)) (by rw [List.drop_zero]; exact hx) (Nat.zero_le _)
        have e1' : x :: r = l.drop p1 := e1
        exact dparse_rest w s hs _ rfl l hr t (x :: r) hx (by simp) _ rfl (hpl x (List.mem_of_mem_drop (by rw [← e1']; exact List.mem_cons_self)))
  · exact dparse_lexErr w s hs _ rfl (by rw [hr]; show ¬ (70 : Int) = 0; decide)
end Go.Proofs.YtckfcpiedainfaaGreatDoor
namespace Go.Proofs.YtckfcpiedainfaaGreatDoor
open Go Go.RowKit Go.Sort
open Go.Maps (Keyed)
set_option linter.unusedVariables false
theorem boxes_is {w w' : World} {P : Program} {k : TypeId} {R : Value → Option (DataW Unit × List MemPlace)} {b n : Nat} {D : DataW Unit} (h : w.ownsMap P k R b n D) (hb : w'.heap[b]? = w.heap[b]?) : w'.ownsMap P k R b n D := by
  obtain ⟨es, clock, h1, h2⟩ := h
  exact ⟨es, clock, hb.trans h1, h2⟩
/-- block b is a map that tells how often each name is bound -/
structure MapIs (w : World) (b m : Nat) (e : Bnd) : Prop where
  out : ∃ D : DataW Unit, w.ownsMap Tryz.prog 9 (plainElem Tryz.prog 3) b m D ∧ ∀ s, D.atKey (.string s) (.lit (.int .i64 0)) = .lit (.int .i64 (e.count s))
section
variable {w w' : World} {b m : Nat} {e : Bnd}
theorem MapIs.made (w : World) : MapIs (w.alloc (.map #[] 0)) w.heap.size 0 [] := ⟨_, World.ownsMap_made _ _ _ _, fun s => rfl⟩
theorem MapIs.same (h : MapIs w b m e) (hb : w'.heap[b]? = w.heap[b]?) : MapIs w' b m e := by
  obtain ⟨D, h1, h2⟩ := h.out
  exact ⟨D, boxes_is h1 hb, h2⟩
theorem MapIs.lt (h : MapIs w b m e) : b < w.heap.size := by
  obtain ⟨D, h1, h2⟩ := h.out
  exact h1.lt
theorem MapIs.after (h : MapIs w b m e) (hb : Below w.heap.size w w') : MapIs w' b m e := h.same (hb.block _ h.lt)
theorem MapIs.mono {m' : Nat} (h : MapIs w b m e) (hm : m ≤ m') : MapIs w b m' e := by
  obtain ⟨D, h1, h2⟩ := h.out
  exact ⟨D, h1.mono hm, h2⟩
theorem MapIs.walk (h : MapIs w b m e) : ∃ o : Obj, w.heap[b]? = some o ∧ ∃ es c, o = .map es c := by
  obtain ⟨D, ⟨es, clock, h1, _⟩, h2⟩ := h.out
  exact ⟨_, h1, es, clock, rfl⟩
end
end Go.Proofs.YtckfcpiedainfaaGreatDoor
namespace Go.Proofs.YtckfcpiedainfaaGreatDoor
open Go Go.RowKit Go.Sort
set_option linter.unusedVariables false
/-- cells, but texts: a round may have a list of texts of its own -/
def plainO (o : Obj) : Bool := match o with
  | .cells _ t _ => t != 9
  | _ => false
/-- what the walker keeps: all below n₀; of what lies from n₁ on, the cells but texts -/
structure KW (n₀ n₁ gm : Nat) (X X' : World) : Prop where
  bel : Below n₀ X X'
  same : ∀ (g : Nat) (o : Obj), n₁ ≤ g → g ≠ gm → X.heap[g]? = some o → plainO o = true → X'.heap[g]? = some o
/-- what a round keeps: all below n₀; of what lies from n₁ on, cells but texts, maps and their iterators -/
structure KpE (n₀ n₁ : Nat) (X X' : World) : Prop where
  bel : Below n₀ X X'
  same : ∀ (g : Nat) (o : Obj), n₁ ≤ g → X.heap[g]? = some o → plainO o = true ∨ o.isWalk = true → X'.heap[g]? = some o
section
variable {n₀ n₁ gm : Nat} {X X' X'' : World}
theorem KW.trans (h : KW n₀ n₁ gm X X') (h' : KW n₀ n₁ gm X' X'') : KW n₀ n₁ gm X X'' := ⟨h.bel.trans h'.bel, fun g o h1 h2 h3 h4 => h'.same g o h1 h2 (h.same g o h1 h2 h3 h4) h4⟩
theorem KW.refl (n₀ n₁ gm : Nat) (X : World) : KW n₀ n₁ gm X X := ⟨Below.refl _ _, fun _ _ _ _ h _ => h⟩
theorem KW.after (hb : Below X.heap.size X X') (h0 : n₀ ≤ X.heap.size) : KW n₀ n₁ gm X X' := ⟨hb.mono h0, fun g o _ _ h3 _ => (hb.block g (Array.getElem?_eq_some_iff.1 h3).1).trans h3⟩
theorem KW.blk {g : Nat} {t : TypeId} {cs : Array Value} (h : KW n₀ n₁ gm X X') (h1 : n₁ ≤ g) (h2 : g ≠ gm) (hb : Blk X g t cs) (ht : (t != 9) = true := by rfl) : Blk X' g t cs := h.same g _ h1 h2 hb ht
end
def yv (lp : Nat) : Value := .func (.yield lp) #[] #[]
end Go.Proofs.YtckfcpiedainfaaGreatDoor
namespace Go.Proofs.YtckfcpiedainfaaGreatDoor
open Go Go.RowKit Go.Sort
set_option linter.unusedVariables false
theorem Tree.root {l : List EN} {f : Fo} (h : Tree l f) : ∃ k s i a, f = .cons k s i a .nil := by
  have h1 := h.one
  cases f with
  | nil => simp [Fo.offs] at h1
  | cons k s i a r =>
    cases r with
    | nil => exact ⟨k, s, i, a, rfl⟩
    | cons => simp [Fo.offs] at h1
end Go.Proofs.YtckfcpiedainfaaGreatDoor
namespace Go.Proofs.YtckfcpiedainfaaGreatDoor
open Go Go.RowKit Go.Sort
set_option linter.unusedVariables false
theorem KpE.trans {n₀ n₁ : Nat} {A B C : World} (h : KpE n₀ n₁ A B) (h' : KpE n₀ n₁ B C) : KpE n₀ n₁ A C := ⟨h.bel.trans h'.bel, fun g o h1 h2 h3 => h'.same g o h1 (h.same g o h1 h2 h3) h3⟩
theorem KpE.put {n₀ n₁ : Nat} {W : World} {b : Nat} {o : Obj} (h0 : n₀ ≤ b) (h1 : b < n₁) (hb : n₀ ≤ W.heap.size) : KpE n₀ n₁ W (W.putObj b o) :=
  ⟨(Below.refl n₀ W).grown (grownBy_putObj' W b o) hb (fun k e => by cases e; exact h0), fun g o' hg ho _ => (World.putObj_heap_other (by omega)).trans ho⟩
end Go.Proofs.YtckfcpiedainfaaGreatDoor

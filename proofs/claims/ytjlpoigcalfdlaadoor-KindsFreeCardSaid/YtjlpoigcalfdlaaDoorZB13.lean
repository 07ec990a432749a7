/-
  WALKS over the document's answers for layer 8: Right.
-/
import Derived.Test.YtjlpoigcalfdlaaDoorZB12
import Derived.Deep.OwnRows
namespace Go.Proofs.YtjlpoigcalfdlaaDoor
open Go Go.RowKit Go.Sort
set_option linter.unusedVariables false
theorem intInfo : (Tryd.prog.info? 3).map (fun i => (i.zero, i.size, i.bytes)) = some (some (.int .i64 0), 1, 8) := by kernel_rfl
theorem made_ints (n : Nat) : madeCells #[.int .i64 0] n = (intCells (List.replicate n 0)).toArray := by
  apply Array.ext_getElem?
  intro i
  by_cases hi : i < n
  · simp [madeCells, intCells, hi, Nat.mod_one]
  · simp [madeCells, intCells, hi]
theorem make_ints (n : Nat) (hn : n ≤ 35184372088832) (w : World) :
    (Instr.makeSlice 29 (.int .i64 (n : Int)) (.int .i64 (n : Int))).run Tryd.prog w = .ok (.slice (some ⟨w.heap.size, 0, none⟩) n n) (w.alloc (.cells (intCells (List.replicate n 0)).toArray 3)) := by
  rw [← made_ints]
  exact run_make_row' (P := Tryd.prog) 29 3 (.int .i64 0) 8 Tryd.underlying29 intInfo rfl .i64 .i64 n (by omega) (by omega) w
/-- the boxes of Right: the expression, the sizes, the depths -/
structure RBx (w : World) (A : Option Addr) (n c : Nat) (sz dp : List Int) (W : World) : Prop where
  bel : Below w.heap.size w W
  x : Blk W w.heap.size 24 #[.slice A n c]
  s : IBlk W (w.heap.size + 1) sz
  d : IBlk W (w.heap.size + 1 + 1) dp
section
variable {w : World} {A : Option Addr} {n c : Nat} {sz dp : List Int} {W W' : World}
theorem RBx.after (h : RBx w A n c sz dp W) (hb : Below W.heap.size W W') : RBx w A n c sz dp W' := ⟨h.bel.trans (hb.mono h.bel.size), h.x.after hb, h.s.after hb, h.d.after hb⟩
theorem RBx.sets (h : RBx w A n c sz dp W) (i : Nat) (v : Int) : RBx w A n c (sz.set i v) dp (W.setCell ⟨w.heap.size + 1, i, none⟩ (.int .i64 v)) :=
  ⟨h.bel.setCell (p := ⟨w.heap.size + 1, i, none⟩) (Nat.le_add_right _ _) _, h.x.far (p := ⟨w.heap.size + 1, i, none⟩) (by show w.heap.size ≠ w.heap.size + 1; omega) _, h.s.set_ i v, Blk.far h.d (p := ⟨w.heap.size + 1, i, none⟩) (by show w.heap.size + 1 + 1 ≠ w.heap.size + 1; omega) _⟩
theorem RBx.setd (h : RBx w A n c sz dp W) (i : Nat) (v : Int) : RBx w A n c sz (dp.set i v) (W.setCell ⟨w.heap.size + 1 + 1, i, none⟩ (.int .i64 v)) :=
  ⟨h.bel.setCell (p := ⟨w.heap.size + 1 + 1, i, none⟩) (by show w.heap.size ≤ w.heap.size + 1 + 1; omega) _, h.x.far (p := ⟨w.heap.size + 1 + 1, i, none⟩) (by show w.heap.size ≠ w.heap.size + 1 + 1; omega) _, Blk.far h.s (p := ⟨w.heap.size + 1 + 1, i, none⟩) (by show w.heap.size + 1 ≠ w.heap.size + 1 + 1; omega) _, h.d.set_ i v⟩
end
/-- the node that is looked at, in its box -/
def nodeCs (x : EN × Sl) : Array Value := #[.int .i64 x.1.kind, .string x.1.text, .int .i64 x.1.int, .slice x.2.A x.2.n x.2.c]
theorem set_far {l : List Int} {i j : Nat} (v : Int) (h : i ≠ j) : (l.set i v)[j]? = l[j]? := List.getElem?_set_ne h
theorem getD_of {l : List Int} {i : Nat} {v : Int} (h : l[i]? = some v) : l.getD i 0 = v := by rw [List.getD_eq_getElem?_getD, h]; rfl
theorem set_same {l : List Int} {i : Nat} {v : Int} (h : l[i]? = some v) : l.set i v = l := by
  apply List.ext_getElem?
  intro j
  rw [List.getElem?_set]
  by_cases e : i = j
  · subst e
    rw [if_pos rfl, if_pos (List.getElem?_eq_some_iff.1 h).1, h]
  · rw [if_neg e]
theorem Kidded.le {l : List EN} {i k next deep : Nat} {ks : List Int} (h : Kidded l i ks k next deep) (hi : i < l.length) : i + 1 ≤ next ∧ next ≤ l.length := by
  obtain ⟨a, h1, rfl, rfl⟩ := h.out
  exact ⟨by omega, (takeV_at h1).1.le _ _ (by omega)⟩
theorem Kidded.deep_le {l : List EN} {i k next deep : Nat} {ks : List Int} (h : Kidded l i ks k next deep) : deep ≤ next := by
  obtain ⟨a, h1, rfl, rfl⟩ := h.out
  have : ∀ f : Fo, f.depth ≤ f.size := by
    intro f
    induction f with
    | nil => exact Nat.le_refl _
    | cons k s i a r h1 h2 => simp only [Fo.depth, Fo.size]; omega
  have := this a
  omega
set_option maxRecDepth 20000 in
set_option maxHeartbeats 6400000 in
theorem refRight_x (w : World) (hi : Nat) (A : Option Addr) (n c : Nat) (l : List (EN × Sl)) (hl : ExIn w hi ⟨A, n, c⟩ l) (hh : hi ≤ w.heap.size) :
    Calls Tryd.prog 18 #[.agg #[.slice A n c]] w (RightIs w (rightV (nodesOf l))) := by
  have hX0 := Blk.new w 24 #[.slice A n c]
  have HB0 : Hid (Below w.heap.size w (w.alloc (.cells #[.slice A n c] 24))) := Lib.hid (below_of_alloc _)
  have hm := hl.max
  unfold maxLen at hm
  have HL := Lib.hid hl
  have HN : Hid (n = l.length) := Lib.hid hl.g.n
  clear hl
  by_cases h256 : 256 < n
  · have hr : rightV (nodesOf l) = 4 := by unfold rightV; rw [if_pos (by rw [nodesOf_len]; have := HN.out; omega)]
    rw [hr]
    have d1 : decide ((256 : Int) < (n : Int)) = true := by simp; omega
    clear h256 hr hX0
    go_enter Tryd.func18, Tryd.ntmps18
    go_wp2_with fail
    go_ret
    exact rightIs rfl HB0.out
  have d1 : decide ((256 : Int) < (n : Int)) = false := by simp; omega
  have hle : n ≤ 256 := by omega
  have HLE : Hid (¬ 256 < (nodesOf l).length) := Lib.hid (by rw [nodesOf_len]; have := HN.out; omega)
  by_cases h0 : n = 0
  · have hr : rightV (nodesOf l) = 80 := by
      refine rightV_none HLE.out ?_
      have e : nodesOf l = [] := List.length_eq_zero_iff.1 (by rw [nodesOf_len]; have := HN.out; omega)
      rw [e]; rfl
    rw [hr]
    have d2 : ((n : Int) == 0) = true := by rw [h0]; rfl
    clear h256 hr hX0 h0
    go_enter Tryd.func18, Tryd.ntmps18
    go_wp2_with fail
    go_ret
    exact rightIs rfl HB0.out
  have d2 : ((n : Int) == 0) = false := by rw [beq_eq_false_iff_ne]; omega
  have hpos : 0 < n := by omega
  have HMY : Hid (∀ (x : EN × Sl) Y, x ∈ l → Calls Tryd.prog 31 #[.agg #[.int .i64 x.1.kind, .string x.1.text, .int .i64 x.1.int, .slice x.2.A x.2.n x.2.c]] Y (Tells1 Y (soundB x.1))) := Lib.hid fun x Y hx => may_any x Y (HL.out.ok x hx) (HL.out.g.all x hx).kn ((HL.out.g.all x hx).max)
  have hmk := make_ints n (by omega)
  have HR0 : Hid (RBx w A n c (List.replicate n 0) (List.replicate n 0) (((w.alloc (.cells #[.slice A n c] 24)).alloc (.cells (intCells (List.replicate n 0)).toArray 3)).alloc (.cells (intCells (List.replicate n 0)).toArray 3))) := Lib.hid
    ⟨below_more (below_more (below_of_alloc _) _) _, (hX0.alloc _).alloc _, (Blk.new' (by simp)).alloc _, Blk.new' (by simp)⟩
  clear h256 h0 hX0
  go_enter Tryd.func18, Tryd.ntmps18
  go_upto_region 7 with (fail)
  generalize ((w.alloc (.cells #[.slice A n c] 24)).alloc (.cells (intCells (List.replicate n 0)).toArray 3)).alloc (.cells (intCells (List.replicate n 0)).toArray 3) = W0 at HR0 ⊢
  have c0 := (HR0.out.x.cell 0).trans (show _ = some (.slice A n c) from rfl)
  go_wp2_with fail
  clear c0 hmk d1 d2
  go_loopw [5, 6, 7, 8] (fun i _ _ _ wr => ∃ (j : Nat) (z : Int) (sz dp : List Int), j ≤ n ∧ i = .int .i64 z ∧ Hid (z = (j : Int) - 1) ∧ Hid (RBx w A n c sz dp wr) ∧ Hid (Backed (nodesOf l) sz dp j) ∧ Hid (sz.length = n) ∧ Hid (dp.length = n) ∧ Hid (∀ q, q < j → dp[q]? = some 0)) (fun i _ _ _ _ => (intOf i + 1).toNat)
  case atStart => exact ⟨n, (n : Int) - 1, _, _, Nat.le_refl _, rfl, Lib.hid rfl, HR0, Lib.hid (by have := Backed.start (nodesOf l) (List.replicate n 0) (List.replicate n 0); rwa [nodesOf_len, ← HN.out] at this), Lib.hid (by simp), Lib.hid (by simp), Lib.hid fun q hq => by simp [hq]⟩
  case round =>
    rename World => wo
    obtain ⟨j, z, sz, dp, hj, rfl, hz, HR, HBK, HSZ, HDP, HZ0⟩ := hrel
    rcases Nat.eq_zero_or_pos j with rfl | hjp
    · obtain rfl : z = -1 := hz.out
      have c0 := (HR.out.x.cell 0).trans (show _ = some (.slice A n c) from rfl)
      obtain ⟨s0, hs0⟩ : ∃ s, sz[0]? = some s := ⟨sz[0]'(by have := HSZ.out; omega), List.getElem?_eq_getElem _⟩
      obtain ⟨e0, he0⟩ : ∃ s, dp[0]? = some s := ⟨dp[0]'(by have := HDP.out; omega), List.getElem?_eq_getElem _⟩
      have c1 := (HR.out.s.cell (i := 0) (by have := HSZ.out; omega)).trans (show _ = some (.int .i64 s0) from by rw [getD_of hs0])
      have c2 := (HR.out.d.cell (i := 0) (by have := HDP.out; omega)).trans (show _ = some (.int .i64 e0) from by rw [getD_of he0])
      have HRV := Lib.hid (HBK.out.fin HLE.out (by rw [nodesOf_len]; have := HN.out; omega) hs0 he0)
      have HNL : Hid (((nodesOf l).length : Int) = n) := Lib.hid (by rw [nodesOf_len, HN.out])
      have HBL := Lib.hid HR.out.bel
      clear hs0 he0 hz
      by_cases h1 : s0 = (n : Int)
      · have b1 : (s0 != (n : Int)) = false := by rw [h1]; simp
        by_cases h2 : 32 < e0
        · have b2 : decide (32 < e0) = true := by simpa using h2
          have HR2 : Hid (rightV (nodesOf l) = 4) := Lib.hid (by have := HRV.out; rw [HNL.out, if_pos h1, if_pos h2] at this; exact this)
          clear h1 h2
          go_wp2_with fail
          go_quiet (fail)
          go_wp2_with fail
          go_ret
          exact rightIs HR2.out.symm (below_drewN HBL.out _)
        · have b2 : decide (32 < e0) = false := by simpa using h2
          have HR2 : Hid (rightV (nodesOf l) = 0) := Lib.hid (by have := HRV.out; rw [HNL.out, if_pos h1, if_neg h2] at this; exact this)
          clear h1 h2
          go_wp2_with fail
          go_quiet (fail)
          go_wp2_with fail
          go_ret
          exact rightIs HR2.out.symm (below_drewN HBL.out _)
      · have b1 : (s0 != (n : Int)) = true := by rw [bne_iff_ne]; exact h1
        have HR2 : Hid (rightV (nodesOf l) = 80) := Lib.hid (by have := HRV.out; rw [HNL.out, if_neg h1] at this; exact this)
        clear h1
        go_wp2_with fail
        go_quiet (fail)
        go_wp2_with fail
        go_ret
        exact rightIs HR2.out.symm (below_drewN HBL.out _)
    · obtain ⟨q, rfl⟩ : ∃ q, j = q + 1 := ⟨j - 1, by omega⟩
      obtain rfl : z = (q : Int) := by have := hz.out; omega
      obtain ⟨b, o, x, hA, hb, hx, hc, hin, hok⟩ := HL.out.at_ (i := q) (by show q < n; omega)
      simp only at hA
      subst hA
      have hc' := hc.below HR.out.bel (show b < w.heap.size by omega)
      have c0 := hc'.c0
      have c1 := hc'.c1
      have c2 := hc'.c2
      have c3 := hc'.c3
      have cx := (HR.out.x.cell 0).trans (show _ = some (.slice (some ⟨b, o, none⟩) n c) from rfl)
      have HXE := Lib.hid (nodesOf_at hx)
      have HXM := Lib.hid (HMY.out x · (List.mem_of_getElem? hx))
      have HIN := Lib.hid hin
      have hnk := hin.max
      unfold maxLen at hnk
      have hsz := HR.out.bel.size
      clear hc hc' hok hx hin hb hjp hz
      cases hs : soundB x.1 with
      | false =>
        rw [hs] at HXM
        have HR2 := Lib.hid (right_unsound HLE.out HXE.out hs)
        clear hs
        go_wp2_with (go_at_call 31; refine (HXM.out _).mono ?_; rintro e w2 ⟨rfl, hb2⟩; have HB2 := Lib.hid (HR.out.bel.trans ((below_of_alloc _).trans (hb2.mono (by simp)) |>.mono hsz)); clear hb2)
        go_ret
        exact rightIs HR2.out.symm HB2.out
      | true =>
        rw [hs] at HXM
        have HS := Lib.hid hs
        have HBN : Hid (Blk (wo.alloc (.cells (nodeCs x) 46)) wo.heap.size 46 (nodeCs x)) := Lib.hid (Blk.new _ _ _)
        clear hs
        go_upto_region 14 with (go_at_call 31; refine (HXM.out _).mono ?_; rintro e w2 ⟨rfl, hb2⟩; have HR2 := Lib.hid (HR.out.after ((below_of_alloc _).trans (hb2.mono (by simp)))); have HN2 := Lib.hid (HBN.out.after hb2); clear hb2)
        obtain ⟨⟨kd, T, nn, ks⟩, ⟨A', n', c'⟩⟩ := x
        simp only at hnk HIN HXE
        have HQN : Hid (q < (nodesOf l).length) := Lib.hid (by rw [nodesOf_len]; have := HN.out; omega)
        have HR3 : Hid (RBx w (some ⟨b, o, none⟩) n c sz (dp.set q ((0 : Nat) : Int)) w2) := Lib.hid (by rw [show ((0 : Nat) : Int) = 0 from rfl, set_same (HZ0.out q (by omega))]; exact HR2.out)
        have hwz := HR.out.bel.size
        clear c0 c1 c2 c3 cx HBN HXM HR2
        go_wp2_with fail
        go_loopw [7, 8] (fun nx k wr => ∃ (kk nxt dd : Nat), kk ≤ n' ∧ k = .int .i64 kk ∧ nx = .int .i64 nxt ∧ Hid (RBx w (some ⟨b, o, none⟩) n c sz (dp.set q (dd : Int)) wr) ∧ Hid (Blk wr wo.heap.size 46 #[.int .i64 kd, .string T, .int .i64 nn, .slice A' n' c']) ∧ Hid (Kidded (nodesOf l) q ks kk nxt dd)) (fun _ k _ => n' - (intOf k).toNat)
        case atStart => exact ⟨0, q + 1, 0, Nat.zero_le _, rfl, by go_num, HR3, HN2, Lib.hid (Kidded.start _ _ _)⟩
        case round =>
          obtain ⟨kk, nxt, dd, hkk, rfl, rfl, HRr, HNr, HKD⟩ := hrel
          have hkl := HKD.out.le HQN.out
          have hnl : nxt ≤ n := by have h2 := hkl.2; rw [nodesOf_len] at h2; have := HN.out; omega
          have hql := hkl.1
          have hdd : dd ≤ 256 := by have := HKD.out.deep_le; omega
          clear hkl
          by_cases hlt : kk < n'
          · obtain ⟨bk, ok, y, hAk, hbk, hy, hcy⟩ := HIN.out.at_ hlt
            simp only at hAk
            have c3 := (HNr.out.cell 3).trans (show _ = some (.slice A' n' c') from rfl)
            rw [hAk] at c3
            clear hAk
            have qk := (HRr.out.bel.cell (p := ⟨bk, ok + kk, none⟩) (show bk < w.heap.size by omega)).trans hcy
            have cx := (HRr.out.x.cell 0).trans (show _ = some (.slice (some ⟨b, o, none⟩) n c) from rfl)
            have HBr := Lib.hid HRr.out.bel
            clear hcy
            by_cases h1 : y = (nxt : Int)
            · by_cases h2 : nxt < n
              · have b1 : (y != (nxt : Int)) = false := by rw [h1]; simp
                have b2 : decide (n ≤ nxt) = false := by simp; omega
                obtain ⟨f, f1, f2, f3⟩ := HBK.out.tr nxt hql (by rw [nodesOf_len, ← HN.out]; exact h2)
                have HKS := Lib.hid (HKD.out.step (by rw [← h1]; exact hy) f1)
                have hfl := HKS.out.le HQN.out
                rw [nodesOf_len, ← HN.out] at hfl
                have hfl2 := hfl.2
                have hfd : f.depth ≤ 512 := by have := HKS.out.deep_le; omega
                have e1 := (HRr.out.s.cell (i := nxt) (by have := HSZ.out; omega)).trans (show _ = some (.int .i64 (f.size : Int)) from by rw [getD_of f2])
                have e2 := (HRr.out.d.cell (i := nxt) (by rw [List.length_set]; have := HDP.out; omega)).trans (show _ = some (.int .i64 (f.depth : Int)) from by rw [getD_of ((set_far _ (by omega)).trans f3)])
                have e3 := (HRr.out.d.cell (i := q) (by rw [List.length_set]; have := HDP.out; omega)).trans (show _ = some (.int .i64 (dd : Int)) from by rw [getD_of (List.getElem?_set_self (by have := HDP.out; omega))])
                have e4 := Blk.frozen HRr.out.d q
                have HRm : Hid (RBx w (some ⟨b, o, none⟩) n c sz (dp.set q ((max dd f.depth : Nat) : Int)) (wr.setCell ⟨w.heap.size + 1 + 1, q, none⟩ (.int .i64 (max (dd : Int) f.depth))).drew) := Lib.hid (by
                  have := HRr.out.setd q ((max dd f.depth : Nat) : Int)
                  rw [List.set_set, ← ret_maxN] at this
                  exact this.after (drew1_below _))
                have HNm : Hid (Blk (wr.setCell ⟨w.heap.size + 1 + 1, q, none⟩ (.int .i64 (max (dd : Int) f.depth))).drew wo.heap.size 46 #[.int .i64 kd, .string T, .int .i64 nn, .slice A' n' c']) := Lib.hid ((Blk.far HNr.out (p := ⟨w.heap.size + 1 + 1, q, none⟩) (HNr.out.ne_ HRr.out.d (by decide)) _).after (drew1_below _))
                have gq : q < n := by omega
                clear h1 hfl f1 f2 f3 hy
                go_upto_region 19 with (fail)
                refine wp_region_held_tail 11 (fun Y => Y.cell? ⟨w.heap.size + 1 + 1, q, none⟩ = some (.int .i64 (dd : Int)) ∧ Y.cell? ⟨w.heap.size + 1 + 1, nxt, none⟩ = some (.int .i64 (f.depth : Int))) (by kernel_rfl) (by kernel_rfl) ?hSr (fun hHeld => ?qr0)
                case hSr => exact ⟨e3, e2⟩
                case qr0 =>
                  simp only [List.take_succ_cons, List.take_zero, List.drop_succ_cons, List.drop_zero]
                  refine wpAnyH_take (i := 0) (v := (.slice (some ⟨w.heap.size + 1 + 1, 0, none⟩) n n)) rfl (by kernel_rfl) (by kernel_rfl) (by kernel_rfl) (fun _ _ _ h => h) (Or.inl ⟨by rfl, ?yr_1⟩) (by assumption) ?qr_1
                  case yr_1 => (intro w hSw; (try dsimp only at hSw); go_simp)
                  case qr_1 =>
                    (try simp only [Act.put]); (try simp only [List.setIfInBounds_toArray])
                    refine wpAnyH_take (i := 1) (v := (.int .i64 q)) rfl (by kernel_rfl) (by kernel_rfl) (by kernel_rfl) (fun _ _ _ h => h) (Or.inl ⟨by rfl, ?yr_2⟩) (by assumption) ?qr_2
                    case yr_2 => (intro w hSw; (try dsimp only at hSw); go_simp)
                    case qr_2 =>
                      (try simp only [Act.put]); (try simp only [List.setIfInBounds_toArray])
                      refine wpAnyH_take (i := 2) (v := (.slice (some ⟨w.heap.size + 1 + 1, 0, none⟩) n n)) rfl (by kernel_rfl) (by kernel_rfl) (by kernel_rfl) (fun _ _ _ h => h) (Or.inl ⟨by rfl, ?yr_3⟩) (by assumption) ?qr_3
                      case yr_3 => (intro w hSw; (try dsimp only at hSw); go_simp)
                      case qr_3 =>
                        (try simp only [Act.put]); (try simp only [List.setIfInBounds_toArray])
                        refine wpAnyH_take (i := 3) (v := (.int .i64 q)) rfl (by kernel_rfl) (by kernel_rfl) (by kernel_rfl) (fun _ _ _ h => h) (Or.inl ⟨by rfl, ?yr_4⟩) (by assumption) ?qr_4
                        case yr_4 => (intro w hSw; (try dsimp only at hSw); go_simp)
                        case qr_4 =>
                          (try simp only [Act.put]); (try simp only [List.setIfInBounds_toArray])
                          refine wpAnyH_take (i := 4) (v := (.pointer (some ⟨w.heap.size + 1 + 1, q, none⟩))) rfl (by kernel_rfl) (by kernel_rfl) (by kernel_rfl) (fun _ _ _ h => h) (Or.inl ⟨by rfl, ?yr_5⟩) (by assumption) ?qr_5
                          case yr_5 => (intro w hSw; (try dsimp only at hSw); go_simp)
                          case qr_5 =>
                            (try simp only [Act.put]); (try simp only [List.setIfInBounds_toArray])
                            refine wpAnyH_take (i := 5) (v := (.int .i64 dd)) rfl (by kernel_rfl) (by kernel_rfl) (by kernel_rfl) (fun _ _ _ h => h) (Or.inl ⟨by rfl, ?yr_6⟩) (by assumption) ?qr_6
                            case yr_6 => (intro w hSw; (try dsimp only at hSw); go_simp)
                            case qr_6 =>
                              (try simp only [Act.put]); (try simp only [List.setIfInBounds_toArray])
                              refine wpAnyH_take (i := 6) (v := (.slice (some ⟨w.heap.size + 1 + 1, 0, none⟩) n n)) rfl (by kernel_rfl) (by kernel_rfl) (by kernel_rfl) (fun _ _ _ h => h) (Or.inl ⟨by rfl, ?yr_7⟩) (by assumption) ?qr_7
                              case yr_7 => (intro w hSw; (try dsimp only at hSw); go_simp)
                              case qr_7 =>
                                (try simp only [Act.put]); (try simp only [List.setIfInBounds_toArray])
                                refine wpAnyH_take (i := 7) (v := (.int .i64 nxt)) rfl (by kernel_rfl) (by kernel_rfl) (by kernel_rfl) (fun _ _ _ h => h) (Or.inl ⟨by rfl, ?yr_8⟩) (by assumption) ?qr_8
                                case yr_8 => (intro w hSw; (try dsimp only at hSw); go_simp)
                                case qr_8 =>
                                  (try simp only [Act.put]); (try simp only [List.setIfInBounds_toArray])
                                  refine wpAnyH_take (i := 8) (v := (.pointer (some ⟨w.heap.size + 1 + 1, nxt, none⟩))) rfl (by kernel_rfl) (by kernel_rfl) (by kernel_rfl) (fun _ _ _ h => h) (Or.inl ⟨by rfl, ?yr_9⟩) (by assumption) ?qr_9
                                  case yr_9 => (intro w hSw; (try dsimp only at hSw); go_simp)
                                  case qr_9 =>
                                    (try simp only [Act.put]); (try simp only [List.setIfInBounds_toArray])
                                    refine wpAnyH_take (i := 9) (v := (.int .i64 f.depth)) rfl (by kernel_rfl) (by kernel_rfl) (by kernel_rfl) (fun _ _ _ h => h) (Or.inl ⟨by rfl, ?yr_10⟩) (by assumption) ?qr_10
                                    case yr_10 => (intro w hSw; (try dsimp only at hSw); go_simp)
                                    case qr_10 =>
                                      (try simp only [Act.put]); (try simp only [List.setIfInBounds_toArray])
                                      refine wpAnyH_take (i := 10) (v := (.int .i64 (max (dd : Int) f.depth))) rfl (by kernel_rfl) (by kernel_rfl) (by kernel_rfl) (fun _ _ _ h => h) (Or.inl ⟨by rfl, ?yr_11⟩) (by assumption) ?qr_11
                                      case yr_11 => (intro w hSw; (try dsimp only at hSw); go_simp)
                                      case qr_11 =>
                                        (try simp only [Act.put]); (try simp only [List.setIfInBounds_toArray])
                                        refine wpAnyH_done (by kernel_rfl) ?_ _
                                        clear hHeld
                                        show wpList _ _ _ _ _ _
                                        go_wp2_with fail
                                        go_roundw
                                        case rel => exact ⟨kk + 1, nxt + f.size, max dd f.depth, by omega, by go_num, by go_num, HRm, HNm, HKS⟩
                                        case measure => simp [intOf]; omega
              · have b1 : (y != (nxt : Int)) = false := by rw [h1]; simp
                have b2 : decide (n ≤ nxt) = true := by simp; omega
                have HR2 := Lib.hid (right_bad HLE.out HQN.out (HKD.out.bad HXE.out hy (.inr (by rw [nodesOf_len, ← HN.out]; omega))))
                clear h1 h2 hy
                go_wp2_with fail
                go_ret
                exact rightIs HR2.out.symm HBr.out
            · have b1 : (y != (nxt : Int)) = true := by rw [bne_iff_ne]; exact h1
              have HR2 := Lib.hid (right_bad HLE.out HQN.out (HKD.out.bad HXE.out hy (.inl h1)))
              clear h1 hy
              go_wp2_with fail
              go_ret
              exact rightIs HR2.out.symm HBr.out
          · obtain ⟨f, f1, f2, f3, f4⟩ := HKD.out.fin HXE.out (by have := HIN.out.kn; simp only at this ⊢; omega)
            have c3 := (HNr.out.cell 3).trans (show _ = some (.slice A' n' c') from rfl)
            have e3 := (HRr.out.d.cell (i := q) (by rw [List.length_set]; have := HDP.out; omega)).trans (show _ = some (.int .i64 (dd : Int)) from by rw [getD_of (List.getElem?_set_self (by have := HDP.out; omega))])
            have e4 := Blk.frozen HRr.out.d q
            have e5 := (HRr.out.s.cell (i := q) (by have := HSZ.out; omega))
            have e6 := Blk.frozen HRr.out.s q
            have HRm : Hid (RBx w (some ⟨b, o, none⟩) n c (sz.set q (f.size : Int)) (dp.set q (f.depth : Int)) ((wr.setCell ⟨w.heap.size + 1, q, none⟩ (.int .i64 ((nxt : Int) - q))).setCell ⟨w.heap.size + 1 + 1, q, none⟩ (.int .i64 ((dd : Int) + 1)))) := Lib.hid (by
              have h5 := (HRr.out.sets q (f.size : Int)).setd q (f.depth : Int)
              rw [List.set_set] at h5
              rw [show (nxt : Int) - (q : Int) = (f.size : Int) from by omega, show (dd : Int) + 1 = (f.depth : Int) from by omega]
              exact h5)
            have HBm : Hid (Backed (nodesOf l) (sz.set q (f.size : Int)) (dp.set q (f.depth : Int)) q) := Lib.hid (HBK.out.step HXE.out HS.out f1 (List.getElem?_set_self (by have := HSZ.out; omega)) (List.getElem?_set_self (by have := HDP.out; omega)) (fun j hj => set_far _ (by omega)) (fun j hj => set_far _ (by omega)))
            have HZm : Hid (∀ p, p < q → (dp.set q (f.depth : Int))[p]? = some 0) := Lib.hid fun p hp => (set_far _ (by omega)).trans (HZ0.out p (by omega))
            have HL1 : Hid ((sz.set q (f.size : Int)).length = n) := Lib.hid (by rw [List.length_set]; exact HSZ.out)
            have HL2 : Hid ((dp.set q (f.depth : Int)).length = n) := Lib.hid (by rw [List.length_set]; exact HDP.out)
            have gq : q < n := by omega
            have n1 : w.heap.size + 1 ≠ w.heap.size + 1 + 1 := by omega
            clear f1 f2 f3 f4
            go_wp2_with fail
            go_roundw
            case rel => exact ⟨q, (q : Int) - 1, _, _, by omega, by go_num, Lib.hid rfl, HRm, HBm, HL1, HL2, HZm⟩
            case measure => (simp [intOf]; try omega)
end Go.Proofs.YtjlpoigcalfdlaaDoor

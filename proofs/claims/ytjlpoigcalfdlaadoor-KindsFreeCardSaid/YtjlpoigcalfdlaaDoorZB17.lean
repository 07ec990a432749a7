/-
  WALKS over package kinds' walker: walk.
-/
import Derived.Test.YtjlpoigcalfdlaaDoorZB16
namespace Go.Proofs.YtjlpoigcalfdlaaDoor
open Go Go.RowKit Go.Sort
set_option linter.unusedVariables false
theorem wide_tail {P : Program} {Q : Exit → Act → World → Prop} {m : Nat} {ops : Array Oper} (hno : ¬ LetsOut Q) : ∀ (l : List Oper) (a : Act) (w : World), wpList P ops Q l a w → wpListIn Fence.wide m P ops Q l a w
  | [], _, _, h => h
  | o :: l, a, w, h => by
    unfold wpList at h
    unfold wpListIn
    split
    · rename_i hw
      rw [if_pos hw] at h
      rcases h with h | h
      · exact wide_list (Oper.wp_mono (fun a w h => wide_tail hno l a w h) h)
      · exact absurd h.2 hno
    · rename_i hw
      rw [if_neg hw] at h
      exact ⟨fun _ _ => trivial, wide_tail hno l _ _ h⟩
/-- a call that only reads, ready alone -/
theorem wpAnyH_call {P : Program} {md : Region.Mode} {ops : Array Oper} {Q : Exit → Act → World → Prop} {S : World → Prop} {fuel : Nat} {listed : Array Bool} {a : Act} {w : World} {i : Nat} {o : Oper} (hr : Region.ready md ops listed = [i]) (ho : ops[i]? = some o)
    (hw : Region.wanted o (yielded ops a.tmps) = true) (f : FuncId) (vs : Array Value) (u : Value) (hrun : (execOp a.eval o).run P w = .ok (.enter f vs) w) (h : Calls P f vs w fun e w' => e = .returned u ∧ w' = w) (hS : S w)
    (hn : wpAnyH P md ops Q S fuel (listed.setIfInBounds i true) (a.put o.dst u) w) : wpAnyH P md ops Q S (fuel + 1) listed a w :=
  wpAnyH_all hr (by simp) fun j hj => by
    obtain rfl : j = i := by simpa using hj
    unfold wpOp
    simp only [ho]
    rw [if_pos hw]
    left
    unfold Oper.wp
    rw [hrun]
    refine h.mono ?_
    rintro e w' ⟨rfl, rfl⟩
    exact ⟨hS, hn⟩
/-- the nodes of a tree, each behind its kids -/
def postT (k : Int) (s : ByteArray) (a : Fo) (p : Nat) (e : Bnd) : List (Nat × Bool) := a.post (p + 1) (inner k s e) ++ [(p, k == 7 && !e.contains s.data.toList)]
theorem postT_len (k : Int) (s : ByteArray) (a : Fo) (p : Nat) (e : Bnd) : (postT k s a p e).length = a.size + 1 := by
  unfold postT; rw [List.length_append, post_len]; rfl
theorem post_cons (k : Int) (s : ByteArray) (i : Int) (a r : Fo) (p : Nat) (e : Nat → Bnd) : (Fo.cons k s i a r).post p e = postT k s a p (e 0) ++ r.post (p + 1 + a.size) (fun j => e (j + 1)) := by
  unfold postT
  simp only [Fo.post, List.append_assoc, List.singleton_append]
theorem inner_is (k : Int) (s : ByteArray) (e : Bnd) (j : Nat) : inner k s e j = if (decide (j = 1) && bindsB k) = true then s.data.toList :: e else e := by
  unfold inner
  by_cases h : j = 1 ∧ bindsB k = true
  · rw [if_pos h, if_pos (by simp [h])]
  · rw [if_neg h, if_neg (by simpa using h)]
theorem count_free (e : Bnd) (s : List UInt8) : (((e.count s : Nat) : Int) == 0) = !e.contains s := by
  by_cases h : s ∈ e
  · have h1 : e.contains s = true := by simpa using h
    have h2 := List.count_pos_iff.2 h
    rw [h1, beq_eq_false_iff_ne.2 (by omega)]; rfl
  · have h1 : e.contains s = false := by simpa using h
    rw [h1, List.count_eq_zero.2 h]; rfl
theorem prefix_of {α : Type} {P P' A L R B Z : List α} {kx : Nat} (h : P ++ A = (P' ++ L) ++ R) (hk : kx < L.length) (hB : B = A ++ Z) (hl : P.length ≤ P'.length) : P' ++ L.take (kx + 1) = P ++ B.take (P'.length + kx - P.length + 1) := by
  have h1 := congrArg (List.take (P'.length + (kx + 1))) h
  have h2 := congrArg List.length h
  simp only [List.length_append] at h2
  rw [List.append_assoc, List.take_append, List.take_append (l₁ := P'), List.take_of_length_le (by omega : P.length ≤ P'.length + (kx + 1)), List.take_of_length_le (by omega : P'.length ≤ P'.length + (kx + 1)), Nat.add_sub_cancel_left,
    List.take_append_of_le_length (by omega)] at h1
  rw [← h1, hB, List.take_append_of_le_length (by omega)]
  congr 2
  omega
set_option maxRecDepth 20000 in
set_option maxHeartbeats 12800000 in
theorem walk_node {w₀ : World} {hi : Nat} {A : Option Addr} {n c : Nat} {l : List (EN × Sl)} {gw gm n₀ n₁ lp : Nat} {N : List (Nat × Bool)} {J Jx : Inv} (E : WE w₀ hi A n c l gw gm n₀ n₁ lp N J Jx) (k : Int) (s : ByteArray) (i : Int) (a : Fo) (p : Nat) (e : Bnd)
    (ha : At (nodesOf l) p (.cons k s i a .nil))
    (H : ∀ (kk : Int) (ss : ByteArray) (ii : Int) (aa : Fo) (pp : Nat) (ee : Bnd), At (nodesOf l) pp (.cons kk ss ii aa .nil) → 1 + aa.size ≤ a.size → WalkAt w₀ A n c gw gm n₀ n₁ lp N J Jx pp (postT kk ss aa pp ee) ee (4 * aa.size + 2)) :
    WalkAt w₀ A n c gw gm n₀ n₁ lp N J Jx p (postT k s a p e) e (4 * a.size + 2) := by
  intro X pre m h0
  obtain ⟨t1, t2, _⟩ := ha
  obtain ⟨x, hx, hx1⟩ := nodesOf_of t1
  have hpn : p < n := by have := (List.getElem?_eq_some_iff.1 hx).1; have h3 : n = l.length := E.ex.g.n; omega
  obtain ⟨b, o, x', hA, hb, hx', hc, hin, hok⟩ := E.ex.at_ (i := p) hpn
  simp only at hA
  subst hA
  rw [hx] at hx'
  obtain rfl := Option.some.inj hx'
  obtain ⟨⟨kd, T, nn, ks⟩, ⟨A', n', c'⟩⟩ := x
  simp only [EN.mk.injEq] at hx1
  obtain ⟨rfl, rfl, rfl, rfl⟩ := hx1
  have hT : T.size ≤ 140737488355328 := hok.t
  have hnk := hin.max
  unfold maxLen at hnk
  have hm := E.ex.max
  unfold maxLen at hm
  simp only at hnk hm
  have HIN := Lib.hid hin
  have HKN : Hid (n' = (a.offs (p + 1)).length) := Lib.hid hin.kn
  have hroom := h0.room
  have henv := h0.env
  have HLEN := Lib.hid h0.len
  have hbn : b < n₀ := by have := E.hh; omega
  have HE := Lib.hid E
  have HH := Lib.hid H
  have HT2 := Lib.hid t2
  have c0 := (h0.ws.box.cell 0).trans (show _ = some (.slice (some ⟨b, o, none⟩) n c) from rfl)
  have hc1 := hc.below h0.bel hbn
  have d0 := hc1.c0
  have d1 := hc1.c1
  have d2 := hc1.c2
  have d3 := hc1.c3
  simp only at d0 d1 d2 d3
  have HBX : Hid (Blk (X.alloc (.cells #[.int .i64 kd, .string T, .int .i64 nn, .slice A' n' c'] 46)) X.heap.size 46 #[.int .i64 kd, .string T, .int .i64 nn, .slice A' n' c']) := Lib.hid (Blk.new _ _ _)
  have HWS := Lib.hid (h0.ws.after (below_of_alloc (X := X) (.cells #[.int .i64 kd, .string T, .int .i64 nn, .slice A' n' c'] 46)))
  have HJ := Lib.hid (abides_alloc E.hJ h0.j (.cells #[.int .i64 kd, .string T, .int .i64 nn, .slice A' n' c'] 46))
  have HKW : Hid (KW n₀ n₁ gm X (X.alloc (.cells #[.int .i64 kd, .string T, .int .i64 nn, .slice A' n' c'] 46))) := Lib.hid (KW.after (below_of_alloc _) (Nat.le_trans E.h01 h0.n1))
  have HB0 := Lib.hid h0.bel
  have HGM : Hid (gm < X.heap.size) := Lib.hid h0.ws.map.lt
  have HN1 := Lib.hid h0.n1
  clear E H t1 t2 hc hc1 hin hok hx h0
  go_enter Tryd.func28, Tryd.ntmps28
  go_upto_region 2 with (fail)
  clear c0 d0 d1 d2 d3
  generalize X.alloc (.cells #[.int .i64 kd, .string T, .int .i64 nn, .slice A' n' c'] 46) = W0 at HBX HWS HJ HKW ⊢
  have q3 := (HBX.out.cell 3).trans (show _ = some (.slice A' n' c') from rfl)
  go_wp2_with fail
  clear q3
  go_loopw [6, 7, 18] (fun _ _ iv wr => ∃ (j : Nat) (r : Fo) (p' : Nat) (pre' : List (Nat × Bool)) (m' : Nat), j ≤ n' ∧ iv = .int .i64 j ∧ Hid ((a.offs (p + 1)).drop j = r.offs p') ∧ Hid (At (nodesOf l) p' r) ∧ r.size ≤ a.size ∧
    Hid (WS (some ⟨b, o, none⟩) n c gw gm (yv lp) m' e wr) ∧ Hid (J pre' wr) ∧ Hid (KW n₀ n₁ gm X wr) ∧ Hid (Blk wr X.heap.size 46 #[.int .i64 kd, .string T, .int .i64 nn, .slice A' n' c']) ∧
    Hid (pre ++ a.post (p + 1) (inner kd T e) = pre' ++ r.post p' (fun t => inner kd T e (j + t))) ∧ m' + 4 * r.size ≤ m + 4 * a.size) (fun _ _ iv _ => n' - (intOf iv).toNat)
  case atStart => exact ⟨0, a, p + 1, pre, m, Nat.zero_le _, rfl, Lib.hid rfl, HT2, Nat.le_refl _, HWS, HJ, HKW, HBX, Lib.hid (by simp only [Nat.zero_add]), Nat.le_refl _⟩
  case round =>
    rename World => wo
    obtain ⟨j, r, p', pre', m', hj, rfl, HDR, HAT, hrs, HWSr, HJr, HKWr, HBXr, HPO, hmr⟩ := hrel
    have HLN : Hid (pre.length + a.size = pre'.length + r.size) := Lib.hid (by have := congrArg List.length HPO.out; rw [List.length_append, List.length_append, post_len, post_len] at this; exact this)
    have hln := HLN.out
    by_cases hlt : j < n'
    · obtain ⟨bk, ok, y, hAk, hbk, hy, hcy⟩ := HIN.out.at_ hlt
      simp only at hAk hy
      subst hAk
      have HDC : Hid ((a.offs (p + 1)).drop j = y :: (a.offs (p + 1)).drop (j + 1)) := Lib.hid (by obtain ⟨hk1, e1⟩ := List.getElem?_eq_some_iff.1 hy; rw [List.drop_eq_getElem_cons hk1, e1])
      cases r with
      | nil => exact absurd (HDC.out.symm.trans HDR.out) (by simp [Fo.offs])
      | cons kk ss ii aa rr =>
        obtain ⟨u1, u2, u3⟩ := HAT.out
        have HDE := HDC.out.symm.trans HDR.out
        simp only [Fo.offs, List.cons.injEq] at HDE
        obtain ⟨rfl, hdr⟩ := HDE
        have HDR2 := Lib.hid hdr
        simp only [Fo.size] at hrs hmr hln
        have HW := HH.out kk ss ii aa p' (inner kd T e j) ⟨u1, u2, trivial⟩ (by omega)
        rw [inner_is] at HW
        have HPO2 : Hid (pre ++ a.post (p + 1) (inner kd T e) = (pre' ++ postT kk ss aa p' (inner kd T e j)) ++ rr.post (p' + 1 + aa.size) (fun t => inner kd T e (j + 1 + t))) := Lib.hid (by
          have hf : (fun t => inner kd T e (j + (t + 1))) = (fun t => inner kd T e (j + 1 + t)) := by funext t; congr 1; omega
          rw [HPO.out, post_cons, List.append_assoc, hf]; rfl)
        have hn1w : n₁ ≤ wo.heap.size := Nat.le_of_lt (Nat.lt_of_le_of_lt HN1.out HBXr.out.lt)
        have hn0w : n₀ ≤ wo.heap.size := Nat.le_trans HE.out.h01 hn1w
        have HPF : Hid (pre' ++ postT kk ss aa p' (inner kd T e j) <+: N) := Lib.hid ((List.prefix_append _ _).trans (by rw [← HPO2.out]; exact List.IsPrefix.trans (by unfold postT; rw [← List.append_assoc]; exact List.prefix_append _ _) HLEN.out))
        have HU3 := Lib.hid u3
        have HCK := Lib.hid (walkKid_any HE.out p' (postT kk ss aa p' (inner kd T e j)) T (decide (j = 1) && bindsB kd) e (4 * aa.size + 2) (by rw [inner_is]; exact HW) hT wo.drew pre' m' ⟨HWSr.out.after (drew1_below _), abides_drew HE.out.hJ HJr.out, (HB0.out.trans HKWr.out.bel).trans ((drew1_below _).mono hn0w), hn1w, HPF.out, by omega, by omega⟩)
        have HCB := Lib.hid (binds_any kd wo.drew)
        have hbkn : bk < n₀ := by have := HE.out.hh; omega
        have qk := ((HB0.out.trans HKWr.out.bel).cell (p := ⟨bk, ok + j, none⟩) hbkn).trans hcy
        have e0 := (HBXr.out.cell 0).trans (show _ = some (.int .i64 kd) from rfl)
        have e1 := (HBXr.out.cell 1).trans (show _ = some (.string T) from rfl)
        have hkw0 : Hid (KW n₀ n₁ gm wo wo.drew) := Lib.hid (KW.after (drew1_below _) hn0w)
        have hgx : X.heap.size ≠ gm := by have := HGM.out; omega
        have HNO : Hid (∀ w, ¬ Walked (some ⟨b, o, none⟩) n c gw gm n₀ n₁ lp J Jx (postT kd T a p e) pre (m + (4 * a.size + 2)) e X .outgrown w) := Lib.hid (by rintro w ⟨_, _, hc, _⟩; cases hc)
        have hno : ∀ w, ¬ Walked (some ⟨b, o, none⟩) n c gw gm n₀ n₁ lp J Jx (postT kd T a p e) pre (m + (4 * a.size + 2)) e X .outgrown w := HNO.out
        clear HW hdr u1 u2 u3 hcy hy
        by_cases h1 : j = 1
        · subst h1
          simp only [decide_true, Bool.true_and] at HCK
          go_upto_region 5 with (fail)
          refine wp_region_yield_tail (m := 1) 11 (fun Y => Y.cell? ⟨X.heap.size, 0, none⟩ = some (.int .i64 kd) ∧ Y.cell? ⟨X.heap.size, 1, none⟩ = some (.string T)) (by kernel_rfl) (by kernel_rfl) ?hNr ?hSr (fun hHeld => ?qr0)
          case hNr => (rintro ⟨a', w', h⟩; exact hno _ h)
          case hSr => exact ⟨e0, e1⟩
          case qr0 =>
            simp only [List.take_succ_cons, List.take_zero, List.drop_succ_cons, List.drop_zero]
            refine wpAnyH_take (i := 0) (v := (.pointer (some ⟨gw, 0, none⟩))) rfl (by kernel_rfl) (by kernel_rfl) (by kernel_rfl) (fun _ _ _ h => h) (Or.inl ⟨by rfl, ?yr_1⟩) (by assumption) ?qr_1
            case yr_1 => (intro w hSw; (try dsimp only at hSw); go_simp)
            case qr_1 =>
              (try simp only [Act.put]); (try simp only [List.setIfInBounds_toArray])
              refine wpAnyH_take (i := 1) (v := (.int .i64 p')) rfl (by kernel_rfl) (by kernel_rfl) (by kernel_rfl) (fun _ _ _ h => h) (Or.inl ⟨by rfl, ?yr_2⟩) (by assumption) ?qr_2
              case yr_2 => (intro w hSw; (try dsimp only at hSw); go_simp)
              case qr_2 =>
                (try simp only [Act.put]); (try simp only [List.setIfInBounds_toArray])
                refine wpAnyH_take (i := 2) (v := (.pointer (some ⟨X.heap.size, 1, none⟩))) rfl (by kernel_rfl) (by kernel_rfl) (by kernel_rfl) (fun _ _ _ h => h) (Or.inl ⟨by rfl, ?yr_3⟩) (by assumption) ?qr_3
                case yr_3 => (intro w hSw; (try dsimp only at hSw); go_simp)
                case qr_3 =>
                  (try simp only [Act.put]); (try simp only [List.setIfInBounds_toArray])
                  refine wpAnyH_take (i := 3) (v := (.string T)) rfl (by kernel_rfl) (by kernel_rfl) (by kernel_rfl) (fun _ _ _ h => h) (Or.inl ⟨by rfl, ?yr_4⟩) (by assumption) ?qr_4
                  case yr_4 => (intro w hSw; (try dsimp only at hSw); go_simp)
                  case qr_4 =>
                    (try simp only [Act.put]); (try simp only [List.setIfInBounds_toArray])
                    refine wpAnyH_take (i := 4) (v := (.int .i64 1)) rfl (by kernel_rfl) (by kernel_rfl) (by kernel_rfl) (fun _ _ _ h => h) (Or.inl ⟨by rfl, ?yr_5⟩) (by assumption) ?qr_5
                    case yr_5 => (intro w hSw; (try dsimp only at hSw); go_simp)
                    case qr_5 =>
                      (try simp only [Act.put]); (try simp only [List.setIfInBounds_toArray])
                      refine wpAnyH_take (i := 5) (v := (.bool true)) rfl (by kernel_rfl) (by kernel_rfl) (by kernel_rfl) (fun _ _ _ h => h) (Or.inl ⟨by rfl, ?yr_6⟩) (by assumption) ?qr_6
                      case yr_6 => (intro w hSw; (try dsimp only at hSw); go_simp)
                      case qr_6 =>
                        (try simp only [Act.put]); (try simp only [List.setIfInBounds_toArray])
                        refine wpAnyH_take (i := 6) (v := (.bool true)) rfl (by kernel_rfl) (by kernel_rfl) (by kernel_rfl) (fun _ _ _ h => h) (Or.inl ⟨by rfl, ?yr_7⟩) (by assumption) ?qr_7
                        case yr_7 => (intro w hSw; (try dsimp only at hSw); go_simp)
                        case qr_7 =>
                          (try simp only [Act.put]); (try simp only [List.setIfInBounds_toArray])
                          refine wpAnyH_take (i := 7) (v := (.pointer (some ⟨X.heap.size, 0, none⟩))) rfl (by kernel_rfl) (by kernel_rfl) (by kernel_rfl) (fun _ _ _ h => h) (Or.inl ⟨by simp [Region.wanted, yielded], ?yr_8⟩) (by assumption) ?qr_8
                          case yr_8 => (intro w hSw; (try dsimp only at hSw); go_simp)
                          case qr_8 =>
                            (try simp only [Act.put]); (try simp only [List.setIfInBounds_toArray])
                            refine wpAnyH_take (i := 8) (v := (.int .i64 kd)) rfl (by kernel_rfl) (by kernel_rfl) (by kernel_rfl) (fun _ _ _ h => h) (Or.inl ⟨by simp [Region.wanted, yielded], ?yr_9⟩) (by assumption) ?qr_9
                            case yr_9 => (intro w hSw; (try dsimp only at hSw); go_simp)
                            case qr_9 =>
                              (try simp only [Act.put]); (try simp only [List.setIfInBounds_toArray])
                              refine wpAnyH_call (i := 9) (by kernel_rfl) rfl (by simp [Region.wanted, yielded]) 41 #[.int .i64 kd] (.bool (bindsB kd)) (by go_simp) (HCB.out.mono fun e9 w9 h9 => ⟨h9.1, h9.2⟩) hHeld ?_
                              (try simp only [Act.put]); (try simp only [List.setIfInBounds_toArray])
                              refine wpAnyH_take (i := 10) (v := (.bool (bindsB kd))) rfl (by kernel_rfl) (by kernel_rfl) (by kernel_rfl) (fun _ _ _ h => h) (Or.inl ⟨by rfl, ?yr_11⟩) (by assumption) ?qr_11
                              case yr_11 => (intro w hSw; (try dsimp only at hSw); go_simp)
                              case qr_11 =>
                                (try simp only [Act.put]); (try simp only [List.setIfInBounds_toArray])
                                refine wpAnyH_done (by kernel_rfl) ?_ _
                                clear hHeld
                                show wpListIn _ _ _ _ _ _ _ _
                                refine wide_tail ?hTr _ _ _ ?_
                                case hTr => (rintro ⟨a', w', h⟩; exact hno _ h)
                                show wpList _ _ _ _ _ _
                                clear hno
                                have hk2 : Hid (KW n₀ n₁ gm X wo.drew) := Lib.hid (HKWr.out.trans hkw0.out)
                                go_wp2_with (go_at_call 40; refine HCK.out.mono ?_; rintro r2 X2 ⟨b2, pre2, rfl, hws2, hkw2, hend2⟩; have HWS2 := Lib.hid hws2; have HKW2 := Lib.hid (hk2.out.trans hkw2); have HBX2 := Lib.hid (hkw2.blk HN1.out hgx (HBXr.out.drewN 1)); have HEN := Lib.hid hend2; clear hws2 hkw2 hend2; cases b2)
                                · have HX : Hid (Jx pre2 X2 ∧ ∃ kx, kx < (postT kk ss aa p' (inner kd T e 1)).length ∧ pre2 = pre' ++ (postT kk ss aa p' (inner kd T e 1)).take (kx + 1)) := Lib.hid (by
                                    rcases HEN.out with ⟨h, _⟩ | ⟨_, h⟩
                                    · cases h
                                    · exact h)
                                  obtain ⟨hx1, kx, hx2, hx3⟩ := HX.out
                                  go_ret
                                  refine ⟨false, pre2, rfl, HWS2.out.mono (by omega), HKW2.out, .inr ⟨rfl, hx1, ?_⟩⟩
                                  refine ⟨pre'.length + kx - pre.length, ?_, ?_⟩
                                  · rw [postT_len] at hx2 ⊢
                                    omega
                                  · rw [hx3]
                                    have hbig : postT kd T a p e = (a.post (p + 1) (inner kd T e)) ++ [(p, kd == 7 && !e.contains T.data.toList)] := rfl
                                    exact prefix_of HPO2.out hx2 hbig (by omega)
                                · have HX : Hid (pre2 = pre' ++ postT kk ss aa p' (inner kd T e 1) ∧ J pre2 X2) := Lib.hid (by
                                    rcases HEN.out with ⟨_, h⟩ | ⟨h, _⟩
                                    · exact h
                                    · cases h)
                                  have HJ2 := Lib.hid HX.out.2
                                  have HP2 : Hid (pre ++ a.post (p + 1) (inner kd T e) = pre2 ++ rr.post (p' + 1 + aa.size) (fun t => inner kd T e (1 + 1 + t))) := Lib.hid (by rw [HX.out.1]; exact HPO2.out)
                                  refine ⟨⟨1 + 1, rr, p' + 1 + aa.size, pre2, m' + (4 * aa.size + 2 + 2), by omega, by go_num, HDR2, HU3, by omega, HWS2, HJ2, HKW2, HBX2, HP2, by omega⟩, ?_⟩
                                  (simp [intOf]; try omega)
        · have b1 : ((j : Int) == 1) = false := by rw [beq_eq_false_iff_ne]; omega
          have b2 : (j == 1) = false := by rw [beq_eq_false_iff_ne]; exact h1
          rw [decide_eq_false h1, Bool.false_and] at HCK
          clear h1
          go_upto_region 5 with (fail)
          refine wp_region_yield_tail (m := 1) 11 (fun Y => Y.cell? ⟨X.heap.size, 0, none⟩ = some (.int .i64 kd) ∧ Y.cell? ⟨X.heap.size, 1, none⟩ = some (.string T)) (by kernel_rfl) (by kernel_rfl) ?hNt ?hSt (fun hHeld => ?qt0)
          case hNt => (rintro ⟨a', w', h⟩; exact hno _ h)
          case hSt => exact ⟨e0, e1⟩
          case qt0 =>
            simp only [List.take_succ_cons, List.take_zero, List.drop_succ_cons, List.drop_zero]
            refine wpAnyH_take (i := 0) (v := (.pointer (some ⟨gw, 0, none⟩))) rfl (by kernel_rfl) (by kernel_rfl) (by kernel_rfl) (fun _ _ _ h => h) (Or.inl ⟨by rfl, ?yt_1⟩) (by assumption) ?qt_1
            case yt_1 => (intro w hSw; (try dsimp only at hSw); go_simp)
            case qt_1 =>
              (try simp only [Act.put]); (try simp only [List.setIfInBounds_toArray])
              refine wpAnyH_take (i := 1) (v := (.int .i64 p')) rfl (by kernel_rfl) (by kernel_rfl) (by kernel_rfl) (fun _ _ _ h => h) (Or.inl ⟨by rfl, ?yt_2⟩) (by assumption) ?qt_2
              case yt_2 => (intro w hSw; (try dsimp only at hSw); go_simp)
              case qt_2 =>
                (try simp only [Act.put]); (try simp only [List.setIfInBounds_toArray])
                refine wpAnyH_take (i := 2) (v := (.pointer (some ⟨X.heap.size, 1, none⟩))) rfl (by kernel_rfl) (by kernel_rfl) (by kernel_rfl) (fun _ _ _ h => h) (Or.inl ⟨by rfl, ?yt_3⟩) (by assumption) ?qt_3
                case yt_3 => (intro w hSw; (try dsimp only at hSw); go_simp)
                case qt_3 =>
                  (try simp only [Act.put]); (try simp only [List.setIfInBounds_toArray])
                  refine wpAnyH_take (i := 3) (v := (.string T)) rfl (by kernel_rfl) (by kernel_rfl) (by kernel_rfl) (fun _ _ _ h => h) (Or.inl ⟨by rfl, ?yt_4⟩) (by assumption) ?qt_4
                  case yt_4 => (intro w hSw; (try dsimp only at hSw); go_simp)
                  case qt_4 =>
                    (try simp only [Act.put]); (try simp only [List.setIfInBounds_toArray])
                    refine wpAnyH_take (i := 4) (v := (.int .i64 j)) rfl (by kernel_rfl) (by kernel_rfl) (by kernel_rfl) (fun _ _ _ h => h) (Or.inl ⟨by rfl, ?yt_5⟩) (by assumption) ?qt_5
                    case yt_5 => (intro w hSw; (try dsimp only at hSw); go_simp)
                    case qt_5 =>
                      (try simp only [Act.put]); (try simp only [List.setIfInBounds_toArray])
                      refine wpAnyH_take (i := 5) (v := (.bool false)) rfl (by kernel_rfl) (by kernel_rfl) (by kernel_rfl) (fun _ _ _ h => h) (Or.inl ⟨by rfl, ?yt_6⟩) (by assumption) ?qt_6
                      case yt_6 => (intro w hSw; (try dsimp only at hSw); go_simp)
                      case qt_6 =>
                        (try simp only [Act.put]); (try simp only [List.setIfInBounds_toArray])
                        refine wpAnyH_take (i := 6) (v := (.bool false)) rfl (by kernel_rfl) (by kernel_rfl) (by kernel_rfl) (fun _ _ _ h => h) (Or.inl ⟨by rfl, ?yt_7⟩) (by assumption) ?qt_7
                        case yt_7 => (intro w hSw; (try dsimp only at hSw); go_simp)
                        case qt_7 =>
                          (try simp only [Act.put]); (try simp only [List.setIfInBounds_toArray])
                          refine wpAnyH_take (i := 7) (v := undef) rfl (by kernel_rfl) (by kernel_rfl) (by kernel_rfl) (fun _ _ _ h => h) (Or.inr ⟨by simp [Region.wanted, yielded], rfl⟩) (by assumption) ?qt_8
                          case qt_8 =>
                            (try simp only [Act.put]); (try simp only [List.setIfInBounds_toArray])
                            refine wpAnyH_take (i := 8) (v := undef) rfl (by kernel_rfl) (by kernel_rfl) (by kernel_rfl) (fun _ _ _ h => h) (Or.inr ⟨by simp [Region.wanted, yielded], rfl⟩) (by assumption) ?qt_9
                            case qt_9 =>
                              (try simp only [Act.put]); (try simp only [List.setIfInBounds_toArray])
                              refine wpAnyH_take (i := 9) (v := undef) rfl (by kernel_rfl) (by kernel_rfl) (by kernel_rfl) (fun _ _ _ h => h) (Or.inr ⟨by simp [Region.wanted, yielded], rfl⟩) (by assumption) ?qt_10
                              case qt_10 =>
                                (try simp only [Act.put]); (try simp only [List.setIfInBounds_toArray])
                                refine wpAnyH_take (i := 10) (v := (.bool false)) rfl (by kernel_rfl) (by kernel_rfl) (by kernel_rfl) (fun _ _ _ h => h) (Or.inl ⟨by rfl, ?yt_11⟩) (by assumption) ?qt_11
                                case yt_11 => (intro w hSw; (try dsimp only at hSw); go_simp)
                                case qt_11 =>
                                  (try simp only [Act.put]); (try simp only [List.setIfInBounds_toArray])
                                  refine wpAnyH_done (by kernel_rfl) ?_ _
                                  clear hHeld
                                  show wpListIn _ _ _ _ _ _ _ _
                                  refine wide_tail ?hTt _ _ _ ?_
                                  case hTt => (rintro ⟨a', w', h⟩; exact hno _ h)
                                  show wpList _ _ _ _ _ _
                                  clear hno
                                  have hk2 : Hid (KW n₀ n₁ gm X wo.drew) := Lib.hid (HKWr.out.trans hkw0.out)
                                  go_wp2_with (go_at_call 40; refine HCK.out.mono ?_; rintro r2 X2 ⟨b2, pre2, rfl, hws2, hkw2, hend2⟩; have HWS2 := Lib.hid hws2; have HKW2 := Lib.hid (hk2.out.trans hkw2); have HBX2 := Lib.hid (hkw2.blk HN1.out hgx (HBXr.out.drewN 1)); have HEN := Lib.hid hend2; clear hws2 hkw2 hend2; cases b2)
                                  · have HX : Hid (Jx pre2 X2 ∧ ∃ kx, kx < (postT kk ss aa p' (inner kd T e j)).length ∧ pre2 = pre' ++ (postT kk ss aa p' (inner kd T e j)).take (kx + 1)) := Lib.hid (by
                                      rcases HEN.out with ⟨h, _⟩ | ⟨_, h⟩
                                      · cases h
                                      · exact h)
                                    obtain ⟨hx1, kx, hx2, hx3⟩ := HX.out
                                    go_ret
                                    refine ⟨false, pre2, rfl, HWS2.out.mono (by omega), HKW2.out, .inr ⟨rfl, hx1, ?_⟩⟩
                                    refine ⟨pre'.length + kx - pre.length, ?_, ?_⟩
                                    · rw [postT_len] at hx2 ⊢
                                      omega
                                    · rw [hx3]
                                      have hbig : postT kd T a p e = (a.post (p + 1) (inner kd T e)) ++ [(p, kd == 7 && !e.contains T.data.toList)] := rfl
                                      exact prefix_of HPO2.out hx2 hbig (by omega)
                                  · have HX : Hid (pre2 = pre' ++ postT kk ss aa p' (inner kd T e j) ∧ J pre2 X2) := Lib.hid (by
                                      rcases HEN.out with ⟨_, h⟩ | ⟨h, _⟩
                                      · exact h
                                      · cases h)
                                    have HJ2 := Lib.hid HX.out.2
                                    have HP2 : Hid (pre ++ a.post (p + 1) (inner kd T e) = pre2 ++ rr.post (p' + 1 + aa.size) (fun t => inner kd T e (j + 1 + t))) := Lib.hid (by rw [HX.out.1]; exact HPO2.out)
                                    refine ⟨⟨j + 1, rr, p' + 1 + aa.size, pre2, m' + (4 * aa.size + 2 + 2), by omega, by go_num, HDR2, HU3, by omega, HWS2, HJ2, HKW2, HBX2, HP2, by omega⟩, ?_⟩
                                    (simp [intOf]; try omega)
    · obtain rfl : j = n' := by omega
      have HRN : Hid (r = .nil) := Lib.hid (by
        have := HDR.out
        rw [List.drop_of_length_le (by have := HKN.out; omega)] at this
        cases r with
        | nil => rfl
        | cons kk ss ii aa rr => simp [Fo.offs] at this)
      have hr0 := HRN.out
      subst hr0
      have HPO2 : Hid (pre ++ a.post (p + 1) (inner kd T e) = pre') := Lib.hid (by have := HPO.out; simp only [Fo.post, List.append_nil] at this; exact this)
      have hn1w : n₁ ≤ wo.heap.size := Nat.le_of_lt (Nat.lt_of_le_of_lt HN1.out HBXr.out.lt)
      have hn0w : n₀ ≤ wo.heap.size := Nat.le_trans HE.out.h01 hn1w
      have f0 := (HWSr.out.box.cell 2).trans (show _ = some (yv lp) from rfl)
      have f1 := (HWSr.out.box.cell 1).trans (show _ = some (.map (some gm)) from rfl)
      have e0 := (HBXr.out.cell 0).trans (show _ = some (.int .i64 kd) from rfl)
      have e1 := (HBXr.out.cell 1).trans (show _ = some (.string T) from rfl)
      have q3 := (HBXr.out.cell 3).trans (show _ = some (.slice A' j c') from rfl)
      have lkd := (HWSr.out.after (drew1_below wo)).map.look hT
      have hcf := count_free e T.data.toList
      have hcl : e.count T.data.toList ≤ e.length := List.count_le_length
      have hct : e.count T.data.toList ≤ 1000000 := by omega
      have hno : ∀ w, ¬ Walked (some ⟨b, o, none⟩) n c gw gm n₀ n₁ lp J Jx (postT kd T a p e) pre (m + (4 * a.size + 2)) e X .outgrown w := by rintro w ⟨_, _, hc, _⟩; cases hc
      have HPT : Hid (postT kd T a p e = a.post (p + 1) (inner kd T e) ++ [(p, kd == 7 && !e.contains T.data.toList)]) := Lib.hid rfl
      have HPL : Hid ((postT kd T a p e).length = a.size + 1) := Lib.hid (postT_len _ _ _ _ _)
      have HYL : Hid ((a.post (p + 1) (inner kd T e)).length = a.size) := Lib.hid (post_len _ _ _)
      have hk2 : Hid (KW n₀ n₁ gm X wo.drew) := Lib.hid (HKWr.out.trans (KW.after (drew1_below _) hn0w))
      have hgx : X.heap.size ≠ gm := by have := HGM.out; omega
      have HWSd := Lib.hid (HWSr.out.after (drew1_below _))
      have hln := HLN.out
      simp only [Fo.size] at hln hmr
      generalize hfr : (kd == 7 && !e.contains T.data.toList) = free at HPT
      have HY := Lib.hid (HE.out.y pre' (p, free) wo.drew (abides_drew HE.out.hJ HJr.out) (by have := HLEN.out; rw [HPT.out, ← List.append_assoc, HPO2.out] at this; exact this))
      have HFR := Lib.hid hfr
      clear HDR HAT HPO hrs HRN hlt
      by_cases k7 : kd = 7
      · subst k7
        have hfr2 : (!e.contains T.data.toList) = free := by rw [← HFR.out]; rfl
        rw [hfr2] at hcf
        generalize e.count T.data.toList = ct at lkd hcf hct
        clear hfr hfr2 hcl
        go_upto_region 8 with (fail)
        refine wp_region_yield_tail (m := 1) 18 (fun Y => Y.cell? ⟨gw, 2, none⟩ = some (yv lp) ∧ Y.cell? ⟨gw, 1, none⟩ = some (.map (some gm)) ∧ Y.cell? ⟨X.heap.size, 0, none⟩ = some (.int .i64 7) ∧ Y.cell? ⟨X.heap.size, 1, none⟩ = some (.string T) ∧ (Instr.lookup 62 (.map (some gm)) (.string T) false).run Tryd.prog Y = .ok (.int .i64 (ct : Int)) Y) (by kernel_rfl) (by kernel_rfl) ?hNy ?hSy (fun hHeld => ?qy0)
        case hNy => (rintro ⟨a', w', h⟩; exact hno _ h)
        case hSy => exact ⟨f0, f1, e0, e1, lkd⟩
        case qy0 =>
          simp only [List.take_succ_cons, List.take_zero, List.drop_succ_cons, List.drop_zero]
          refine wpAnyH_take (i := 0) (v := (.pointer (some ⟨gw, 0, none⟩))) rfl (by kernel_rfl) (by kernel_rfl) (by kernel_rfl) (fun _ _ _ h => h) (Or.inl ⟨by rfl, ?yy_1⟩) (by assumption) ?qy_1
          case yy_1 => (intro w hSw; (try dsimp only at hSw); go_simp)
          case qy_1 =>
            (try simp only [Act.put]); (try simp only [List.setIfInBounds_toArray])
            refine wpAnyH_take (i := 1) (v := (.pointer (some ⟨gw, 0, none⟩))) rfl (by kernel_rfl) (by kernel_rfl) (by kernel_rfl) (fun _ _ _ h => h) (Or.inl ⟨by rfl, ?yy_2⟩) (by assumption) ?qy_2
            case yy_2 => (intro w hSw; (try dsimp only at hSw); go_simp)
            case qy_2 =>
              (try simp only [Act.put]); (try simp only [List.setIfInBounds_toArray])
              refine wpAnyH_take (i := 2) (v := (.pointer (some ⟨gw, 2, none⟩))) rfl (by kernel_rfl) (by kernel_rfl) (by kernel_rfl) (fun _ _ _ h => h) (Or.inl ⟨by rfl, ?yy_3⟩) (by assumption) ?qy_3
              case yy_3 => (intro w hSw; (try dsimp only at hSw); go_simp)
              case qy_3 =>
                (try simp only [Act.put]); (try simp only [List.setIfInBounds_toArray])
                refine wpAnyH_take (i := 3) (v := (yv lp)) rfl (by kernel_rfl) (by kernel_rfl) (by kernel_rfl) (fun _ _ _ h => h) (Or.inl ⟨by rfl, ?yy_4⟩) (by assumption) ?qy_4
                case yy_4 => (intro w hSw; (try dsimp only at hSw); go_simp)
                case qy_4 =>
                  (try simp only [Act.put]); (try simp only [List.setIfInBounds_toArray])
                  refine wpAnyH_take (i := 4) (v := (.int .i64 p)) rfl (by kernel_rfl) (by kernel_rfl) (by kernel_rfl) (fun _ _ _ h => h) (Or.inl ⟨by rfl, ?yy_5⟩) (by assumption) ?qy_5
                  case yy_5 => (intro w hSw; (try dsimp only at hSw); go_simp)
                  case qy_5 =>
                    (try simp only [Act.put]); (try simp only [List.setIfInBounds_toArray])
                    refine wpAnyH_take (i := 5) (v := (.pointer (some ⟨X.heap.size, 0, none⟩))) rfl (by kernel_rfl) (by kernel_rfl) (by kernel_rfl) (fun _ _ _ h => h) (Or.inl ⟨by rfl, ?yy_6⟩) (by assumption) ?qy_6
                    case yy_6 => (intro w hSw; (try dsimp only at hSw); go_simp)
                    case qy_6 =>
                      (try simp only [Act.put]); (try simp only [List.setIfInBounds_toArray])
                      refine wpAnyH_take (i := 6) (v := (.int .i64 7)) rfl (by kernel_rfl) (by kernel_rfl) (by kernel_rfl) (fun _ _ _ h => h) (Or.inl ⟨by rfl, ?yy_7⟩) (by assumption) ?qy_7
                      case yy_7 => (intro w hSw; (try dsimp only at hSw); go_simp)
                      case qy_7 =>
                        (try simp only [Act.put]); (try simp only [List.setIfInBounds_toArray])
                        refine wpAnyH_take (i := 7) (v := (.bool true)) rfl (by kernel_rfl) (by kernel_rfl) (by kernel_rfl) (fun _ _ _ h => h) (Or.inl ⟨by rfl, ?yy_8⟩) (by assumption) ?qy_8
                        case yy_8 => (intro w hSw; (try dsimp only at hSw); go_simp)
                        case qy_8 =>
                          (try simp only [Act.put]); (try simp only [List.setIfInBounds_toArray])
                          refine wpAnyH_take (i := 8) (v := (.bool true)) rfl (by kernel_rfl) (by kernel_rfl) (by kernel_rfl) (fun _ _ _ h => h) (Or.inl ⟨by rfl, ?yy_9⟩) (by assumption) ?qy_9
                          case yy_9 => (intro w hSw; (try dsimp only at hSw); go_simp)
                          case qy_9 =>
                            (try simp only [Act.put]); (try simp only [List.setIfInBounds_toArray])
                            refine wpAnyH_take (i := 9) (v := (.pointer (some ⟨gw, 0, none⟩))) rfl (by kernel_rfl) (by kernel_rfl) (by kernel_rfl) (fun _ _ _ h => h) (Or.inl ⟨by simp [Region.wanted, yielded], ?yy_10⟩) (by assumption) ?qy_10
                            case yy_10 => (intro w hSw; (try dsimp only at hSw); go_simp)
                            case qy_10 =>
                              (try simp only [Act.put]); (try simp only [List.setIfInBounds_toArray])
                              refine wpAnyH_take (i := 10) (v := (.pointer (some ⟨gw, 0, none⟩))) rfl (by kernel_rfl) (by kernel_rfl) (by kernel_rfl) (fun _ _ _ h => h) (Or.inl ⟨by simp [Region.wanted, yielded], ?yy_11⟩) (by assumption) ?qy_11
                              case yy_11 => (intro w hSw; (try dsimp only at hSw); go_simp)
                              case qy_11 =>
                                (try simp only [Act.put]); (try simp only [List.setIfInBounds_toArray])
                                refine wpAnyH_take (i := 11) (v := (.pointer (some ⟨gw, 1, none⟩))) rfl (by kernel_rfl) (by kernel_rfl) (by kernel_rfl) (fun _ _ _ h => h) (Or.inl ⟨by simp [Region.wanted, yielded], ?yy_12⟩) (by assumption) ?qy_12
                                case yy_12 => (intro w hSw; (try dsimp only at hSw); go_simp)
                                case qy_12 =>
                                  (try simp only [Act.put]); (try simp only [List.setIfInBounds_toArray])
                                  refine wpAnyH_take (i := 12) (v := (.map (some gm))) rfl (by kernel_rfl) (by kernel_rfl) (by kernel_rfl) (fun _ _ _ h => h) (Or.inl ⟨by simp [Region.wanted, yielded], ?yy_13⟩) (by assumption) ?qy_13
                                  case yy_13 => (intro w hSw; (try dsimp only at hSw); go_simp)
                                  case qy_13 =>
                                    (try simp only [Act.put]); (try simp only [List.setIfInBounds_toArray])
                                    refine wpAnyH_take (i := 13) (v := (.pointer (some ⟨X.heap.size, 1, none⟩))) rfl (by kernel_rfl) (by kernel_rfl) (by kernel_rfl) (fun _ _ _ h => h) (Or.inl ⟨by simp [Region.wanted, yielded], ?yy_14⟩) (by assumption) ?qy_14
                                    case yy_14 => (intro w hSw; (try dsimp only at hSw); go_simp)
                                    case qy_14 =>
                                      (try simp only [Act.put]); (try simp only [List.setIfInBounds_toArray])
                                      refine wpAnyH_take (i := 14) (v := (.string T)) rfl (by kernel_rfl) (by kernel_rfl) (by kernel_rfl) (fun _ _ _ h => h) (Or.inl ⟨by simp [Region.wanted, yielded], ?yy_15⟩) (by assumption) ?qy_15
                                      case yy_15 => (intro w hSw; (try dsimp only at hSw); go_simp)
                                      case qy_15 =>
                                        (try simp only [Act.put]); (try simp only [List.setIfInBounds_toArray])
                                        refine wpAnyH_take (i := 15) (v := (.int .i64 (ct : Int))) rfl (by kernel_rfl) (by kernel_rfl) (by kernel_rfl) (fun _ _ _ h => h) (Or.inl ⟨by simp [Region.wanted, yielded], ?yy_16⟩) (by assumption) ?qy_16
                                        case yy_16 => (intro w hSw; (try dsimp only at hSw); go_simp)
                                        case qy_16 =>
                                          (try simp only [Act.put]); (try simp only [List.setIfInBounds_toArray])
                                          refine wpAnyH_take (i := 16) (v := (.bool free)) rfl (by kernel_rfl) (by kernel_rfl) (by kernel_rfl) (fun _ _ _ h => h) (Or.inl ⟨by simp [Region.wanted, yielded], ?yy_17⟩) (by assumption) ?qy_17
                                          case yy_17 => (intro w hSw; (try dsimp only at hSw); go_simp)
                                          case qy_17 =>
                                            (try simp only [Act.put]); (try simp only [List.setIfInBounds_toArray])
                                            refine wpAnyH_take (i := 17) (v := (.bool free)) rfl (by kernel_rfl) (by kernel_rfl) (by kernel_rfl) (fun _ _ _ h => h) (Or.inl ⟨by rfl, ?yy_18⟩) (by assumption) ?qy_18
                                            case yy_18 => (intro w hSw; (try dsimp only at hSw); go_simp)
                                            case qy_18 =>
                                              (try simp only [Act.put]); (try simp only [List.setIfInBounds_toArray])
                                              refine wpAnyH_done (by kernel_rfl) ?_ _
                                              clear hHeld
                                              show wpListIn _ _ _ _ _ _ _ _
                                              refine wpListIn_yield rfl (fun fn tmps asg bdy h9 => ?hYy) HY.out (fun r9 w9 h9 => ?hZy)
                                              case hYy => (unfold yv; simp [go_sem, h9])
                                              case hZy =>
                                                rcases h9 with ⟨rfl, hj9, hk9⟩ | ⟨rfl, hj9, hk9⟩
                                                · have HWS9 := Lib.hid (HWSd.out.kept hk9 HE.out.hgw HE.out.hgm)
                                                  have HKW9 := Lib.hid (hk2.out.trans hk9.kw)
                                                  have HJ9 := Lib.hid hj9
                                                  clear hj9 hk9 f0 f1 e0 e1 lkd q3
                                                  refine ⟨_, rfl, wide_tail (by rintro ⟨a', w', h⟩; exact hno _ h) _ _ _ ?_⟩
                                                  show wpList _ _ _ _ _ _
                                                  go_wp2_with fail
                                                  go_ret
                                                  exact ⟨true, pre' ++ [(p, free)], rfl, HWS9.out.mono (by omega), HKW9.out, .inl ⟨rfl, by rw [HPT.out, ← List.append_assoc, HPO2.out], HJ9.out⟩⟩
                                                · have HWS9 := Lib.hid (HWSd.out.kept hk9 HE.out.hgw HE.out.hgm)
                                                  have HKW9 := Lib.hid (hk2.out.trans hk9.kw)
                                                  have HJ9 := Lib.hid hj9
                                                  clear hj9 hk9 f0 f1 e0 e1 lkd q3
                                                  refine ⟨_, rfl, wide_tail (by rintro ⟨a', w', h⟩; exact hno _ h) _ _ _ ?_⟩
                                                  show wpList _ _ _ _ _ _
                                                  go_wp2_with fail
                                                  go_ret
                                                  exact ⟨false, pre' ++ [(p, free)], rfl, HWS9.out.mono (by omega), HKW9.out, .inr ⟨rfl, HJ9.out, a.size, by rw [HPL.out]; omega, by rw [List.take_of_length_le (by rw [HPL.out]; exact Nat.le_refl _), HPT.out, ← List.append_assoc, HPO2.out]⟩⟩
      · have b7 : (kd == 7) = false := by rw [beq_eq_false_iff_ne]; exact k7
        have hfr2 : free = false := by rw [← HFR.out, b7]; rfl
        subst hfr2
        generalize e.count T.data.toList = ct at lkd hct
        clear hfr hcf hcl k7
        go_upto_region 8 with (fail)
        refine wp_region_yield_tail (m := 1) 18 (fun Y => Y.cell? ⟨gw, 2, none⟩ = some (yv lp) ∧ Y.cell? ⟨gw, 1, none⟩ = some (.map (some gm)) ∧ Y.cell? ⟨X.heap.size, 0, none⟩ = some (.int .i64 kd) ∧ Y.cell? ⟨X.heap.size, 1, none⟩ = some (.string T) ∧ (Instr.lookup 62 (.map (some gm)) (.string T) false).run Tryd.prog Y = .ok (.int .i64 (ct : Int)) Y) (by kernel_rfl) (by kernel_rfl) ?hNz ?hSz (fun hHeld => ?qz0)
        case hNz => (rintro ⟨a', w', h⟩; exact hno _ h)
        case hSz => exact ⟨f0, f1, e0, e1, lkd⟩
        case qz0 =>
          simp only [List.take_succ_cons, List.take_zero, List.drop_succ_cons, List.drop_zero]
          refine wpAnyH_take (i := 0) (v := (.pointer (some ⟨gw, 0, none⟩))) rfl (by kernel_rfl) (by kernel_rfl) (by kernel_rfl) (fun _ _ _ h => h) (Or.inl ⟨by rfl, ?yz_1⟩) (by assumption) ?qz_1
          case yz_1 => (intro w hSw; (try dsimp only at hSw); go_simp)
          case qz_1 =>
            (try simp only [Act.put]); (try simp only [List.setIfInBounds_toArray])
            refine wpAnyH_take (i := 1) (v := (.pointer (some ⟨gw, 0, none⟩))) rfl (by kernel_rfl) (by kernel_rfl) (by kernel_rfl) (fun _ _ _ h => h) (Or.inl ⟨by rfl, ?yz_2⟩) (by assumption) ?qz_2
            case yz_2 => (intro w hSw; (try dsimp only at hSw); go_simp)
            case qz_2 =>
              (try simp only [Act.put]); (try simp only [List.setIfInBounds_toArray])
              refine wpAnyH_take (i := 2) (v := (.pointer (some ⟨gw, 2, none⟩))) rfl (by kernel_rfl) (by kernel_rfl) (by kernel_rfl) (fun _ _ _ h => h) (Or.inl ⟨by rfl, ?yz_3⟩) (by assumption) ?qz_3
              case yz_3 => (intro w hSw; (try dsimp only at hSw); go_simp)
              case qz_3 =>
                (try simp only [Act.put]); (try simp only [List.setIfInBounds_toArray])
                refine wpAnyH_take (i := 3) (v := (yv lp)) rfl (by kernel_rfl) (by kernel_rfl) (by kernel_rfl) (fun _ _ _ h => h) (Or.inl ⟨by rfl, ?yz_4⟩) (by assumption) ?qz_4
                case yz_4 => (intro w hSw; (try dsimp only at hSw); go_simp)
                case qz_4 =>
                  (try simp only [Act.put]); (try simp only [List.setIfInBounds_toArray])
                  refine wpAnyH_take (i := 4) (v := (.int .i64 p)) rfl (by kernel_rfl) (by kernel_rfl) (by kernel_rfl) (fun _ _ _ h => h) (Or.inl ⟨by rfl, ?yz_5⟩) (by assumption) ?qz_5
                  case yz_5 => (intro w hSw; (try dsimp only at hSw); go_simp)
                  case qz_5 =>
                    (try simp only [Act.put]); (try simp only [List.setIfInBounds_toArray])
                    refine wpAnyH_take (i := 5) (v := (.pointer (some ⟨X.heap.size, 0, none⟩))) rfl (by kernel_rfl) (by kernel_rfl) (by kernel_rfl) (fun _ _ _ h => h) (Or.inl ⟨by rfl, ?yz_6⟩) (by assumption) ?qz_6
                    case yz_6 => (intro w hSw; (try dsimp only at hSw); go_simp)
                    case qz_6 =>
                      (try simp only [Act.put]); (try simp only [List.setIfInBounds_toArray])
                      refine wpAnyH_take (i := 6) (v := (.int .i64 kd)) rfl (by kernel_rfl) (by kernel_rfl) (by kernel_rfl) (fun _ _ _ h => h) (Or.inl ⟨by rfl, ?yz_7⟩) (by assumption) ?qz_7
                      case yz_7 => (intro w hSw; (try dsimp only at hSw); go_simp)
                      case qz_7 =>
                        (try simp only [Act.put]); (try simp only [List.setIfInBounds_toArray])
                        refine wpAnyH_take (i := 7) (v := (.bool false)) rfl (by kernel_rfl) (by kernel_rfl) (by kernel_rfl) (fun _ _ _ h => h) (Or.inl ⟨by rfl, ?yz_8⟩) (by assumption) ?qz_8
                        case yz_8 => (intro w hSw; (try dsimp only at hSw); go_simp)
                        case qz_8 =>
                          (try simp only [Act.put]); (try simp only [List.setIfInBounds_toArray])
                          refine wpAnyH_take (i := 8) (v := (.bool false)) rfl (by kernel_rfl) (by kernel_rfl) (by kernel_rfl) (fun _ _ _ h => h) (Or.inl ⟨by rfl, ?yz_9⟩) (by assumption) ?qz_9
                          case yz_9 => (intro w hSw; (try dsimp only at hSw); go_simp)
                          case qz_9 =>
                            (try simp only [Act.put]); (try simp only [List.setIfInBounds_toArray])
                            refine wpAnyH_take (i := 9) (v := undef) rfl (by kernel_rfl) (by kernel_rfl) (by kernel_rfl) (fun _ _ _ h => h) (Or.inr ⟨by simp [Region.wanted, yielded], rfl⟩) (by assumption) ?qz_10
                            case qz_10 =>
                              (try simp only [Act.put]); (try simp only [List.setIfInBounds_toArray])
                              refine wpAnyH_take (i := 10) (v := undef) rfl (by kernel_rfl) (by kernel_rfl) (by kernel_rfl) (fun _ _ _ h => h) (Or.inr ⟨by simp [Region.wanted, yielded], rfl⟩) (by assumption) ?qz_11
                              case qz_11 =>
                                (try simp only [Act.put]); (try simp only [List.setIfInBounds_toArray])
                                refine wpAnyH_take (i := 11) (v := undef) rfl (by kernel_rfl) (by kernel_rfl) (by kernel_rfl) (fun _ _ _ h => h) (Or.inr ⟨by simp [Region.wanted, yielded], rfl⟩) (by assumption) ?qz_12
                                case qz_12 =>
                                  (try simp only [Act.put]); (try simp only [List.setIfInBounds_toArray])
                                  refine wpAnyH_take (i := 12) (v := undef) rfl (by kernel_rfl) (by kernel_rfl) (by kernel_rfl) (fun _ _ _ h => h) (Or.inr ⟨by simp [Region.wanted, yielded], rfl⟩) (by assumption) ?qz_13
                                  case qz_13 =>
                                    (try simp only [Act.put]); (try simp only [List.setIfInBounds_toArray])
                                    refine wpAnyH_take (i := 13) (v := undef) rfl (by kernel_rfl) (by kernel_rfl) (by kernel_rfl) (fun _ _ _ h => h) (Or.inr ⟨by simp [Region.wanted, yielded], rfl⟩) (by assumption) ?qz_14
                                    case qz_14 =>
                                      (try simp only [Act.put]); (try simp only [List.setIfInBounds_toArray])
                                      refine wpAnyH_take (i := 14) (v := undef) rfl (by kernel_rfl) (by kernel_rfl) (by kernel_rfl) (fun _ _ _ h => h) (Or.inr ⟨by simp [Region.wanted, yielded], rfl⟩) (by assumption) ?qz_15
                                      case qz_15 =>
                                        (try simp only [Act.put]); (try simp only [List.setIfInBounds_toArray])
                                        refine wpAnyH_take (i := 15) (v := undef) rfl (by kernel_rfl) (by kernel_rfl) (by kernel_rfl) (fun _ _ _ h => h) (Or.inr ⟨by simp [Region.wanted, yielded], rfl⟩) (by assumption) ?qz_16
                                        case qz_16 =>
                                          (try simp only [Act.put]); (try simp only [List.setIfInBounds_toArray])
                                          refine wpAnyH_take (i := 16) (v := undef) rfl (by kernel_rfl) (by kernel_rfl) (by kernel_rfl) (fun _ _ _ h => h) (Or.inr ⟨by simp [Region.wanted, yielded], rfl⟩) (by assumption) ?qz_17
                                          case qz_17 =>
                                            (try simp only [Act.put]); (try simp only [List.setIfInBounds_toArray])
                                            refine wpAnyH_take (i := 17) (v := (.bool false)) rfl (by kernel_rfl) (by kernel_rfl) (by kernel_rfl) (fun _ _ _ h => h) (Or.inl ⟨by rfl, ?yz_18⟩) (by assumption) ?qz_18
                                            case yz_18 => (intro w hSw; (try dsimp only at hSw); go_simp)
                                            case qz_18 =>
                                              (try simp only [Act.put]); (try simp only [List.setIfInBounds_toArray])
                                              refine wpAnyH_done (by kernel_rfl) ?_ _
                                              clear hHeld
                                              show wpListIn _ _ _ _ _ _ _ _
                                              refine wpListIn_yield rfl (fun fn tmps asg bdy h9 => ?hYz) HY.out (fun r9 w9 h9 => ?hZz)
                                              case hYz => (unfold yv; simp [go_sem, h9])
                                              case hZz =>
                                                rcases h9 with ⟨rfl, hj9, hk9⟩ | ⟨rfl, hj9, hk9⟩
                                                · have HWS9 := Lib.hid (HWSd.out.kept hk9 HE.out.hgw HE.out.hgm)
                                                  have HKW9 := Lib.hid (hk2.out.trans hk9.kw)
                                                  have HJ9 := Lib.hid hj9
                                                  clear hj9 hk9 f0 f1 e0 e1 lkd q3
                                                  refine ⟨_, rfl, wide_tail (by rintro ⟨a', w', h⟩; exact hno _ h) _ _ _ ?_⟩
                                                  show wpList _ _ _ _ _ _
                                                  go_wp2_with fail
                                                  go_ret
                                                  exact ⟨true, pre' ++ [(p, false)], rfl, HWS9.out.mono (by omega), HKW9.out, .inl ⟨rfl, by rw [HPT.out, ← List.append_assoc, HPO2.out], HJ9.out⟩⟩
                                                · have HWS9 := Lib.hid (HWSd.out.kept hk9 HE.out.hgw HE.out.hgm)
                                                  have HKW9 := Lib.hid (hk2.out.trans hk9.kw)
                                                  have HJ9 := Lib.hid hj9
                                                  clear hj9 hk9 f0 f1 e0 e1 lkd q3
                                                  refine ⟨_, rfl, wide_tail (by rintro ⟨a', w', h⟩; exact hno _ h) _ _ _ ?_⟩
                                                  show wpList _ _ _ _ _ _
                                                  go_wp2_with fail
                                                  go_ret
                                                  exact ⟨false, pre' ++ [(p, false)], rfl, HWS9.out.mono (by omega), HKW9.out, .inr ⟨rfl, HJ9.out, a.size, by rw [HPL.out]; omega, by rw [List.take_of_length_le (by rw [HPL.out]; exact Nat.le_refl _), HPT.out, ← List.append_assoc, HPO2.out]⟩⟩
end Go.Proofs.YtjlpoigcalfdlaaDoor

/-
  WALKS: how deep a node stands, the program's and the document's.
  WALKS: the program's search for a place among a parent's kids.
  WALKS: the document's: a node's kids in a role; the place ahead of which a place of a role is.
  WALKS: the roots; document order, what is below a node, who refers to it, as the program tells them.
  WALKS: the document's: a model in memory of its own.
-/
import Derived.Test.YtfljndlmafcjeaaZ9
namespace Go.Proofs.Ytfljndlmafcjeaa
open Go Go.RowKit Go.Sort
set_option linter.unusedVariables false
attribute [local go_sem ↓] Go.wp_at_zero Go.wp_at_succ
/-- the box of a model -/
structure M1 (w : World) (next : Int) (A : Option Addr) (n c : Nat) (wr : World) : Prop where
  a : Blk wr w.heap.size 24 #[.int .i64 next, .slice A n c]
  bel : Below w.heap.size w wr
theorem M1.start (w : World) (next : Int) (A : Option Addr) (n c : Nat) : M1 w next A n c (w.alloc (.cells #[.int .i64 next, .slice A n c] 24)) := ⟨Blk.new _ _ _, below_more (Below.refl _ _) _⟩
theorem M1.after {w X X' : World} {next : Int} {A : Option Addr} {n c : Nat} (h : M1 w next A n c X) (hb : Below X.heap.size X X') : M1 w next A n c X' := ⟨h.a.after hb, h.bel.trans (hb.mono h.bel.size)⟩
theorem ixOf_of_ndOf {nds : List Nd} {id : Int} {nd : Nd} (h : ndOf nds id = some nd) : ∃ i, ixOf nds id = some i ∧ nds[i]? = some nd := by
  obtain ⟨i, h1, h2, _⟩ := ndOf_some h
  exact ⟨i, h1, h2⟩
set_option maxRecDepth 20000 in
set_option maxHeartbeats 1600000 in
theorem depth_any (w : World) (hi : Nat) (next id : Int) (A : Option Addr) (n c : Nat) (nds : List Nd) (h : NodesIn w 0 hi A n c nds) (hh : hi ≤ w.heap.size) (hr : Rise nds) (hn : n ≤ 4096) (K : Nat) (hK : DepthIs nds id K) (hK6 : K ≤ 65) :
    Calls Try.prog 54 #[.agg #[.int .i64 next, .slice A n c], .int .i64 id] w (Ret w (.int .i64 K)) := by
  have hc := h.2.2.1
  have hnc := h.2.1
  have HL := Lib.hid h.1
  unfold maxLen at hc
  have HM0 := Lib.hid (M1.start w next A n c)
  go_enter Try.func54, Try.ntmps54
  go_wp2_with fail
  go_loopw [1, 5] (fun x d wr => ∃ (k : Nat) (y : Int), k ≤ K ∧ x = .int .i64 y ∧ d = .int .i64 k ∧ Hid (y = upI nds id k) ∧ M1 w next A n c wr) (fun _ d _ => K - (intOf d).toNat)
  case atStart => exact ⟨0, id, Nat.zero_le _, rfl, rfl, Lib.hid rfl, HM0.out⟩
  case round =>
    clear HM0
    obtain ⟨k, y, hk, rfl, rfl, HY, M⟩ := hrel
    have c0 := M.a.cell 0
    have c1 := M.a.cell 1
    simp at c0 c1
    have HM := Lib.hid M
    clear M
    by_cases hlt : k < K
    · obtain ⟨h0, nd, hnd⟩ := hK.way k hlt
      rw [← HY.out] at h0 hnd
      obtain ⟨i, hix, hgi⟩ := ixOf_of_ndOf hnd
      have hin := ixOf_lt hix
      rw [HL.out] at hin
      obtain ⟨b, o, hA, _, hb, V, hV⟩ := h.all (by omega)
      have hat := ((hV i nd hgi).1.below HM.out.bel (by omega)).c2
      subst hA
      have HNo := Lib.hid (node_any _ hi next y _ n c nds (h.below (HM.out.bel.mono hh)) (Nat.le_trans hh HM.out.bel.size) hr hn (.pointer (some ⟨b, o + i * 7, none⟩)) (by rw [hix]; exact ⟨b, o, rfl, rfl⟩))
      have d0 : (y != 0) = true := by rw [bne_iff_ne]; exact h0
      have hup : nd.par = upI nds id (k + 1) := by rw [upI_succ (by rw [← HY.out]; exact hnd)]
      have HUP := Lib.hid hup
      rename World => wr
      have hbr : b < wr.heap.size := by have := HM.out.bel.size; omega
      have HAT := Lib.hid hat
      clear hV hix hgi hnd h0 hup hat
      go_wp2_with (go_at_call 52; go_must (refine HNo.out.mono ?_; rintro e w2 ⟨rfl, hb2⟩; have ha2 := (hb2.cell (p := ⟨b, _, none⟩) hbr).trans HAT.out; have HM2 := Lib.hid (HM.out.after hb2); clear hb2))
      go_roundw
      case measure => simp only [intOf]; omega
      case rel => exact ⟨k + 1, nd.par, by omega, rfl, by simp, HUP, HM2.out⟩
    · have hkk : k = K := by omega
      subst hkk
      have hy : y = 0 := by rw [HY.out]; exact hK.top
      subst hy
      clear h hK
      go_wp2_with fail
      go_ret
      exact ret_mk rfl HM.out.bel
set_option maxRecDepth 20000 in
set_option maxHeartbeats 1600000 in
theorem refDepth_any (w : World) (hi : Nat) (next id : Int) (A : Option Addr) (n c : Nat) (nds : List Nd) (h : NodesIn w 0 hi A n c nds) (hh : hi ≤ w.heap.size) (hr : Rise nds) (hn : n ≤ 4096) (K : Nat) (hK : DepthIs nds id K) (hK6 : K ≤ 65) :
    Calls Try.prog 58 #[.agg #[.int .i64 next, .slice A n c], .int .i64 id] w (Ret w (.int .i64 K)) := by
  have hc := h.2.2.1
  have hnc := h.2.1
  have HL := Lib.hid h.1
  unfold maxLen at hc
  have HM0 := Lib.hid (M1.start w next A n c)
  go_enter Try.func58, Try.ntmps58
  go_wp2_with fail
  go_loopw [1, 5] (fun x d wr => ∃ (k : Nat) (y : Int), k ≤ K ∧ x = .int .i64 y ∧ d = .int .i64 k ∧ Hid (y = upI nds id k) ∧ M1 w next A n c wr) (fun _ d _ => K - (intOf d).toNat)
  case atStart => exact ⟨0, id, Nat.zero_le _, rfl, rfl, Lib.hid rfl, HM0.out⟩
  case round =>
    clear HM0
    obtain ⟨k, y, hk, rfl, rfl, HY, M⟩ := hrel
    have HM := Lib.hid M
    clear M
    by_cases hlt : k < K
    · obtain ⟨h0, nd, hnd⟩ := hK.way k hlt
      rw [← HY.out] at h0 hnd
      obtain ⟨i, hix, hgi⟩ := ixOf_of_ndOf hnd
      have hin := ixOf_lt hix
      rw [HL.out] at hin
      obtain ⟨b, o, hA, _, hb, V, hV⟩ := h.all (by omega)
      have hat := ((hV i nd hgi).1.below HM.out.bel (by omega)).c2
      subst hA
      have hav : atV nds y = i := by unfold atV; rw [hix]
      rename World => wr
      have HAt : Hid (∀ d os, Calls Try.prog 26 #[.agg #[.int .i64 next, .slice (some ⟨b, o, none⟩) n c], .int .i64 y] (grow (redrawn wr d) os) (Ret (grow (redrawn wr d) os) (.int .i64 i))) := Lib.hid fun d os => by
        have hz := HM.out.bel.trans ((below_regrown wr d os).mono HM.out.bel.size)
        rw [← hav]
        exact refAt_any _ hi next y _ n c nds (h.below (hz.mono hh)) (Nat.le_trans hh hz.size) hr hn
      have q0 := cell_regrown ((HM.out.a.cell 0).trans (show _ = some (.int .i64 next) from rfl))
      have q1 := cell_regrown ((HM.out.a.cell 1).trans (show _ = some (.slice (some ⟨b, o, none⟩) n c) from rfl))
      have q2 := cell_regrown hat
      have d0 : (y != 0) = true := by rw [bne_iff_ne]; exact h0
      have HUP : Hid (nd.par = upI nds id (k + 1)) := Lib.hid (by rw [upI_succ (by rw [← HY.out]; exact hnd)])
      clear hV hix hgi hnd h0 hat hav
      go_wp2_with fail
      refine wp_region_quiet_below (by kernel_rfl) (by kernel_rfl) ?_
      repeat (go_big_quiet_step ((go_at_call 26; exact regrown_ret (HAt.out _ _))))
      refine wpQuiet_nil ?_
      intro _ hw'
      obtain ⟨⟨dq, osq⟩, hw''⟩ := hw'
      subst hw''
      have HM2 := Lib.hid (HM.out.after (below_regrown wr dq osq))
      generalize grow (redrawn wr dq) osq = w2 at HM2 ⊢
      clear q0 q1 q2
      go_wp2_with fail
      go_roundw
      case measure => simp only [intOf]; omega
      case rel => exact ⟨k + 1, nd.par, by omega, by simp, rfl, HUP, HM2.out⟩
    · have hkk : k = K := by omega
      subst hkk
      have hy : y = 0 := by rw [HY.out]; exact hK.top
      subst hy
      clear h hK
      go_wp2_with fail
      go_ret
      exact ret_mk rfl HM.out.bel
end Go.Proofs.Ytfljndlmafcjeaa
namespace Go.Proofs.Ytfljndlmafcjeaa
open Go Go.RowKit Go.Sort
set_option linter.unusedVariables false
attribute [local go_sem ↓] Go.wp_at_zero Go.wp_at_succ
/-- is a node's role that one? -/
def inRoleB (nds : List Nd) (role : ByteArray) (k : Int) : Bool := match ndOf nds k with
  | some x => x.role.toList == role.toList
  | none => false
/-- the boxes of a spot and of a model -/
structure SM (w : World) (parent : Int) (role : ByteArray) (at_ next : Int) (A : Option Addr) (n c : Nat) (wr : World) : Prop where
  s : Blk wr w.heap.size 51 #[.int .i64 parent, .string role, .int .i64 at_]
  m : Blk wr (w.heap.size + 1) 24 #[.int .i64 next, .slice A n c]
  bel : Below w.heap.size w wr
section
variable {w wr w' : World} {parent at_ next : Int} {role : ByteArray} {A : Option Addr} {n c : Nat}
theorem SM.start (w : World) (parent : Int) (role : ByteArray) (at_ next : Int) (A : Option Addr) (n c : Nat) : SM w parent role at_ next A n c ((w.alloc (.cells #[.int .i64 parent, .string role, .int .i64 at_] 51)).alloc (.cells #[.int .i64 next, .slice A n c] 24)) :=
  ⟨(Blk.new _ _ _).alloc _, Blk.new' (by simp), below_more (below_more (Below.refl _ _) _) _⟩
theorem SM.after (h : SM w parent role at_ next A n c wr) (hb : Below wr.heap.size wr w') : SM w parent role at_ next A n c w' := ⟨h.s.after hb, h.m.after hb, h.bel.trans (hb.mono h.bel.size)⟩
end
set_option maxRecDepth 20000 in
set_option maxHeartbeats 1600000 in
theorem among_root (w : World) (next at_ : Int) (role : ByteArray) (A : Option Addr) (n c : Nat) (v : Bool) (hv : (role.toList.isEmpty && at_ == 0) = v) :
    Calls Try.prog 53 #[.agg #[.int .i64 0, .string role, .int .i64 at_], .agg #[.int .i64 next, .slice A n c]] w (Ret w (.tuple #[.int .i64 0, .bool v])) := by
  have HM0 := Lib.hid (SM.start w 0 role at_ next A n c)
  have HV := Lib.hid hv
  cases d1 : role.toList.isEmpty with
  | true =>
    have HX : Hid ((at_ == 0) = v) := Lib.hid (by rw [← hv, d1]; rfl)
    have d2 : (role.toList == ([] : List UInt8)) = true := by rw [beq_iff_eq]; exact List.isEmpty_iff.1 d1
    clear hv HV d1
    go_enter Try.func53, Try.ntmps53
    go_wp2_with fail
    go_quiet (fail)
    go_wp2_with fail
    go_ret2
    obtain rfl := HX.out
    exact ret_mk rfl (below_drewN HM0.out.bel _)
  | false =>
    have HX : Hid (v = false) := Lib.hid (by rw [← hv, d1]; rfl)
    have d2 : (role.toList == ([] : List UInt8)) = false := by rw [beq_eq_false_iff_ne]; intro e; rw [e] at d1; cases d1
    clear hv HV d1
    go_enter Try.func53, Try.ntmps53
    go_wp2_with fail
    go_quiet (fail)
    go_wp2_with fail
    go_ret2
    obtain rfl := HX.out
    exact ret_mk rfl (below_drewN HM0.out.bel _)
set_option maxRecDepth 20000 in
set_option maxHeartbeats 3200000 in
theorem among_any (w : World) (hi : Nat) (next parent at_ : Int) (role : ByteArray) (A : Option Addr) (n c : Nat) (nds : List Nd) (h : NodesIn w 0 hi A n c nds) (hh : hi ≤ w.heap.size)
    (nd : Nd) (hr : KOk nds nd) (hnd : ndOf nds parent = some nd) (h0 : parent ≠ 0) (r : Int × Bool) (hrr : amongF (inRoleB nds role) at_ 0 nd.kids.length 0 nd.kids = r) :
    Calls Try.prog 53 #[.agg #[.int .i64 parent, .string role, .int .i64 at_], .agg #[.int .i64 next, .slice A n c]] w (Ret w (.tuple #[.int .i64 r.1, .bool r.2])) := by
  have hc := h.2.2.1
  have hnc := h.2.1
  have HL := Lib.hid h.1
  have hn : n ≤ 4096 := by rw [← h.1]; exact hr.len
  unfold maxLen at hc
  obtain ⟨i, hix, hgi⟩ := ixOf_of_ndOf hnd
  have hin := ixOf_lt hix
  rw [HL.out] at hin
  have hkl := hr.kl
  have hkids := hr.kids
  obtain ⟨b, o, hA, _, hb, V, hV⟩ := h.all (by omega)
  have hat0 := (hV i nd hgi).1.c5
  have hlf := (hV i nd hgi).2
  generalize V i = L at hat0 hlf
  obtain ⟨_, ⟨Ak, nk, ck⟩, _⟩ := L
  have hkn : nk = nd.kids.length := hlf.kn
  have hrow := hlf.k
  simp only at hat0 hrow
  subst hA
  have hnk := hrow.2.1
  have hck := hrow.2.2.1
  unfold maxLen at hck
  have HM0 := Lib.hid (SM.start w parent role at_ next (some ⟨b, o, none⟩) n c)
  have hat : ∀ X, Below w.heap.size w X → X.cell? ⟨b, o + i * 7 + 5, none⟩ = some (.slice Ak nk ck) := fun X hX => (hX.cell (p := ⟨b, _, none⟩) (Nat.lt_of_lt_of_le hb hh)).trans hat0
  have HAT := Lib.hid hat
  have HNo := Lib.hid (node_any _ hi next parent _ n c nds (h.below (HM0.out.bel.mono hh)) (Nat.le_trans hh HM0.out.bel.size) hr.rise hn (.pointer (some ⟨b, o + i * 7, none⟩)) (by rw [hix]; exact ⟨b, o, rfl, rfl⟩))
  have d0 : (parent == 0) = false := by rw [beq_eq_false_iff_ne]; exact h0
  have HROW := Lib.hid hrow
  have HKN := Lib.hid hkn
  have HR := Lib.hid hrr
  have HKS := Lib.hid hkids
  have hnk4 : nk ≤ 4096 := by omega
  clear hat0 hlf hat hrow hkn hrr hkids hnd hix hgi h0
  go_enter Try.func53, Try.ntmps53
  go_wp2_with (go_at_call 52; go_must (refine HNo.out.mono ?_; rintro e w2 ⟨rfl, hb2⟩; have hm2 := HM0.out.after hb2; have ha2 := HAT.out w2 hm2.bel; have HM2 := Lib.hid hm2; clear hb2 hm2))
  go_loopw [7, 8, 9, 10, 33] (fun v7 v8 v9 v10 v33 wr => ∃ (j behind places : Nat), j ≤ nk ∧ behind ≤ nk ∧ places ≤ j ∧ v7 = .int .i64 behind ∧ v8 = .int .i64 places ∧ v33 = .int .i64 j ∧ Hid (r = amongF (inRoleB nds role) at_ j behind places (nd.kids.drop j)) ∧ SM w parent role at_ next (some ⟨b, o, none⟩) n c wr) (fun _ _ _ _ v _ => nk - (intOf v).toNat)
  case atStart =>
    exact ⟨0, nk, 0, Nat.zero_le _, Nat.le_refl _, Nat.le_refl _, rfl, rfl, rfl, Lib.hid (by rw [← HR.out, HKN.out]; rfl), HM2.out⟩
  case round =>
    clear HM2 HM0 HNo
    obtain ⟨j, behind, places, hj, hbe, hpl, rfl, rfl, rfl, HAM, M⟩ := hrel
    have HM := Lib.hid M
    clear M
    rename World => wr
    by_cases hlt : j < nk
    · obtain ⟨kid, hkid⟩ : ∃ kid, nd.kids[j]? = some kid := ⟨nd.kids[j]'(by have := HKN.out; omega), List.getElem?_eq_getElem _⟩
      obtain ⟨bk, ok, rfl, _, hbk, hcells⟩ := HROW.out.at_ (by omega)
      have hkc := (HM.out.bel.cell (p := ⟨bk, _, none⟩) (Nat.lt_of_lt_of_le hbk hh)).trans (hcells j _ (intCells_get hkid))
      have hkd : nd.kids.drop j = kid :: nd.kids.drop (j + 1) := by
        obtain ⟨hl', rfl⟩ := List.getElem?_eq_some_iff.1 hkid
        exact List.drop_eq_getElem_cons hl'
      obtain ⟨x, hx⟩ := HKS.out kid (List.mem_of_getElem? hkid)
      obtain ⟨q, hqx, hgq⟩ := ixOf_of_ndOf hx
      have hqn := ixOf_lt hqx
      rw [HL.out] at hqn
      have hxr : wr.cell? ⟨b, o + q * 7 + 3, none⟩ = some (.string x.role) := (HM.out.bel.cell (p := ⟨b, _, none⟩) (Nat.lt_of_lt_of_le hb hh)).trans (hV q x hgq).1.c3
      have HNq : Hid (∀ d os, Calls Try.prog 52 #[.agg #[.int .i64 next, .slice (some ⟨b, o, none⟩) n c], .int .i64 kid] (grow (redrawn wr d) os) (Ret (grow (redrawn wr d) os) (.pointer (some ⟨b, o + q * 7, none⟩)))) := Lib.hid fun d os => by
        have hz := HM.out.bel.trans ((below_regrown wr d os).mono HM.out.bel.size)
        exact node_any _ hi next kid _ n c nds (h.below (hz.mono hh)) (Nat.le_trans hh hz.size) hr.rise hn _ (by rw [hqx]; exact ⟨b, o, rfl, rfl⟩)
      have hf : inRoleB nds role kid = (x.role.toList == role.toList) := by unfold inRoleB; rw [hx]
      have hst := HAM.out
      rw [hkd, amongF, hf] at hst
      have p0 := cell_regrown ((HM.out.m.cell 0).trans (show _ = some (.int .i64 next) from rfl))
      have p1 := cell_regrown ((HM.out.m.cell 1).trans (show _ = some (.slice (some ⟨b, o, none⟩) n c) from rfl))
      have p2 := cell_regrown ((HM.out.s.cell 1).trans (show _ = some (.string role) from rfl))
      have p3 := cell_regrown hxr
      clear HAM hkid hcells hkd hx hqx hgq hf hxr
      cases d1 : (x.role.toList == role.toList) with
      | false =>
        rw [d1] at hst
        have HAM : Hid (r = amongF (inRoleB nds role) at_ (j + 1) behind places (nd.kids.drop (j + 1))) := Lib.hid hst
        clear hst
        go_wp2_with fail
        refine wp_region_quiet_below (by kernel_rfl) (by kernel_rfl) ?_
        repeat (go_big_quiet_step ((go_at_call 52; exact regrown_ret (HNq.out _ _))))
        refine wpQuiet_nil ?_
        intro _ hw'
        obtain ⟨⟨dq, osq⟩, hw''⟩ := hw'
        subst hw''
        have HM3 := Lib.hid (HM.out.after (below_regrown wr dq osq))
        generalize grow (redrawn wr dq) osq = w3 at HM3 ⊢
        clear p0 p1 p2 p3
        have s2 := HM3.out.s.cell 2
        simp at s2
        go_wp2_with fail
        go_roundw
        case measure => simp only [intOf]; omega
        case rel => exact ⟨j + 1, behind, places, by omega, hbe, by omega, rfl, rfl, by simp, HAM, HM3.out⟩
      | true =>
        rw [d1, if_pos rfl] at hst
        by_cases e2 : (places : Int) = at_
        · rw [if_pos e2] at hst
          have d2 : ((places : Int) == at_) = true := by rw [beq_iff_eq]; exact e2
          have HX := Lib.hid hst
          clear hst e2
          go_wp2_with fail
          refine wp_region_quiet_below (by kernel_rfl) (by kernel_rfl) ?_
          repeat (go_big_quiet_step ((go_at_call 52; exact regrown_ret (HNq.out _ _))))
          refine wpQuiet_nil ?_
          intro _ hw'
          obtain ⟨⟨dq, osq⟩, hw''⟩ := hw'
          subst hw''
          have HM3 := Lib.hid (HM.out.after (below_regrown wr dq osq))
          generalize grow (redrawn wr dq) osq = w3 at HM3 ⊢
          clear p0 p1 p2 p3
          have s2 := HM3.out.s.cell 2
          simp at s2
          go_wp2_with fail
          go_ret2
          obtain rfl := HX.out
          exact ret_mk rfl HM3.out.bel
        · rw [if_neg e2] at hst
          have d2 : ((places : Int) == at_) = false := by rw [beq_eq_false_iff_ne]; exact e2
          have HAM : Hid (r = amongF (inRoleB nds role) at_ (j + 1) (j + 1) (places + 1) (nd.kids.drop (j + 1))) := Lib.hid hst
          clear hst e2
          go_wp2_with fail
          refine wp_region_quiet_below (by kernel_rfl) (by kernel_rfl) ?_
          repeat (go_big_quiet_step ((go_at_call 52; exact regrown_ret (HNq.out _ _))))
          refine wpQuiet_nil ?_
          intro _ hw'
          obtain ⟨⟨dq, osq⟩, hw''⟩ := hw'
          subst hw''
          have HM3 := Lib.hid (HM.out.after (below_regrown wr dq osq))
          generalize grow (redrawn wr dq) osq = w3 at HM3 ⊢
          clear p0 p1 p2 p3
          have s2 := HM3.out.s.cell 2
          simp at s2
          go_wp2_with fail
          go_roundw
          case measure => simp only [intOf]; omega
          case rel => exact ⟨j + 1, j + 1, places + 1, by omega, by omega, by omega, by simp, by simp, by simp, HAM, HM3.out⟩
    · have hjn : j = nk := by omega
      subst hjn
      have hst := HAM.out
      rw [List.drop_eq_nil_of_le (by have := HKN.out; omega), amongF] at hst
      have HX := Lib.hid hst
      have s2 := HM.out.s.cell 2
      simp at s2
      clear hst HAM h
      go_wp2_with fail
      go_quiet (fail)
      go_wp2_with fail
      go_ret2
      obtain rfl := HX.out
      exact ret_mk rfl (below_drewN HM.out.bel _)
end Go.Proofs.Ytfljndlmafcjeaa
namespace Go.Proofs.Ytfljndlmafcjeaa
open Go Go.RowKit Go.Sort
set_option linter.unusedVariables false
attribute [local go_sem ↓] Go.wp_at_zero Go.wp_at_succ
/-- the box of a model, and a list of numbers that grows -/
structure KW (w : World) (next : Int) (A : Option Addr) (n c : Nat) (ov : Value) (l : List Int) (wr : World) : Prop where
  m : M1 w next A n c wr
  own : wr.ownsRow w.heap.size 3 1 ov l.length (intCells l)
section
variable {w X X' : World} {next : Int} {A : Option Addr} {n c : Nat} {ov : Value} {l : List Int}
theorem KW.after (h : KW w next A n c ov l X) (hb : Below X.heap.size X X') : KW w next A n c ov l X' := ⟨h.m.after hb, own_after h.own hb⟩
theorem KW.push {x : Int} {v' : Value} (h : KW w next A n c ov l X) (hg : X.grownBy X' ov.ownBlock) (hown : X'.ownsRow w.heap.size 3 1 v' (l.length + 1) (intCells l ++ [.int .i64 x])) : KW w next A n c v' (l ++ [x]) X' := by
  refine ⟨⟨h.m.a.grown hg (Ne.symm (own_blk_ne h.own h.m.a (by decide))), below_grows h.m.bel hg h.own (Nat.le_refl _)⟩, ?_⟩
  rw [List.length_append, List.length_singleton, show intCells (l ++ [x]) = intCells l ++ [.int .i64 x] from by simp [intCells]]
  exact hown
end
set_option maxRecDepth 20000 in
set_option maxHeartbeats 3200000 in
theorem refKids_any (w : World) (hi : Nat) (next id : Int) (role : ByteArray) (A : Option Addr) (n c : Nat) (nds : List Nd) (h : NodesIn w 0 hi A n c nds) (hh : hi ≤ w.heap.size)
    (nd : Nd) (hr : KOk nds nd) (hnd : ndOf nds id = some nd) :
    Calls Try.prog 79 #[.agg #[.int .i64 next, .slice A n c], .int .i64 id, .string role] w fun e w' => ∃ v, e = .returned v ∧ w'.ownsRow w.heap.size 3 1 v (nd.kids.filter (inRoleB nds role)).length (intCells (nd.kids.filter (inRoleB nds role))) ∧ Below w.heap.size w w' := by
  have hc := h.2.2.1
  have hnc := h.2.1
  have HL := Lib.hid h.1
  have hn : n ≤ 4096 := by rw [← h.1]; exact hr.len
  unfold maxLen at hc
  obtain ⟨i, hix, hgi⟩ := ixOf_of_ndOf hnd
  have hin := ixOf_lt hix
  rw [HL.out] at hin
  have hkl := hr.kl
  have hkids := hr.kids
  obtain ⟨b, o, hA, _, hb, V, hV⟩ := h.all (by omega)
  have hat0 := (hV i nd hgi).1.c5
  have hlf := (hV i nd hgi).2
  generalize V i = L at hat0 hlf
  obtain ⟨_, ⟨Ak, nk, ck⟩, _⟩ := L
  have hkn : nk = nd.kids.length := hlf.kn
  have hrow := hlf.k
  simp only at hat0 hrow
  subst hA
  have hnk := hrow.2.1
  have hck := hrow.2.2.1
  unfold maxLen at hck
  obtain ⟨i0, hi0, hz0, hz1, hz2⟩ := info_parts intInfo
  have HM0 := Lib.hid (M1.start w next (some ⟨b, o, none⟩) n c)
  have HAts : Hid (∀ wr, Below w.heap.size w wr → ∀ y j, ixOf nds y = some j → ∀ d os, Calls Try.prog 26 #[.agg #[.int .i64 next, .slice (some ⟨b, o, none⟩) n c], .int .i64 y] (grow (redrawn wr d) os) (Ret (grow (redrawn wr d) os) (.int .i64 j))) := Lib.hid fun wr hbr y j hy d os => by
    have hz := hbr.trans ((below_regrown wr d os).mono hbr.size)
    have := refAt_any _ hi next y _ n c nds (h.below (hz.mono hh)) (Nat.le_trans hh hz.size) hr.rise hn
    rw [show atV nds y = j from by unfold atV; rw [hy]] at this
    exact this
  have HAt := Lib.hid (HAts.out _ HM0.out.bel id i hix)
  have q0 := cell_regrown ((HM0.out.a.cell 0).trans (show _ = some (.int .i64 next) from rfl))
  have q1 := cell_regrown ((HM0.out.a.cell 1).trans (show _ = some (.slice (some ⟨b, o, none⟩) n c) from rfl))
  have q2 := cell_regrown ((HM0.out.bel.cell (p := ⟨b, _, none⟩) (Nat.lt_of_lt_of_le hb hh)).trans hat0)
  have HROW := Lib.hid hrow
  have HKN := Lib.hid hkn
  have HKS := Lib.hid hkids
  have hnk4 : nk ≤ 4096 := by omega
  clear hat0 hlf hrow hkn hkids hnd hix hgi
  go_enter Try.func79, Try.ntmps79
  go_wp2_with fail
  refine wp_region_quiet_below (by kernel_rfl) (by kernel_rfl) ?_
  repeat (go_big_quiet_step ((go_at_call 26; exact regrown_ret (HAt.out _ _))))
  refine wpQuiet_nil ?_
  intro _ hw'
  obtain ⟨⟨dq, osq⟩, hw''⟩ := hw'
  subst hw''
  have HM2 := Lib.hid (HM0.out.after (below_regrown _ dq osq))
  generalize grow (redrawn _ dq) osq = w2 at HM2 ⊢
  clear q0 q1 q2
  go_wp2_with fail
  go_loopw [7, 9] (fun ov v9 wr => ∃ (j : Nat), j ≤ nk ∧ v9 = .int .i64 j ∧ KW w next (some ⟨b, o, none⟩) n c ov ((nd.kids.take j).filter (inRoleB nds role)) wr) (fun _ v _ => nk - (intOf v).toNat)
  case atStart => exact ⟨0, Nat.zero_le _, rfl, HM2.out, ⟨rfl, .inl ⟨rfl, rfl⟩⟩⟩
  case round =>
    clear HM2 HM0 HAt
    obtain ⟨j, hj, rfl, W⟩ := hrel
    obtain ⟨fl, hfl⟩ : ∃ fl, (nd.kids.take j).filter (inRoleB nds role) = fl := ⟨_, rfl⟩
    rw [hfl] at W
    have HFL := Lib.hid hfl
    have HW := Lib.hid W
    clear W hfl
    rename World => wr
    by_cases hlt : j < nk
    · obtain ⟨kid, hkid⟩ : ∃ kid, nd.kids[j]? = some kid := ⟨nd.kids[j]'(by have := HKN.out; omega), List.getElem?_eq_getElem _⟩
      obtain ⟨bk, ok, rfl, _, hbk, hcells⟩ := HROW.out.at_ (by omega)
      have hkc := (HW.out.m.bel.cell (p := ⟨bk, _, none⟩) (Nat.lt_of_lt_of_le hbk hh)).trans (hcells j _ (intCells_get hkid))
      obtain ⟨x, hx⟩ := HKS.out kid (List.mem_of_getElem? hkid)
      obtain ⟨q, hqx, hgq⟩ := ixOf_of_ndOf hx
      have hqn := ixOf_lt hqx
      rw [HL.out] at hqn
      have hxr : wr.cell? ⟨b, o + q * 7 + 3, none⟩ = some (.string x.role) := (HW.out.m.bel.cell (p := ⟨b, _, none⟩) (Nat.lt_of_lt_of_le hb hh)).trans (hV q x hgq).1.c3
      have HAt := Lib.hid (HAts.out wr HW.out.m.bel kid q hqx)
      have hf : inRoleB nds role kid = (x.role.toList == role.toList) := by unfold inRoleB; rw [hx]
      have htk : nd.kids.take (j + 1) = nd.kids.take j ++ [kid] := by rw [List.take_add_one, hkid]; rfl
      have q0 := cell_regrown ((HW.out.m.a.cell 0).trans (show _ = some (.int .i64 next) from rfl))
      have q1 := cell_regrown ((HW.out.m.a.cell 1).trans (show _ = some (.slice (some ⟨b, o, none⟩) n c) from rfl))
      have q2 := cell_regrown hxr
      have q3 := cell_regrown hkc
      have HKC := Lib.hid hkc
      have hlen : fl.length ≤ 4096 := by
        have h1 := HFL.out
        have h2 := List.length_filter_le (inRoleB nds role) (nd.kids.take j)
        rw [h1, List.length_take] at h2
        omega
      have hbkr : bk < wr.heap.size := Nat.lt_of_lt_of_le (Nat.lt_of_lt_of_le hbk hh) HW.out.m.bel.size
      clear hkid hcells hx hqx hgq hxr hkc
      cases d1 : (x.role.toList == role.toList) with
      | false =>
        have HN : Hid ((nd.kids.take (j + 1)).filter (inRoleB nds role) = fl) := Lib.hid (by rw [htk, List.filter_append, HFL.out, List.filter_cons_of_neg (by rw [hf, d1]; simp), List.filter_nil, List.append_nil])
        clear hf htk
        go_wp2_with fail
        refine wp_region_quiet_below (by kernel_rfl) (by kernel_rfl) ?_
        repeat (go_big_quiet_step ((go_at_call 26; exact regrown_ret (HAt.out _ _))))
        refine wpQuiet_nil ?_
        intro _ hw'
        obtain ⟨⟨dq, osq⟩, hw''⟩ := hw'
        subst hw''
        have HW3 := Lib.hid (HW.out.after (below_regrown wr dq osq))
        generalize grow (redrawn wr dq) osq = w3 at HW3 ⊢
        clear q0 q1 q2 q3
        go_wp2_with fail
        go_roundw
        case measure => simp only [intOf]; omega
        case rel => exact ⟨j + 1, by omega, by simp, by rw [HN.out]; exact HW3.out⟩
      | true =>
        have HN : Hid ((nd.kids.take (j + 1)).filter (inRoleB nds role) = fl ++ [kid]) := Lib.hid (by rw [htk, List.filter_append, HFL.out, List.filter_cons_of_pos (by rw [hf, d1]), List.filter_nil])
        clear hf htk
        go_wp2_with fail
        refine wp_region_quiet_below (by kernel_rfl) (by kernel_rfl) ?_
        repeat (go_big_quiet_step ((go_at_call 26; exact regrown_ret (HAt.out _ _))))
        refine wpQuiet_nil ?_
        intro _ hw'
        obtain ⟨⟨dq, osq⟩, hw''⟩ := hw'
        subst hw''
        have HW3 := Lib.hid (HW.out.after (below_regrown wr dq osq))
        have kc3 := ((below_regrown wr dq osq).cell (p := ⟨bk, _, none⟩) hbkr).trans HKC.out
        generalize grow (redrawn wr dq) osq = w3 at HW3 kc3 ⊢
        clear q0 q1 q2 q3
        go_wp2_with (at_builtin; go_must (refine wpList_app _ rfl (.tmp 37) (.tmp 42) _ rfl w.heap.size 3 i0 _ 1 8 Try.underlying41 hi0 hz0 hz1 hz2 rfl (by omega) u7 fl.length (intCells fl) rfl (own_after HW3.out.own (below_more (Below.refl _ _) _)) w3.heap.size (w3.heap.size + 1) (some ⟨w3.heap.size, 0, none⟩) 1 1 [.int .i64 kid] rfl (row_blk (n := 1) (Blk.new' rfl) rfl (Nat.le_refl _) (by unfold maxLen; omega)) (by simp [Value.oneCell']) (by unfold maxLen; omega) (by omega) (Nat.le_trans HW3.out.m.bel.size (by simp)) ?_); go_must (intro v7 w7 hown7 hg7 _; obtain ⟨G7, cap7, rfl, hca7, hcb7⟩ := own_slice hown7; have HW7 := Lib.hid ((HW3.out.after (below_more (Below.refl _ _) _)).push hg7 hown7); clear hown7 hg7))
        go_roundw
        case measure => simp only [intOf]; omega
        case rel => exact ⟨j + 1, by omega, by simp, by rw [HN.out]; exact HW7.out⟩
    · have hjn : j = nk := by omega
      subst hjn
      have hfin : fl = nd.kids.filter (inRoleB nds role) := by rw [← HFL.out, List.take_of_length_le (by have := HKN.out; omega)]
      subst hfin
      obtain ⟨Ao, co, rfl⟩ := own_form HW.out.own
      clear h
      go_wp2_with fail
      go_ret
      exact ⟨_, rfl, HW.out.own, HW.out.m.bel⟩
end Go.Proofs.Ytfljndlmafcjeaa
namespace Go.Proofs.Ytfljndlmafcjeaa
open Go Go.RowKit Go.Sort
set_option linter.unusedVariables false
attribute [local go_sem ↓] Go.wp_at_zero Go.wp_at_succ
/-- a new list of numbers is answered -/
def ListR (w : World) (r : List Int) (e : Ending) (w' : World) : Prop := ∃ v, e = .returned v ∧ w'.ownsRow w.heap.size 3 1 v r.length (intCells r) ∧ Below w.heap.size w w'
/-- behind the walk: the box's list -/
theorem ids_end {w Y X : World} {g0 : Nat} {r : List Int} (hb : Below w.heap.size w Y) (hg : w.heap.size ≤ g0) (h : IdsInv Y g0 r X) : ∃ A m c, X.cell? ⟨g0, 0, none⟩ = some (.slice A m c) ∧ X.ownsRow w.heap.size 3 1 (.slice A m c) r.length (intCells r) ∧ Below w.heap.size w X := by
  obtain ⟨ov, h⟩ := h
  obtain ⟨A, c, rfl⟩ := own_form h.own
  exact ⟨A, _, c, (h.e.bx.cell 0).trans rfl, own_mono h.own hb.size, Below.only hb h.e.gr hb.size hg⟩
/-- .. ahead of it: an empty one -/
theorem ids_start {Y : World} {g0 : Nat} (h : Blk Y g0 41 #[.slice none 0 0]) : IdsInv Y g0 [] Y := ⟨_, ⟨World.grownBy.refl _ _, h⟩, ⟨rfl, .inl ⟨rfl, rfl⟩⟩⟩
/-- a closure that lists all nodes -/
theorem visit_list {Y : World} {hi g0 : Nat} {A : Option Addr} {n c : Nat} {nds : List Nd} (F : FuncId) (hF : ∀ args w, Sem.run Try.prog (callFunc F args) w = .ok (.enter F args) w)
    (hcall : ∀ (X : World) (b oi d : Nat) (id : Int) (r : List Int), IdsInv Y g0 r X → r.length < 4096 → b < Y.heap.size → b ≠ g0 → Y.cell? ⟨b, oi, none⟩ = some (.int .i64 id) → Calls Try.prog F #[.pointer (some ⟨b, oi, none⟩), .int .i64 d, .pointer (some ⟨g0, 0, none⟩)] X fun e X' => e = .returned (.tuple #[]) ∧ IdsInv Y g0 (r ++ [id]) X' ∧ Keeps X X')
    (hN : NodesIn Y 0 hi A n c nds) (hh : hi ≤ Y.heap.size) (hg : hi ≤ g0) : Visit Y g0 4096 A nds F #[.pointer (some ⟨g0, 0, none⟩)] fun X l => IdsInv Y g0 (l.map (·.1)) X := by
  refine ⟨hF, fun X l h => ?_, fun X X' l h hb => h.after hb, fun X l i nd d b o h hl hnd hA _ => ?_⟩
  · obtain ⟨ov, h⟩ := h
    exact h.e.gr
  · obtain ⟨b', o', hA', _, hb, V, hV⟩ := hN.all (by have := (List.getElem?_eq_some_iff.1 hnd).1; have := hN.1; omega)
    rw [hA] at hA'
    injection hA' with hA'
    injection hA' with e1 e2
    subst e1 e2
    rw [List.map_append]
    exact hcall X b (o + i * 7) d nd.id _ h (by rw [List.length_map]; exact hl) (by omega) (by omega) (hV i nd hnd).1.c0
end Go.Proofs.Ytfljndlmafcjeaa
namespace Go.Proofs.Ytfljndlmafcjeaa
open Go Go.RowKit Go.Sort
set_option linter.unusedVariables false
attribute [local go_sem ↓] Go.wp_at_zero Go.wp_at_succ
/-- what holds while a model is made, but for the list that grows -/
structure TE (w : World) (next : Int) (A : Option Addr) (n c : Nat) (ov : Value) (wr : World) : Prop where
  md : Blk wr w.heap.size 24 #[.int .i64 next, .slice A n c]
  rs : Blk wr (w.heap.size + 1) 24 #[.int .i64 0, .slice none 0 0]
  out : Blk wr (w.heap.size + 2) 24 #[.int .i64 next, ov]
  bel : Below w.heap.size w wr
structure TW (w : World) (next : Int) (A : Option Addr) (n c : Nat) (ov : Value) (l : List (Nd × Leaf)) (wr : World) : Prop where
  e : TE w next A n c ov wr
  own : OwnM wr w.heap.size ov l
section
variable {w : World} {next : Int} {A : Option Addr} {n c : Nat} {ov : Value} {l : List (Nd × Leaf)} {X X' : World}
theorem TE.after (h : TE w next A n c ov X) (hb : Below X.heap.size X X') : TE w next A n c ov X' := ⟨h.md.after hb, h.rs.after hb, h.out.after hb, h.bel.trans (hb.mono h.bel.size)⟩
theorem TW.after (h : TW w next A n c ov l X) (hb : Below X.heap.size X X') : TW w next A n c ov l X' := ⟨h.e.after hb, h.own.after hb⟩
theorem TE.kept (h : TE w next A n c ov X) (hown : OwnN X w.heap.size ov l) (hg : X.grownBy X' ov.ownBlock) : TE w next A n c ov X' :=
  ⟨h.md.grown hg (Ne.symm (own_blk_ne hown h.md (by decide))), h.rs.grown hg (Ne.symm (own_blk_ne hown h.rs (by decide))), h.out.grown hg (Ne.symm (own_blk_ne hown h.out (by decide))), below_grows h.bel hg hown (Nat.le_refl _)⟩
theorem TE.out_set (h : TE w next A n c ov X) (u : Value) : TE w next A n c u (X.setCell ⟨w.heap.size + 2, 1, none⟩ u) :=
  ⟨h.md.far (by simp) u, h.rs.far (by simp) u, by simpa using h.out.set_ 1 u, h.bel.setCell (p := ⟨w.heap.size + 2, 1, none⟩) (by simp) u⟩
theorem TW.push {p : Nd × Leaf} {v' : Value} (h : TW w next A n c ov l X) (hg : X.grownBy X' ov.ownBlock) (hown : X'.ownsRow w.heap.size 44 7 v' (l.length + 1) (allCells l ++ ndCells p))
    (hp : OwnLeaf X w.heap.size p.1 p.2) : TW w next A n c v' (l ++ [p]) (X'.setCell ⟨w.heap.size + 2, 1, none⟩ v') := by
  have h1 := h.e.kept h.own.own hg
  have h2 := hp.kept h.own.own hg
  have hm : OwnM X' w.heap.size v' (l ++ [p]) := by
    refine ⟨?_, fun q hq => ?_⟩
    · unfold OwnN
      have e : allCells (l ++ [p]) = allCells l ++ ndCells p := by simp [allCells]
      rw [e, List.length_append, List.length_singleton]
      exact hown
    · rcases List.mem_append.1 hq with hq | hq
      · exact (h.own.leaf q hq).kept h.own.own hg
      · obtain rfl : q = p := by simpa using hq
        exact h2
  exact ⟨h1.out_set v', hm.other h1.out 1 v'⟩
theorem tw_start (w : World) (next : Int) (A : Option Addr) (n c : Nat) : TW w next A n c (.slice none 0 0) []
    (((w.alloc (.cells #[.int .i64 next, .slice A n c] 24)).alloc (.cells #[.int .i64 0, .slice none 0 0] 24)).alloc (.cells #[.int .i64 next, .slice none 0 0] 24)) := by
  refine ⟨⟨?_, ?_, ?_, ?_⟩, ⟨?_, by simp⟩⟩
  · exact ((Blk.new w _ _).alloc _).alloc _
  · exact (Blk.new' (by simp)).alloc _
  · exact Blk.new' (by simp)
  · exact below_more (below_more (below_more (Below.refl _ _) _) _) _
  · exact ⟨rfl, .inl ⟨rfl, rfl⟩⟩
end
set_option maxRecDepth 100000 in
set_option maxHeartbeats 6400000 in
theorem twin_any (w : World) (hi : Nat) (next : Int) (A : Option Addr) (n c : Nat) (nds : List Nd) (h : NodesIn w 0 hi A n c nds) (hh : hi ≤ w.heap.size) (hn : n ≤ 4096) (hf : ∀ nd ∈ nds, Fits 1 nd) :
    Calls Try.prog 30 #[.agg #[.int .i64 next, .slice A n c]] w fun e w' => ∃ ov l, e = .returned (.agg #[.int .i64 next, ov]) ∧ OwnM w' w.heap.size ov l ∧ l.map (·.1) = nds ∧ Below w.heap.size w w' := by
  have hc := h.2.2.1
  have hnc := h.2.1
  have HL := Lib.hid h.1
  unfold maxLen at hc
  go_enter Try.func30, Try.ntmps30
  go_wp2_with fail
  go_loopg [4] n (fun gk i wr => ∃ (k : Nat) (ov : Value) (l : List (Nd × Leaf)), k ≤ n ∧ Hid (gk = n - k) ∧ i = .int .i64 k ∧ TW w next A n c ov l wr ∧ Hid (l.map (·.1) = nds.take k))
  case atStart => exact ⟨0, _, [], Nat.zero_le _, Lib.hid rfl, rfl, tw_start w next A n c, Lib.hid rfl⟩
  case round =>
    obtain ⟨k, ov, l, hk, HG, rfl, W, HT⟩ := hrel
    have c1 := W.e.md.cell 1
    have o1 := W.e.out.cell 1
    simp at c1 o1
    have HW := Lib.hid W
    have hbel := W.e.bel
    have hwz := hbel.size
    clear W
    by_cases hlt : k < n
    · obtain ⟨b, o, hA, _, hb, V, hV⟩ := h.all (by omega)
      obtain ⟨nd, hnd⟩ : ∃ nd, nds[k]? = some nd := ⟨nds[k]'(by have := HL.out; omega), List.getElem?_eq_getElem _⟩
      have hat := (hV k nd hnd).1
      have hlf := (hV k nd hnd).2
      have hfi := hf nd (List.mem_of_getElem? hnd)
      generalize V k = Lk at hat hlf
      subst hA
      have HON := Lib.hid fun (X : World) (hbX : Below w.heap.size w X) => refNode_any X hi nd Lk (hlf.below (hbX.mono hh)) (Nat.le_trans hh hbX.size) hfi
      have HND := Lib.hid hnd
      obtain ⟨⟨Ap, np, cp⟩, ⟨Ak, nk, ck⟩, ⟨Ar, nr, cr⟩⟩ := Lk
      have hlk : l.length = k := by have := congrArg List.length HT.out; rw [List.length_map, List.length_take, HL.out] at this; omega
      have HLL := Lib.hid hlk
      have HSof : Hid (∀ X, TE w next (some ⟨b, o, none⟩) n c ov X → Below w.heap.size w X ∧ X.cell? ⟨w.heap.size + 1 + 1, 1, none⟩ = some ov ∧ X.cell? ⟨w.heap.size, 1, none⟩ = some (.slice (some ⟨b, o, none⟩) n c) ∧ X.cell? ⟨b, o + k * 7, none⟩ = some (.int .i64 nd.id) ∧ X.cell? ⟨b, o + k * 7 + 1, none⟩ = some (.string nd.con) ∧ X.cell? ⟨b, o + k * 7 + 2, none⟩ = some (.int .i64 nd.par) ∧ X.cell? ⟨b, o + k * 7 + 3, none⟩ = some (.string nd.role) ∧ X.cell? ⟨b, o + k * 7 + 4, none⟩ = some (.slice Ap np cp) ∧ X.cell? ⟨b, o + k * 7 + 5, none⟩ = some (.slice Ak nk ck) ∧ X.cell? ⟨b, o + k * 7 + 6, none⟩ = some (.slice Ar nr cr)) := Lib.hid fun X hX => by
        have hq := hat.below hX.bel (by omega)
        have h1 := hX.out.cell 1
        have h3 := hX.md.cell 1
        simp at h1 h3
        exact ⟨hX.bel, h1, h3, hq.c0, hq.c1, hq.c2, hq.c3, hq.c4, hq.c5, hq.c6⟩
      obtain ⟨i0, hi0, hz0, hz1, hz2⟩ := info_parts nodeInfo
      have HX := Lib.hid (HW.out.after (below_drew (Below.refl _ _)))
      clear hV hnd hfi hlf hlk hat
      go_upto_region 5 with (fail)
      clear hbel c1 o1
      refine wp_region_held_tail 10 (fun w' => Below w.heap.size w w' ∧ w'.cell? ⟨w.heap.size + 1 + 1, 1, none⟩ = some ov ∧ w'.cell? ⟨w.heap.size, 1, none⟩ = some (.slice (some ⟨b, o, none⟩) n c) ∧ w'.cell? ⟨b, o + k * 7, none⟩ = some (.int .i64 nd.id) ∧ w'.cell? ⟨b, o + k * 7 + 1, none⟩ = some (.string nd.con) ∧ w'.cell? ⟨b, o + k * 7 + 2, none⟩ = some (.int .i64 nd.par) ∧ w'.cell? ⟨b, o + k * 7 + 3, none⟩ = some (.string nd.role) ∧ w'.cell? ⟨b, o + k * 7 + 4, none⟩ = some (.slice Ap np cp) ∧ w'.cell? ⟨b, o + k * 7 + 5, none⟩ = some (.slice Ak nk ck) ∧ w'.cell? ⟨b, o + k * 7 + 6, none⟩ = some (.slice Ar nr cr)) (by kernel_rfl) (by kernel_rfl) ?hSt (fun hHeld => ?qt0)
      case hSt => exact HSof.out _ HX.out.e
      case qt0 =>
        simp only [List.take_succ_cons, List.take_zero, List.drop_succ_cons, List.drop_zero]
        refine wpAnyH_take (i := 0) (v := (.pointer (some ⟨w.heap.size + 1 + 1, 1, none⟩))) rfl (by kernel_rfl) (by kernel_rfl) (by kernel_rfl) (fun _ _ _ h => h) (Or.inl ⟨by rfl, ?yt_1⟩) (by assumption) ?qt_1
        case yt_1 => (intro w hSw; (try dsimp only at hSw); go_simp)
        case qt_1 =>
          (try simp only [Act.put]); (try simp only [List.setIfInBounds_toArray])
          refine wpAnyH_take (i := 1) (v := ov) rfl (by kernel_rfl) (by kernel_rfl) (by kernel_rfl) (fun _ _ _ h => h) (Or.inl ⟨by rfl, ?yt_2⟩) (by assumption) ?qt_2
          case yt_2 => (intro w hSw; (try dsimp only at hSw); go_simp)
          case qt_2 =>
            (try simp only [Act.put]); (try simp only [List.setIfInBounds_toArray])
            refine wpAnyH_take (i := 2) (v := (.pointer (some ⟨w.heap.size, 1, none⟩))) rfl (by kernel_rfl) (by kernel_rfl) (by kernel_rfl) (fun _ _ _ h => h) (Or.inl ⟨by rfl, ?yt_3⟩) (by assumption) ?qt_3
            case yt_3 => (intro w hSw; (try dsimp only at hSw); go_simp)
            case qt_3 =>
              (try simp only [Act.put]); (try simp only [List.setIfInBounds_toArray])
              refine wpAnyH_take (i := 3) (v := (.slice (some ⟨b, o, none⟩) n c)) rfl (by kernel_rfl) (by kernel_rfl) (by kernel_rfl) (fun _ _ _ h => h) (Or.inl ⟨by rfl, ?yt_4⟩) (by assumption) ?qt_4
              case yt_4 => (intro w hSw; (try dsimp only at hSw); go_simp)
              case qt_4 =>
                (try simp only [Act.put]); (try simp only [List.setIfInBounds_toArray])
                refine wpAnyH_take (i := 4) (v := (.int .i64 k)) rfl (by kernel_rfl) (by kernel_rfl) (by kernel_rfl) (fun _ _ _ h => h) (Or.inl ⟨by rfl, ?yt_5⟩) (by assumption) ?qt_5
                case yt_5 => (intro w hSw; (try dsimp only at hSw); go_simp)
                case qt_5 =>
                  (try simp only [Act.put]); (try simp only [List.setIfInBounds_toArray])
                  refine wpAnyH_take (i := 5) (v := (.pointer (some ⟨b, o + k * 7, none⟩))) rfl (by kernel_rfl) (by kernel_rfl) (by kernel_rfl) (fun _ _ _ h => h) (Or.inl ⟨by rfl, ?yt_6⟩) (by assumption) ?qt_6
                  case yt_6 => (intro w hSw; (try dsimp only at hSw); go_simp)
                  case qt_6 =>
                    (try simp only [Act.put]); (try simp only [List.setIfInBounds_toArray])
                    refine wpAnyH_take (i := 6) (v := (.agg #[.int .i64 nd.id, .string nd.con, .int .i64 nd.par, .string nd.role, .slice Ap np cp, .slice Ak nk ck, .slice Ar nr cr])) rfl (by kernel_rfl) (by kernel_rfl) (by kernel_rfl) (fun _ _ _ h => h) (Or.inl ⟨by rfl, ?yt_7⟩) (by assumption) ?qt_7
                    case yt_7 => (intro w hSw; (try dsimp only at hSw); go_simp)
                    case qt_7 =>
                      (try simp only [Act.put]); (try simp only [List.setIfInBounds_toArray])
                      refine wpAnyH_ready (rs := [7]) (by kernel_rfl) (by simp) ?_
                      refine AllReadyH.cons rfl (fun K hK => ?st_8) ?mt_8
                      case st_8 =>
                        (refine step_call _ (by rfl) 35 #[.agg #[.int .i64 nd.id, .string nd.con, .int .i64 nd.par, .string nd.role, .slice Ap np cp, .slice Ak nk ck, .slice Ar nr cr]] (by go_simp) (HON.out _ HX.out.e.bel) ?_; rintro e Y1 ⟨⟨⟨A1, n1, k1⟩, ⟨A2, n2, k2⟩, ⟨A3, n3, k3⟩⟩, rfl, hl1, hb1⟩; refine ⟨_, rfl, ?_⟩; have HLf := Lib.hid (hl1.mono HX.out.e.bel.size); replace HX := Lib.hid (HX.out.after hb1); clear hl1 hb1)
                        refine hK.out _ _ ?kt_8 (fun hHeld => ?qt_8)
                        case kt_8 => ((try dsimp only); first | exact HSof.out _ HX2.out | exact HSof.out _ HXa.out.e | exact HSof.out _ HX.out.e)
                        case qt_8 =>
                          clear hK K
                          (try simp only [Act.put]); (try simp only [List.setIfInBounds_toArray])
                          refine wpAnyH_ready (rs := [8]) (by kernel_rfl) (by simp) ?_
                          refine AllReadyH.cons rfl (fun K hK => ?st_9) ?mt_9
                          case st_9 =>
                            (go_simp; have HXa := Lib.hid (HX.out.after (below_more (Below.refl _ _) (.cells #[.int .i64 nd.id, .string nd.con, .int .i64 nd.par, .string nd.role, .slice A1 n1 k1, .slice A2 n2 k2, .slice A3 n3 k3] 44))); have HLa := Lib.hid (HLf.out.after (below_more (Below.refl _ _) (.cells #[.int .i64 nd.id, .string nd.con, .int .i64 nd.par, .string nd.role, .slice A1 n1 k1, .slice A2 n2 k2, .slice A3 n3 k3] 44))); have HNb := Lib.hid (Blk.new Y1 44 #[.int .i64 nd.id, .string nd.con, .int .i64 nd.par, .string nd.role, .slice A1 n1 k1, .slice A2 n2 k2, .slice A3 n3 k3]); have hgm : Y1.heap.size < (Y1.alloc (.cells #[.int .i64 nd.id, .string nd.con, .int .i64 nd.par, .string nd.role, .slice A1 n1 k1, .slice A2 n2 k2, .slice A3 n3 k3] 44)).heap.size := HNb.out.lt)
                            refine hK.out _ _ ?kt_9 (fun hHeld => ?qt_9)
                            case kt_9 => ((try dsimp only); first | exact HSof.out _ HX2.out | exact HSof.out _ HXa.out.e | exact HSof.out _ HX.out.e)
                            case qt_9 =>
                              clear hK K
                              (try simp only [Act.put]); (try simp only [List.setIfInBounds_toArray])
                              refine wpAnyH_ready (rs := [9]) (by kernel_rfl) (by simp) ?_
                              refine AllReadyH.cons rfl (fun K hK => ?st_10) ?mt_10
                              case st_10 =>
                                (refine step_app_mark _ (by rfl) (.tmp 16) (.tmp 23) _ (by rfl) w.heap.size 44 i0 _ 7 120 Try.underlying22 hi0 hz0 hz1 hz2 rfl (by omega) ov l.length (allCells l) (by rfl) HXa.out.own.own _ (ndCells (nd, ⟨⟨A1, n1, k1⟩, ⟨A2, n2, k2⟩, ⟨A3, n3, k3⟩⟩)) (by rfl) HNb.out rfl (by simp [ndCells, Value.oneCell']) (by have := HLL.out; unfold maxLen; omega) (by have := HLL.out; omega) HXa.out.e.bel.size ?_; intro G1 cap1 w2 hown2 _ hca1 hca2 hgr2; have HX2 := Lib.hid (HXa.out.e.kept HXa.out.own.own hgr2))
                                refine hK.out _ _ ?kt_10 (fun hHeld => ?qt_10)
                                case kt_10 => ((try dsimp only); first | exact HSof.out _ HX2.out | exact HSof.out _ HXa.out.e | exact HSof.out _ HX.out.e)
                                case qt_10 =>
                                  clear hK K
                                  (try simp only [Act.put]); (try simp only [List.setIfInBounds_toArray])
                                  refine wpAnyH_done (by kernel_rfl) ?_ _
                                  obtain ⟨hB1, hB2, hB3, _⟩ := hHeld
                                  have o7 := HX2.out.out.cell 1
                                  have f7 := HX2.out.out.frozen 1
                                  simp at o7
                                  have HO2 := Lib.hid hown2
                                  have HG2 := Lib.hid hgr2
                                  clear hown2 hgr2
                                  show wpList _ _ _ _ _ _
                                  go_wp2_with fail
                                  go_roundg (n - (k + 1))
                                  case measure => have := HG.out; omega
                                  case rel =>
                                    refine ⟨k + 1, .slice (some ⟨G1, 0, none⟩) (l.length + 1) cap1, l ++ [(nd, ⟨⟨A1, n1, k1⟩, ⟨A2, n2, k2⟩, ⟨A3, n3, k3⟩⟩)], by omega, Lib.hid rfl, by simp, ?_, Lib.hid ?_⟩
                                    · exact HXa.out.push HG2.out HO2.out HLa.out
                                    · rw [List.map_append, HT.out, List.take_add_one, HND.out]; rfl
                              case mt_10 =>
                                exact AllReadyH.nil
                          case mt_9 =>
                            exact AllReadyH.nil
                      case mt_8 =>
                        exact AllReadyH.nil
    · have hkn : k = n := by omega
      subst hkn
      have hnn : l.map (·.1) = nds := by rw [HT.out, List.take_of_length_le (by rw [HL.out]; omega)]
      have HNN := Lib.hid hnn
      have o0 := HW.out.e.out.cell 0
      have r0 := HW.out.e.rs.cell 0
      have r1 := HW.out.e.rs.cell 1
      have r2 := HW.out.e.rs.frozen 0
      have r3 := HW.out.e.rs.frozen 1
      simp at o0 r0 r1
      obtain ⟨Ao, co, rfl⟩ := own_form HW.out.own.own
      have HM := Lib.hid HW.out.own
      clear h hf hnn
      go_wp2_with fail
      (try rw [Exit.noGoto_ret])
      (try simp only [Exit.inBlock, Exit.then])
      have hres : Try.f30.results = #[.cell 2 24] := by kernel_rfl
      refine bodyPost_ret (v := .agg #[.int .i64 next, .slice Ao l.length co]) ?hr rfl ?_
      case hr =>
        simp only [results, hres]
        go_simp
      refine ⟨_, l, rfl, ?_, HNN.out, ?_⟩
      · exact (HM.out.other HW.out.e.rs 0 _).other (HW.out.e.rs.set_ 0 _) 1 _
      · exact (HW.out.e.bel.setCell (p := ⟨w.heap.size + 1, 0, none⟩) (by simp) _).setCell (p := ⟨w.heap.size + 1, 1, none⟩) (by simp) _
end Go.Proofs.Ytfljndlmafcjeaa

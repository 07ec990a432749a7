/-
  WALKS: the program's search for a place among a parent's kids.
-/
import Derived.Test.YtmjkcbhkmkofjaaW26
namespace Go.Proofs.Ytmjkcbhkmkofjaa
open Go Go.RowKit Go.Sort
set_option linter.unusedVariables false
attribute [local go_sem ↓] Go.wp_at_zero Go.wp_at_succ

/-- is a node's role that one? -/
def inRoleB (nds : List Nd) (role : ByteArray) (k : Int) : Bool := match ndOf nds k with
  | some x => x.role.toList == role.toList
  | none => false
/-- the boxes of a spot and of a model -/
structure SM (w : World) (parent : Int) (role : ByteArray) (at_ next : Int) (A : Option Addr) (n c : Nat) (wr : World) : Prop where
  s : Blk wr w.heap.size 68 #[.int .i64 parent, .string role, .int .i64 at_]
  m : Blk wr (w.heap.size + 1) 24 #[.int .i64 next, .slice A n c]
  bel : Below w.heap.size w wr
section
variable {w wr w' : World} {parent at_ next : Int} {role : ByteArray} {A : Option Addr} {n c : Nat}
theorem SM.start (w : World) (parent : Int) (role : ByteArray) (at_ next : Int) (A : Option Addr) (n c : Nat) : SM w parent role at_ next A n c ((w.alloc (.cells #[.int .i64 parent, .string role, .int .i64 at_] 68)).alloc (.cells #[.int .i64 next, .slice A n c] 24)) :=
  ⟨(Blk.new _ _ _).alloc _, Blk.new' (by simp), below_more (below_more (Below.refl _ _) _) _⟩
theorem SM.after (h : SM w parent role at_ next A n c wr) (hb : Below wr.heap.size wr w') : SM w parent role at_ next A n c w' := ⟨h.s.after hb, h.m.after hb, h.bel.trans (hb.mono h.bel.size)⟩
end

set_option maxRecDepth 20000 in
set_option maxHeartbeats 1600000 in
theorem among_root (w : World) (next at_ : Int) (role : ByteArray) (A : Option Addr) (n c : Nat) (v : Bool) (hv : (role.toList.isEmpty && at_ == 0) = v) :
    Calls Try.prog 98 #[.agg #[.int .i64 0, .string role, .int .i64 at_], .agg #[.int .i64 next, .slice A n c]] w (Ret w (.tuple #[.int .i64 0, .bool v])) := by
  have HM0 := Lib.hid (SM.start w 0 role at_ next A n c)
  have HV := Lib.hid hv
  cases d1 : role.toList.isEmpty with
  | true =>
    have HX : Hid ((at_ == 0) = v) := Lib.hid (by rw [← hv, d1]; rfl)
    have d2 : (role.toList == ([] : List UInt8)) = true := by rw [beq_iff_eq]; exact List.isEmpty_iff.1 d1
    clear hv HV d1
    go_enter Try.func98, Try.ntmps98
    go_wp2_with fail
    go_quiet (fail)
    go_wp2_with fail
    go_ret2
    obtain rfl := HX.out
    exact ret_mk rfl (below_drewN HM0.out.bel _)
  | false =>
    have HX : Hid (v = false) := Lib.hid (by rw [← hv, d1]; rfl)
    have d2 : (role.toList == ([] : List UInt8)) = false := by rw [beq_eq_false_iff_ne]; intro e; rw [e] at d1; cases d1
    clear hv HV d1
    go_enter Try.func98, Try.ntmps98
    go_wp2_with fail
    go_quiet (fail)
    go_wp2_with fail
    go_ret2
    obtain rfl := HX.out
    exact ret_mk rfl (below_drewN HM0.out.bel _)

set_option maxRecDepth 20000 in
set_option maxHeartbeats 3200000 in
theorem among_any (w : World) (hi : Nat) (next parent at_ : Int) (role : ByteArray) (A : Option Addr) (n c : Nat) (nds : List Nd) (h : NodesIn w 0 hi A n c nds) (hh : hi ≤ w.heap.size)
    (nd : Nd) (hr : KOk nds nd) (hnd : ndOf nds parent = some nd) (h0 : parent ≠ 0) (r : Int × Bool) (hrr : amongF (inRoleB nds role) at_ 0 nd.kids.length 0 nd.kids = r) :
    Calls Try.prog 98 #[.agg #[.int .i64 parent, .string role, .int .i64 at_], .agg #[.int .i64 next, .slice A n c]] w (Ret w (.tuple #[.int .i64 r.1, .bool r.2])) := by
  have hc := h.2.2.1
  have hnc := h.2.1
  have HL := Lib.hid h.1
  have hn : n ≤ 4096 := by rw [← h.1]; exact hr.len
  unfold maxLen at hc
  obtain ⟨i, hix, hgi⟩ := ixOf_of_ndOf hnd
  have hin := ixOf_lt hix
  rw [HL.out] at hin
  have hkl := hr.kl
  have hkids := hr.kids
  obtain ⟨b, o, hA, _, hb, V, hV⟩ := h.all (by omega)
  have hat0 := (hV i nd hgi).1.c5
  have hlf := (hV i nd hgi).2
  generalize V i = L at hat0 hlf
  obtain ⟨_, ⟨Ak, nk, ck⟩, _⟩ := L
  have hkn : nk = nd.kids.length := hlf.kn
  have hrow := hlf.k
  simp only at hat0 hrow
  subst hA
  have hnk := hrow.2.1
  have hck := hrow.2.2.1
  unfold maxLen at hck
  have HM0 := Lib.hid (SM.start w parent role at_ next (some ⟨b, o, none⟩) n c)
  have hat : ∀ X, Below w.heap.size w X → X.cell? ⟨b, o + i * 7 + 5, none⟩ = some (.slice Ak nk ck) := fun X hX => (hX.cell (p := ⟨b, _, none⟩) (Nat.lt_of_lt_of_le hb hh)).trans hat0
  have HAT := Lib.hid hat
  have HNo := Lib.hid (node_any _ hi next parent _ n c nds (h.below (HM0.out.bel.mono hh)) (Nat.le_trans hh HM0.out.bel.size) hr.rise hn (.pointer (some ⟨b, o + i * 7, none⟩)) (by rw [hix]; exact ⟨b, o, rfl, rfl⟩))
  have d0 : (parent == 0) = false := by rw [beq_eq_false_iff_ne]; exact h0
  have HROW := Lib.hid hrow
  have HKN := Lib.hid hkn
  have HR := Lib.hid hrr
  have HKS := Lib.hid hkids
  have hnk4 : nk ≤ 4096 := by omega
  clear hat0 hlf hat hrow hkn hrr hkids hnd hix hgi h0
  go_enter Try.func98, Try.ntmps98
  go_wp2_with (go_at_call 79; go_must (refine HNo.out.mono ?_; rintro e w2 ⟨rfl, hb2⟩; have hm2 := HM0.out.after hb2; have ha2 := HAT.out w2 hm2.bel; have HM2 := Lib.hid hm2; clear hb2 hm2))
  go_loopw [7, 8, 9, 10, 33] (fun v7 v8 v9 v10 v33 wr => ∃ (j behind places : Nat), j ≤ nk ∧ behind ≤ nk ∧ places ≤ j ∧ v7 = .int .i64 behind ∧ v8 = .int .i64 places ∧ v33 = .int .i64 j ∧ Hid (r = amongF (inRoleB nds role) at_ j behind places (nd.kids.drop j)) ∧ SM w parent role at_ next (some ⟨b, o, none⟩) n c wr) (fun _ _ _ _ v _ => nk - (intOf v).toNat)
  case atStart =>
    exact ⟨0, nk, 0, Nat.zero_le _, Nat.le_refl _, Nat.le_refl _, rfl, rfl, rfl, Lib.hid (by rw [← HR.out, HKN.out]; rfl), HM2.out⟩
  case round =>
    clear HM2 HM0 HNo
    obtain ⟨j, behind, places, hj, hbe, hpl, rfl, rfl, rfl, HAM, M⟩ := hrel
    have HM := Lib.hid M
    clear M
    rename World => wr
    by_cases hlt : j < nk
    · obtain ⟨kid, hkid⟩ : ∃ kid, nd.kids[j]? = some kid := ⟨nd.kids[j]'(by have := HKN.out; omega), List.getElem?_eq_getElem _⟩
      obtain ⟨bk, ok, rfl, _, hbk, hcells⟩ := HROW.out.at_ (by omega)
      have hkc := (HM.out.bel.cell (p := ⟨bk, _, none⟩) (Nat.lt_of_lt_of_le hbk hh)).trans (hcells j _ (intCells_get hkid))
      have hkd : nd.kids.drop j = kid :: nd.kids.drop (j + 1) := by
        obtain ⟨hl', rfl⟩ := List.getElem?_eq_some_iff.1 hkid
        exact List.drop_eq_getElem_cons hl'
      obtain ⟨x, hx⟩ := HKS.out kid (List.mem_of_getElem? hkid)
      obtain ⟨q, hqx, hgq⟩ := ixOf_of_ndOf hx
      have hqn := ixOf_lt hqx
      rw [HL.out] at hqn
      have hxr : wr.cell? ⟨b, o + q * 7 + 3, none⟩ = some (.string x.role) := (HM.out.bel.cell (p := ⟨b, _, none⟩) (Nat.lt_of_lt_of_le hb hh)).trans (hV q x hgq).1.c3
      have HNq : Hid (∀ d os, Calls Try.prog 79 #[.agg #[.int .i64 next, .slice (some ⟨b, o, none⟩) n c], .int .i64 kid] (grow (redrawn wr d) os) (Ret (grow (redrawn wr d) os) (.pointer (some ⟨b, o + q * 7, none⟩)))) := Lib.hid fun d os => by
        have hz := HM.out.bel.trans ((below_regrown wr d os).mono HM.out.bel.size)
        exact node_any _ hi next kid _ n c nds (h.below (hz.mono hh)) (Nat.le_trans hh hz.size) hr.rise hn _ (by rw [hqx]; exact ⟨b, o, rfl, rfl⟩)
      have hf : inRoleB nds role kid = (x.role.toList == role.toList) := by unfold inRoleB; rw [hx]
      have hst := HAM.out
      rw [hkd, amongF, hf] at hst
      have p0 := cell_regrown ((HM.out.m.cell 0).trans (show _ = some (.int .i64 next) from rfl))
      have p1 := cell_regrown ((HM.out.m.cell 1).trans (show _ = some (.slice (some ⟨b, o, none⟩) n c) from rfl))
      have p2 := cell_regrown ((HM.out.s.cell 1).trans (show _ = some (.string role) from rfl))
      have p3 := cell_regrown hxr
      clear HAM hkid hcells hkd hx hqx hgq hf hxr
      cases d1 : (x.role.toList == role.toList) with
      | false =>
        rw [d1] at hst
        have HAM : Hid (r = amongF (inRoleB nds role) at_ (j + 1) behind places (nd.kids.drop (j + 1))) := Lib.hid hst
        clear hst
        go_wp2_with fail
        refine wp_region_quiet_below (by kernel_rfl) (by kernel_rfl) ?_
        repeat (go_big_quiet_step ((go_at_call 79; exact regrown_ret (HNq.out _ _))))
        refine wpQuiet_nil ?_
        intro _ hw'
        obtain ⟨⟨dq, osq⟩, hw''⟩ := hw'
        subst hw''
        have HM3 := Lib.hid (HM.out.after (below_regrown wr dq osq))
        generalize grow (redrawn wr dq) osq = w3 at HM3 ⊢
        clear p0 p1 p2 p3
        have s2 := HM3.out.s.cell 2
        simp at s2
        go_wp2_with fail
        go_roundw
        case measure => simp only [intOf]; omega
        case rel => exact ⟨j + 1, behind, places, by omega, hbe, by omega, rfl, rfl, by simp, HAM, HM3.out⟩
      | true =>
        rw [d1, if_pos rfl] at hst
        by_cases e2 : (places : Int) = at_
        · rw [if_pos e2] at hst
          have d2 : ((places : Int) == at_) = true := by rw [beq_iff_eq]; exact e2
          have HX := Lib.hid hst
          clear hst e2
          go_wp2_with fail
          refine wp_region_quiet_below (by kernel_rfl) (by kernel_rfl) ?_
          repeat (go_big_quiet_step ((go_at_call 79; exact regrown_ret (HNq.out _ _))))
          refine wpQuiet_nil ?_
          intro _ hw'
          obtain ⟨⟨dq, osq⟩, hw''⟩ := hw'
          subst hw''
          have HM3 := Lib.hid (HM.out.after (below_regrown wr dq osq))
          generalize grow (redrawn wr dq) osq = w3 at HM3 ⊢
          clear p0 p1 p2 p3
          have s2 := HM3.out.s.cell 2
          simp at s2
          go_wp2_with fail
          go_ret2
          obtain rfl := HX.out
          exact ret_mk rfl HM3.out.bel
        · rw [if_neg e2] at hst
          have d2 : ((places : Int) == at_) = false := by rw [beq_eq_false_iff_ne]; exact e2
          have HAM : Hid (r = amongF (inRoleB nds role) at_ (j + 1) (j + 1) (places + 1) (nd.kids.drop (j + 1))) := Lib.hid hst
          clear hst e2
          go_wp2_with fail
          refine wp_region_quiet_below (by kernel_rfl) (by kernel_rfl) ?_
          repeat (go_big_quiet_step ((go_at_call 79; exact regrown_ret (HNq.out _ _))))
          refine wpQuiet_nil ?_
          intro _ hw'
          obtain ⟨⟨dq, osq⟩, hw''⟩ := hw'
          subst hw''
          have HM3 := Lib.hid (HM.out.after (below_regrown wr dq osq))
          generalize grow (redrawn wr dq) osq = w3 at HM3 ⊢
          clear p0 p1 p2 p3
          have s2 := HM3.out.s.cell 2
          simp at s2
          go_wp2_with fail
          go_roundw
          case measure => simp only [intOf]; omega
          case rel => exact ⟨j + 1, j + 1, places + 1, by omega, by omega, by omega, by simp, by simp, by simp, HAM, HM3.out⟩
    · have hjn : j = nk := by omega
      subst hjn
      have hst := HAM.out
      rw [List.drop_eq_nil_of_le (by have := HKN.out; omega), amongF] at hst
      have HX := Lib.hid hst
      have s2 := HM.out.s.cell 2
      simp at s2
      clear hst HAM h
      go_wp2_with fail
      go_quiet (fail)
      go_wp2_with fail
      go_ret2
      obtain rfl := HX.out
      exact ret_mk rfl (below_drewN HM.out.bel _)
end Go.Proofs.Ytmjkcbhkmkofjaa

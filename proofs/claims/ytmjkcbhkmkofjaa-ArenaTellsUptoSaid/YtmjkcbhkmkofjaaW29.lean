/-
  WALKS: the document's: a node's kids in a role; the place ahead of which a place of a role is.
-/
import Derived.Test.YtmjkcbhkmkofjaaW27
namespace Go.Proofs.Ytmjkcbhkmkofjaa
open Go Go.RowKit Go.Sort
set_option linter.unusedVariables false
attribute [local go_sem ↓] Go.wp_at_zero Go.wp_at_succ

/-- the box of a model, and a list of numbers that grows -/
structure KW (w : World) (next : Int) (A : Option Addr) (n c : Nat) (ov : Value) (l : List Int) (wr : World) : Prop where
  m : M1 w next A n c wr
  own : wr.ownsRow w.heap.size 3 1 ov l.length (intCells l)
section
variable {w X X' : World} {next : Int} {A : Option Addr} {n c : Nat} {ov : Value} {l : List Int}
theorem KW.after (h : KW w next A n c ov l X) (hb : Below X.heap.size X X') : KW w next A n c ov l X' := ⟨h.m.after hb, own_after h.own hb⟩
theorem KW.push {x : Int} {v' : Value} (h : KW w next A n c ov l X) (hg : X.grownBy X' ov.ownBlock) (hown : X'.ownsRow w.heap.size 3 1 v' (l.length + 1) (intCells l ++ [.int .i64 x])) : KW w next A n c v' (l ++ [x]) X' := by
  refine ⟨⟨h.m.a.grown hg (Ne.symm (own_blk_ne h.own h.m.a (by decide))), below_grows h.m.bel hg h.own (Nat.le_refl _)⟩, ?_⟩
  rw [List.length_append, List.length_singleton, show intCells (l ++ [x]) = intCells l ++ [.int .i64 x] from by simp [intCells]]
  exact hown
end

set_option maxRecDepth 20000 in
set_option maxHeartbeats 3200000 in
theorem refKids_any (w : World) (hi : Nat) (next id : Int) (role : ByteArray) (A : Option Addr) (n c : Nat) (nds : List Nd) (h : NodesIn w 0 hi A n c nds) (hh : hi ≤ w.heap.size)
    (nd : Nd) (hr : KOk nds nd) (hnd : ndOf nds id = some nd) :
    Calls Try.prog 89 #[.agg #[.int .i64 next, .slice A n c], .int .i64 id, .string role] w fun e w' => ∃ v, e = .returned v ∧ w'.ownsRow w.heap.size 3 1 v (nd.kids.filter (inRoleB nds role)).length (intCells (nd.kids.filter (inRoleB nds role))) ∧ Below w.heap.size w w' := by
  have hc := h.2.2.1
  have hnc := h.2.1
  have HL := Lib.hid h.1
  have hn : n ≤ 4096 := by rw [← h.1]; exact hr.len
  unfold maxLen at hc
  obtain ⟨i, hix, hgi⟩ := ixOf_of_ndOf hnd
  have hin := ixOf_lt hix
  rw [HL.out] at hin
  have hkl := hr.kl
  have hkids := hr.kids
  obtain ⟨b, o, hA, _, hb, V, hV⟩ := h.all (by omega)
  have hat0 := (hV i nd hgi).1.c5
  have hlf := (hV i nd hgi).2
  generalize V i = L at hat0 hlf
  obtain ⟨_, ⟨Ak, nk, ck⟩, _⟩ := L
  have hkn : nk = nd.kids.length := hlf.kn
  have hrow := hlf.k
  simp only at hat0 hrow
  subst hA
  have hnk := hrow.2.1
  have hck := hrow.2.2.1
  unfold maxLen at hck
  obtain ⟨i0, hi0, hz0, hz1, hz2⟩ := info_parts intInfo
  have HM0 := Lib.hid (M1.start w next (some ⟨b, o, none⟩) n c)
  have HAts : Hid (∀ wr, Below w.heap.size w wr → ∀ y j, ixOf nds y = some j → ∀ d os, Calls Try.prog 51 #[.agg #[.int .i64 next, .slice (some ⟨b, o, none⟩) n c], .int .i64 y] (grow (redrawn wr d) os) (Ret (grow (redrawn wr d) os) (.int .i64 j))) := Lib.hid fun wr hbr y j hy d os => by
    have hz := hbr.trans ((below_regrown wr d os).mono hbr.size)
    have := refAt_any _ hi next y _ n c nds (h.below (hz.mono hh)) (Nat.le_trans hh hz.size) hr.rise hn
    rw [show atV nds y = j from by unfold atV; rw [hy]] at this
    exact this
  have HAt := Lib.hid (HAts.out _ HM0.out.bel id i hix)
  have q0 := cell_regrown ((HM0.out.a.cell 0).trans (show _ = some (.int .i64 next) from rfl))
  have q1 := cell_regrown ((HM0.out.a.cell 1).trans (show _ = some (.slice (some ⟨b, o, none⟩) n c) from rfl))
  have q2 := cell_regrown ((HM0.out.bel.cell (p := ⟨b, _, none⟩) (Nat.lt_of_lt_of_le hb hh)).trans hat0)
  have HROW := Lib.hid hrow
  have HKN := Lib.hid hkn
  have HKS := Lib.hid hkids
  have hnk4 : nk ≤ 4096 := by omega
  clear hat0 hlf hrow hkn hkids hnd hix hgi
  go_enter Try.func89, Try.ntmps89
  go_wp2_with fail
  refine wp_region_quiet_below (by kernel_rfl) (by kernel_rfl) ?_
  repeat (go_big_quiet_step ((go_at_call 51; exact regrown_ret (HAt.out _ _))))
  refine wpQuiet_nil ?_
  intro _ hw'
  obtain ⟨⟨dq, osq⟩, hw''⟩ := hw'
  subst hw''
  have HM2 := Lib.hid (HM0.out.after (below_regrown _ dq osq))
  generalize grow (redrawn _ dq) osq = w2 at HM2 ⊢
  clear q0 q1 q2
  go_wp2_with fail
  go_loopw [7, 9] (fun ov v9 wr => ∃ (j : Nat), j ≤ nk ∧ v9 = .int .i64 j ∧ KW w next (some ⟨b, o, none⟩) n c ov ((nd.kids.take j).filter (inRoleB nds role)) wr) (fun _ v _ => nk - (intOf v).toNat)
  case atStart => exact ⟨0, Nat.zero_le _, rfl, HM2.out, ⟨rfl, .inl ⟨rfl, rfl⟩⟩⟩
  case round =>
    clear HM2 HM0 HAt
    obtain ⟨j, hj, rfl, W⟩ := hrel
    obtain ⟨fl, hfl⟩ : ∃ fl, (nd.kids.take j).filter (inRoleB nds role) = fl := ⟨_, rfl⟩
    rw [hfl] at W
    have HFL := Lib.hid hfl
    have HW := Lib.hid W
    clear W hfl
    rename World => wr
    by_cases hlt : j < nk
    · obtain ⟨kid, hkid⟩ : ∃ kid, nd.kids[j]? = some kid := ⟨nd.kids[j]'(by have := HKN.out; omega), List.getElem?_eq_getElem _⟩
      obtain ⟨bk, ok, rfl, _, hbk, hcells⟩ := HROW.out.at_ (by omega)
      have hkc := (HW.out.m.bel.cell (p := ⟨bk, _, none⟩) (Nat.lt_of_lt_of_le hbk hh)).trans (hcells j _ (intCells_get hkid))
      obtain ⟨x, hx⟩ := HKS.out kid (List.mem_of_getElem? hkid)
      obtain ⟨q, hqx, hgq⟩ := ixOf_of_ndOf hx
      have hqn := ixOf_lt hqx
      rw [HL.out] at hqn
      have hxr : wr.cell? ⟨b, o + q * 7 + 3, none⟩ = some (.string x.role) := (HW.out.m.bel.cell (p := ⟨b, _, none⟩) (Nat.lt_of_lt_of_le hb hh)).trans (hV q x hgq).1.c3
      have HAt := Lib.hid (HAts.out wr HW.out.m.bel kid q hqx)
      have hf : inRoleB nds role kid = (x.role.toList == role.toList) := by unfold inRoleB; rw [hx]
      have htk : nd.kids.take (j + 1) = nd.kids.take j ++ [kid] := by rw [List.take_add_one, hkid]; rfl
      have q0 := cell_regrown ((HW.out.m.a.cell 0).trans (show _ = some (.int .i64 next) from rfl))
      have q1 := cell_regrown ((HW.out.m.a.cell 1).trans (show _ = some (.slice (some ⟨b, o, none⟩) n c) from rfl))
      have q2 := cell_regrown hxr
      have q3 := cell_regrown hkc
      have HKC := Lib.hid hkc
      have hlen : fl.length ≤ 4096 := by
        have h1 := HFL.out
        have h2 := List.length_filter_le (inRoleB nds role) (nd.kids.take j)
        rw [h1, List.length_take] at h2
        omega
      have hbkr : bk < wr.heap.size := Nat.lt_of_lt_of_le (Nat.lt_of_lt_of_le hbk hh) HW.out.m.bel.size
      clear hkid hcells hx hqx hgq hxr hkc
      cases d1 : (x.role.toList == role.toList) with
      | false =>
        have HN : Hid ((nd.kids.take (j + 1)).filter (inRoleB nds role) = fl) := Lib.hid (by rw [htk, List.filter_append, HFL.out, List.filter_cons_of_neg (by rw [hf, d1]; simp), List.filter_nil, List.append_nil])
        clear hf htk
        go_wp2_with fail
        refine wp_region_quiet_below (by kernel_rfl) (by kernel_rfl) ?_
        repeat (go_big_quiet_step ((go_at_call 51; exact regrown_ret (HAt.out _ _))))
        refine wpQuiet_nil ?_
        intro _ hw'
        obtain ⟨⟨dq, osq⟩, hw''⟩ := hw'
        subst hw''
        have HW3 := Lib.hid (HW.out.after (below_regrown wr dq osq))
        generalize grow (redrawn wr dq) osq = w3 at HW3 ⊢
        clear q0 q1 q2 q3
        go_wp2_with fail
        go_roundw
        case measure => simp only [intOf]; omega
        case rel => exact ⟨j + 1, by omega, by simp, by rw [HN.out]; exact HW3.out⟩
      | true =>
        have HN : Hid ((nd.kids.take (j + 1)).filter (inRoleB nds role) = fl ++ [kid]) := Lib.hid (by rw [htk, List.filter_append, HFL.out, List.filter_cons_of_pos (by rw [hf, d1]), List.filter_nil])
        clear hf htk
        go_wp2_with fail
        refine wp_region_quiet_below (by kernel_rfl) (by kernel_rfl) ?_
        repeat (go_big_quiet_step ((go_at_call 51; exact regrown_ret (HAt.out _ _))))
        refine wpQuiet_nil ?_
        intro _ hw'
        obtain ⟨⟨dq, osq⟩, hw''⟩ := hw'
        subst hw''
        have HW3 := Lib.hid (HW.out.after (below_regrown wr dq osq))
        have kc3 := ((below_regrown wr dq osq).cell (p := ⟨bk, _, none⟩) hbkr).trans HKC.out
        generalize grow (redrawn wr dq) osq = w3 at HW3 kc3 ⊢
        clear q0 q1 q2 q3
        go_wp2_with (at_builtin; go_must (refine wpList_app _ rfl (.tmp 37) (.tmp 42) _ rfl w.heap.size 3 i0 _ 1 8 Try.underlying48 hi0 hz0 hz1 hz2 rfl (by omega) u7 fl.length (intCells fl) rfl (own_after HW3.out.own (below_more (Below.refl _ _) _)) w3.heap.size (w3.heap.size + 1) (some ⟨w3.heap.size, 0, none⟩) 1 1 [.int .i64 kid] rfl (row_blk (n := 1) (Blk.new' rfl) rfl (Nat.le_refl _) (by unfold maxLen; omega)) (by simp [Value.oneCell']) (by unfold maxLen; omega) (by omega) (Nat.le_trans HW3.out.m.bel.size (by simp)) ?_); go_must (intro v7 w7 hown7 hg7 _; obtain ⟨G7, cap7, rfl, hca7, hcb7⟩ := own_slice hown7; have HW7 := Lib.hid ((HW3.out.after (below_more (Below.refl _ _) _)).push hg7 hown7); clear hown7 hg7))
        go_roundw
        case measure => simp only [intOf]; omega
        case rel => exact ⟨j + 1, by omega, by simp, by rw [HN.out]; exact HW7.out⟩
    · have hjn : j = nk := by omega
      subst hjn
      have hfin : fl = nd.kids.filter (inRoleB nds role) := by rw [← HFL.out, List.take_of_length_le (by have := HKN.out; omega)]
      subst hfin
      obtain ⟨Ao, co, rfl⟩ := own_form HW.out.own
      clear h
      go_wp2_with fail
      go_ret
      exact ⟨_, rfl, HW.out.own, HW.out.m.bel⟩
end Go.Proofs.Ytmjkcbhkmkofjaa

/-
  WALKS: the document's: what is below a node, by a stack.
-/
import Derived.Test.YtdeoblhdojbbbaaDoorZ22
namespace Go.Proofs.YtdeoblhdojbbbaaDoor
open Go Go.RowKit Go.Sort
set_option linter.unusedVariables false
attribute [local go_sem ↓] Go.wp_at_zero Go.wp_at_succ
/-- the box of a model, and two lists of numbers that grow -/
structure DW (w : World) (next : Int) (A : Option Addr) (n c : Nat) (ov : Value) (out : List Int) (sv : Value) (st : List Int) (X : World) : Prop where
  m : M1 w next A n c X
  o : X.ownsRow w.heap.size 3 1 ov out.length (intCells out)
  s : X.ownsRow w.heap.size 3 1 sv st.length (intCells st)
  ne : ov.ownBlock = none ∨ ov.ownBlock ≠ sv.ownBlock
section
variable {w X X' : World} {next : Int} {A : Option Addr} {n c : Nat} {ov sv : Value} {out st : List Int}
theorem own_lt {B size n : Nat} {e : TypeId} {v : Value} {xs : List Value} (h : X.ownsRow B e size v n xs) {g : Nat} (hg : v.ownBlock = some g) : g < X.heap.size := by
  rcases h.2 with ⟨rfl, _⟩ | ⟨g', cap, cur, rfl, _, hh, _⟩
  · simp [Value.ownBlock] at hg
  · have : g' = g := by simpa [Value.ownBlock] using hg
    subst this
    exact (Array.getElem?_eq_some_iff.1 hh).1
theorem DW.after (h : DW w next A n c ov out sv st X) (hb : Below X.heap.size X X') : DW w next A n c ov out sv st X' := ⟨h.m.after hb, own_after h.o hb, own_after h.s hb, h.ne⟩
theorem DW.pushO {x : Int} {v' : Value} (h : DW w next A n c ov out sv st X) (hg : X.grownBy X' ov.ownBlock) (hown : X'.ownsRow w.heap.size 3 1 v' (out.length + 1) (intCells out ++ [.int .i64 x])) (hb : v'.ownBlock = ov.ownBlock ∨ v'.ownBlock = some X.heap.size) :
    DW w next A n c v' (out ++ [x]) sv st X' := by
  refine ⟨⟨h.m.a.grown hg (Ne.symm (own_blk_ne h.o h.m.a (by decide))), below_grows h.m.bel hg h.o (Nat.le_refl _)⟩, ?_, h.s.kept hg ?_, ?_⟩
  · rw [List.length_append, List.length_singleton, show intCells (out ++ [x]) = intCells out ++ [.int .i64 x] from by simp [intCells]]
    exact hown
  · cases hs : sv.ownBlock with
    | none => exact .inl rfl
    | some g =>
      right
      intro e
      rcases h.ne with h1 | h1
      · rw [h1] at e; cases e
      · exact h1 (by rw [hs]; exact e.symm)
  · rcases hb with hb | hb
    · rw [hb]; exact h.ne
    · right
      rw [hb]
      intro e
      have := own_lt h.s e.symm
      omega
theorem DW.pushS {x : Int} {v' : Value} (h : DW w next A n c ov out sv st X) (hg : X.grownBy X' sv.ownBlock) (hown : X'.ownsRow w.heap.size 3 1 v' (st.length + 1) (intCells st ++ [.int .i64 x])) (hb : v'.ownBlock = sv.ownBlock ∨ v'.ownBlock = some X.heap.size) :
    DW w next A n c ov out v' (st ++ [x]) X' := by
  refine ⟨⟨h.m.a.grown hg (Ne.symm (own_blk_ne h.s h.m.a (by decide))), below_grows h.m.bel hg h.s (Nat.le_refl _)⟩, h.o.kept hg h.ne, ?_, ?_⟩
  · rw [List.length_append, List.length_singleton, show intCells (st ++ [x]) = intCells st ++ [.int .i64 x] from by simp [intCells]]
    exact hown
  · rcases hb with hb | hb
    · rw [hb]; exact h.ne
    · cases ho : ov.ownBlock with
      | none => exact .inl rfl
      | some g =>
        right
        rw [hb]
        intro e
        have := own_lt h.o (ho.trans e)
        omega
theorem DW.pop {x : Int} {As : Option Addr} {cs : Nat} (h : DW w next A n c ov out (.slice As (st.length + 1) cs) (st ++ [x]) X) (hA : As ≠ none) : DW w next A n c ov out (.slice As st.length cs) st X := by
  have h1 := h.s
  rw [List.length_append, List.length_singleton] at h1
  have h2 := own_take h1 (Nat.le_succ _) hA
  refine ⟨h.m, h.o, ?_, ?_⟩
  · have e : (intCells (st ++ [x])).take (st.length * 1) = intCells st := by
      rw [show intCells (st ++ [x]) = intCells st ++ [.int .i64 x] from by simp [intCells], Nat.mul_one, List.take_left' (intCells_length st)]
    rw [e] at h2
    exact h2
  · obtain ⟨a, rfl⟩ : ∃ a, As = some a := by cases As with | none => exact absurd rfl hA | some a => exact ⟨a, rfl⟩
    exact h.ne
theorem flat_len (nds : List Nd) (l : List Int) : l.length ≤ (l.flatMap (preI nds)).length := by
  induction l with
  | nil => simp
  | cons x r ih =>
    obtain ⟨q, hq⟩ := preI_cons nds x
    rw [List.flatMap_cons, List.length_append, hq, List.length_cons, List.length_cons]
    omega
theorem dw_start (w : World) (next : Int) (A : Option Addr) (n c : Nat) (id : Int) :
    DW w next A n c (.slice none 0 0) [] (.slice (some ⟨w.heap.size + 1, 0, none⟩) 1 1) [id] ((w.alloc (.cells #[.int .i64 next, .slice A n c] 24)).alloc (.cells #[.int .i64 id] 3)) := by
  refine ⟨⟨(Blk.new _ _ _).alloc _, below_more (below_more (Below.refl _ _) _) _⟩, ⟨rfl, .inl ⟨rfl, rfl⟩⟩, ⟨rfl, .inr ⟨w.heap.size + 1, 1, #[.int .i64 id], rfl, by omega, Blk.new' (by simp), Nat.le_refl _, by unfold maxLen; omega, rfl, rfl⟩⟩, .inl rfl⟩
end
set_option maxRecDepth 20000 in
set_option maxHeartbeats 6400000 in
theorem refDown_any (w : World) (hi : Nat) (next id : Int) (A : Option Addr) (n c : Nat) (nds : List Nd) (h : NodesIn w 0 hi A n c nds) (hh : hi ≤ w.heap.size) (hR : RightM next nds) (nd0 : Nd) (hnd0 : ndOf nds id = some nd0) :
    Calls Tryd.prog 38 #[.agg #[.int .i64 next, .slice A n c], .int .i64 id] w (ListR w (belowV nds id)) := by
  have hc := h.2.2.1
  have hnc := h.2.1
  have HL := Lib.hid h.1
  have hn4 : n ≤ 4096 := by rw [← h.1]; exact hR.len
  unfold maxLen at hc
  obtain ⟨i0, hi0, hz0, hz1, hz2⟩ := info_parts intInfo
  have hPl := preI_len hR hnd0
  rw [HL.out] at hPl
  have HPM : Hid (∀ y ∈ preI nds id, ∃ nd', ndOf nds y = some nd') := Lib.hid fun y hy => preI_mem hR hnd0 hy
  have HPF : Hid ((preI nds id).filter (fun y => y != id) = belowV nds id) := Lib.hid (by rw [preI_rest hR hnd0]; unfold belowV; rw [kidsV_of hnd0])
  have HPS : Hid ([] ++ [id].reverse.flatMap (preI nds) = preI nds id) := Lib.hid (by simp)
  generalize preI nds id = P at hPl HPM HPF HPS
  have HW0 := Lib.hid (dw_start w next A n c id)
  have HAts : Hid (∀ wr, Below w.heap.size w wr → ∀ y j, ixOf nds y = some j → ∀ d os, Calls Tryd.prog 39 #[.agg #[.int .i64 next, .slice A n c], .int .i64 y] (grow (redrawn wr d) os) (Ret (grow (redrawn wr d) os) (.int .i64 j))) := Lib.hid fun wr hbr y j hy d os => by
    have hz := hbr.trans ((below_regrown wr d os).mono hbr.size)
    have := refAt_any _ hi next y _ n c nds (h.below (hz.mono hh)) (Nat.le_trans hh hz.size) hR.rise hn4
    rw [show atV nds y = j from by unfold atV; rw [hy]] at this
    exact this
  go_enter Tryd.func38, Tryd.ntmps38
  go_wp2_with fail
  go_loopg [5, 6] P.length (fun gk ov sv wr => ∃ (dn st : List Int), Hid (gk = P.length - dn.length) ∧ DW w next A n c ov (dn.filter (fun y => y != id)) sv st wr ∧ Hid (dn ++ st.reverse.flatMap (preI nds) = P))
  case atStart => exact ⟨[], [id], Lib.hid (by simp), HW0.out, HPS⟩
  case round =>
    clear HW0 HPS
    obtain ⟨dn, st, HG, W, HE⟩ := hrel
    rename World => wr
    have hst : dn.length + st.length ≤ 4096 := by
      have h1 := congrArg List.length HE.out
      rw [List.length_append] at h1
      have h2 := flat_len nds st.reverse
      rw [List.length_reverse] at h2
      omega
    obtain ⟨fo, hfo⟩ : ∃ fo, dn.filter (fun y => y != id) = fo := ⟨_, rfl⟩
    have hfl : fo.length ≤ dn.length := by rw [← hfo]; exact List.length_filter_le _ _
    rw [hfo] at W
    have HFO := Lib.hid hfo
    clear hfo
    rcases List.eq_nil_or_concat st with hs0 | ⟨st0, top, hs0⟩
    · subst hs0
      have hdn : dn = P := by have := HE.out; simpa using this
      have HX : Hid (fo = belowV nds id) := Lib.hid (by rw [← HFO.out, hdn]; exact HPF.out)
      obtain ⟨As, cs, rfl⟩ := own_form W.s
      obtain ⟨Ao, co, rfl⟩ := own_form W.o
      have HW := Lib.hid W
      clear h hdn W
      go_wp2_with fail
      go_ret
      rw [← HX.out]
      exact ⟨_, rfl, HW.out.o, HW.out.m.bel⟩
    · rw [List.concat_eq_append] at hs0
      subst hs0
      have hsl : st0.length ≤ 4095 := by rw [List.length_append, List.length_singleton] at hst; omega
      have htop : top ∈ P := by
        rw [← HE.out, List.reverse_append, List.reverse_singleton, List.flatMap_append]
        obtain ⟨q, hq⟩ := preI_cons nds top
        simp [hq]
      obtain ⟨nd, hnd⟩ := HPM.out top htop
      obtain ⟨As, cs, hsv⟩ := own_form W.s
      rw [List.length_append, List.length_singleton] at hsv
      subst hsv
      have hws := W.s
      rw [List.length_append, List.length_singleton] at hws
      have hrow := own_row hws
      obtain ⟨bs, os, hAs, _, hbs, hcs⟩ := hrow.2.2.2 (by simp)
      subst hAs
      have htc := hcs st0.length (.int .i64 top) (by simp [intCells])
      have hck := hrow.2.1
      have hck2 := hrow.2.2.1
      clear hws
      unfold maxLen at hck2
      have HW := Lib.hid (W.pop (by simp))
      obtain ⟨i, hix, hgi, hie⟩ := ndOf_some hnd
      have hin := ixOf_lt hix
      rw [HL.out] at hin
      obtain ⟨b, o, hA, _, hb, V, hV⟩ := h.all (by omega)
      have hat := (hV i nd hgi).1.c5
      have hlf := (hV i nd hgi).2
      generalize V i = L at hat hlf
      obtain ⟨_, ⟨Ak, nk, ck⟩, _⟩ := L
      have hkn : nk = nd.kids.length := hlf.kn
      have hkrow := hlf.k
      simp only at hat hkrow
      have hnk := hkrow.2.1
      have hckk := hkrow.2.2.1
      unfold maxLen at hckk
      subst hA
      have HAT : Hid (∀ X, Below w.heap.size w X → X.cell? ⟨b, o + i * 7 + 5, none⟩ = some (.slice Ak nk ck)) := Lib.hid fun X hX => (hX.cell (p := ⟨b, _, none⟩) (Nat.lt_of_lt_of_le hb hh)).trans hat
      have HAt : Hid (∀ wr, Below w.heap.size w wr → ∀ d os, Calls Tryd.prog 39 #[.agg #[.int .i64 next, .slice (some ⟨b, o, none⟩) n c], .int .i64 top] (grow (redrawn wr d) os) (Ret (grow (redrawn wr d) os) (.int .i64 i))) := Lib.hid fun wr hw => HAts.out wr hw top i hix
      have HKR := Lib.hid hkrow
      have HKN := Lib.hid hkn
      have HPN : Hid (dn ++ [top] ++ (st0 ++ nd.kids.reverse).reverse.flatMap (preI nds) = P) := Lib.hid (by
        rw [← HE.out, List.reverse_append, List.reverse_reverse, List.reverse_append, List.reverse_singleton, List.flatMap_append, List.flatMap_append]
        simp [preI_eq hR hnd])
      have hkl4 : nk + st0.length ≤ 4096 := by
        have h1 := congrArg List.length HPN.out
        rw [List.length_append] at h1
        have h2 := flat_len nds (st0 ++ nd.kids.reverse).reverse
        rw [List.length_reverse, List.length_append, List.length_reverse] at h2
        have := HKN.out
        omega
      have hdl : dn.length < P.length := by
        have h1 := congrArg List.length HPN.out
        rw [List.length_append, List.length_append, List.length_singleton] at h1
        omega
      clear hst htop hnd hrow hcs hix hgi hie hat hlf hkn hkrow hV W HAts HE hbs
      cases d1 : (top != id) with
      | false =>
        have HFN : Hid ((dn ++ [top]).filter (fun y => y != id) = fo) := Lib.hid (by rw [List.filter_append, HFO.out, List.filter_cons_of_neg (by simp [d1]), List.filter_nil, List.append_nil])
        obtain ⟨Ao, co, hov⟩ := own_form HW.out.o
        subst hov
        have HW7 := HW
        go_upto_region 8 with (fail)
        have a0 := (HW7.out.m.a.cell 0).trans (show _ = some (.int .i64 next) from rfl)
        have q0 := cell_regrown ((HW7.out.m.a.cell 0).trans (show _ = some (.int .i64 next) from rfl))
        have q1 := cell_regrown ((HW7.out.m.a.cell 1).trans (show _ = some (.slice (some ⟨b, o, none⟩) n c) from rfl))
        have q2 := cell_regrown (HAT.out _ HW7.out.m.bel)
        clear a0
        refine wp_region_quiet_below (by kernel_rfl) (by kernel_rfl) ?_
        repeat (go_big_quiet_step ((go_at_call 39; exact regrown_ret (HAt.out _ HW7.out.m.bel _ _))))
        refine wpQuiet_nil ?_
        intro _ hw'
        obtain ⟨⟨dq, osq⟩, hw''⟩ := hw'
        subst hw''
        have HW8 := Lib.hid (HW7.out.after (below_regrown _ dq osq))
        generalize grow (redrawn _ dq) osq = w8 at HW8 ⊢
        clear q0 q1 q2
        go_wp2_with fail
        obtain ⟨wo, hwo⟩ : ∃ wo : World, wo = wr := ⟨_, rfl⟩
        clear hwo
        go_loopw [6, 9] (fun sv v9 wx => ∃ (m : Nat), m ≤ nk ∧ v9 = .int .i64 ((m : Int) - 1) ∧ DW w next (some ⟨b, o, none⟩) n c (.slice Ao fo.length co) fo sv (st0 ++ (nd.kids.drop m).reverse) wx) (fun _ v _ => (intOf v + 1).toNat)
        case atStart => exact ⟨nk, Nat.le_refl _, rfl, by rw [List.drop_of_length_le (by have := HKN.out; omega), List.reverse_nil, List.append_nil]; exact HW8.out⟩
        case round =>
          clear HW8 HW7 HW
          obtain ⟨m, hm, hv9, W9⟩ := hrel
          rename World => wx
          cases m with
          | zero =>
            have hv8 : u9 = Value.int .i64 (-1) := hv9
            clear hv9
            subst hv8
            rw [List.drop_zero] at W9
            obtain ⟨A9, c9, hs9⟩ := own_form W9.s
            subst hs9
            have HW9 := Lib.hid W9
            clear W9
            go_wp2_with fail
            go_roundg (P.length - (dn.length + 1))
            case measure => have := HG.out; omega
            case rel => exact ⟨dn ++ [top], st0 ++ nd.kids.reverse, Lib.hid (by rw [List.length_append, List.length_singleton]), by rw [HFN.out]; exact HW9.out, HPN⟩
          | succ m =>
            have hv8 : u9 = Value.int .i64 m := by rw [hv9]; congr 1; omega
            clear hv9
            subst hv8
            obtain ⟨kid, hkid⟩ : ∃ kid, nd.kids[m]? = some kid := ⟨nd.kids[m]'(by have := HKN.out; omega), List.getElem?_eq_getElem _⟩
            obtain ⟨bk, ok, hAk, _, hbk, hcells⟩ := HKR.out.at_ (by omega)
            subst hAk
            have hkc := (W9.m.bel.cell (p := ⟨bk, _, none⟩) (Nat.lt_of_lt_of_le hbk hh)).trans (hcells m _ (intCells_get hkid))
            have hdr : st0 ++ (nd.kids.drop m).reverse = st0 ++ (nd.kids.drop (m + 1)).reverse ++ [kid] := by
              obtain ⟨hl', rfl⟩ := List.getElem?_eq_some_iff.1 hkid
              rw [List.drop_eq_getElem_cons hl', List.reverse_cons, List.append_assoc]
            have HDR := Lib.hid hdr
            have hsl9 : (st0 ++ (nd.kids.drop (m + 1)).reverse).length ≤ 4096 := by rw [List.length_append, List.length_reverse, List.length_drop]; have := HKN.out; omega
            obtain ⟨sx, hsx⟩ : ∃ sx, st0 ++ (nd.kids.drop (m + 1)).reverse = sx := ⟨_, rfl⟩
            rw [hsx] at W9 HDR hsl9
            have HW9 := Lib.hid W9
            clear hkid hcells hdr hsx W9
            go_wp2_with (at_builtin; go_must (refine wpList_app _ rfl (.tmp 48) (.tmp 53) _ rfl w.heap.size 3 i0 _ 1 8 Tryd.underlying34 hi0 hz0 hz1 hz2 rfl (by omega) u6 sx.length (intCells sx) rfl (own_after HW9.out.s (below_more (Below.refl _ _) _)) wx.heap.size (wx.heap.size + 1) (some ⟨wx.heap.size, 0, none⟩) 1 1 [.int .i64 kid] rfl (row_blk (n := 1) (Blk.new' rfl) rfl (Nat.le_refl _) (by unfold maxLen; omega)) (by simp [Value.oneCell']) (by unfold maxLen; omega) (by omega) (Nat.le_trans HW9.out.m.bel.size (by simp)) ?_); go_must (intro v7 w7 hown7 hg7 hn7; obtain ⟨G7, cap7, rfl, hca7, hcb7⟩ := own_slice hown7; have HWx := Lib.hid ((HW9.out.after (below_more (Below.refl _ _) _)).pushS hg7 hown7 hn7); clear hown7 hg7 hn7))
            go_roundw
            case measure => simp only [intOf]; omega
            case rel => exact ⟨m, by omega, by simp, by rw [HDR.out]; exact HWx.out⟩
      | true =>
        have HFN : Hid ((dn ++ [top]).filter (fun y => y != id) = fo ++ [top]) := Lib.hid (by rw [List.filter_append, HFO.out, List.filter_cons_of_pos (by simp [d1]), List.filter_nil])
        go_upto_region 8 with (at_builtin; go_must (refine wpList_app _ rfl (.tmp 29) (.tmp 31) _ rfl w.heap.size 3 i0 _ 1 8 Tryd.underlying34 hi0 hz0 hz1 hz2 rfl (by omega) u5 fo.length (intCells fo) rfl (own_after HW.out.o (below_more (Below.refl _ _) _)) wr.heap.size (wr.heap.size + 1) (some ⟨wr.heap.size, 0, none⟩) 1 1 [.int .i64 top] rfl (row_blk (n := 1) (Blk.new' rfl) rfl (Nat.le_refl _) (by unfold maxLen; omega)) (by simp [Value.oneCell']) (by unfold maxLen; omega) (by omega) (Nat.le_trans HW.out.m.bel.size (by simp)) ?_); go_must (intro vo w7 hown7 hg7 hn7; obtain ⟨G7, cap7, rfl, hca7, hcb7⟩ := own_slice hown7; have HW7 := Lib.hid ((HW.out.after (below_more (Below.refl _ _) _)).pushO hg7 hown7 hn7); clear hown7 hg7 hn7))
        have a0 := (HW7.out.m.a.cell 0).trans (show _ = some (.int .i64 next) from rfl)
        have q0 := cell_regrown ((HW7.out.m.a.cell 0).trans (show _ = some (.int .i64 next) from rfl))
        have q1 := cell_regrown ((HW7.out.m.a.cell 1).trans (show _ = some (.slice (some ⟨b, o, none⟩) n c) from rfl))
        have q2 := cell_regrown (HAT.out _ HW7.out.m.bel)
        clear a0
        refine wp_region_quiet_below (by kernel_rfl) (by kernel_rfl) ?_
        repeat (go_big_quiet_step ((go_at_call 39; exact regrown_ret (HAt.out _ HW7.out.m.bel _ _))))
        refine wpQuiet_nil ?_
        intro _ hw'
        obtain ⟨⟨dq, osq⟩, hw''⟩ := hw'
        subst hw''
        have HW8 := Lib.hid (HW7.out.after (below_regrown _ dq osq))
        generalize grow (redrawn _ dq) osq = w8 at HW8 ⊢
        clear q0 q1 q2
        go_wp2_with fail
        obtain ⟨wo, hwo⟩ : ∃ wo : World, wo = wr := ⟨_, rfl⟩
        clear hwo
        go_loopw [6, 9] (fun sv v9 wx => ∃ (m : Nat), m ≤ nk ∧ v9 = .int .i64 ((m : Int) - 1) ∧ DW w next (some ⟨b, o, none⟩) n c (.slice (some ⟨G7, 0, none⟩) (fo.length + 1) cap7) (fo ++ [top]) sv (st0 ++ (nd.kids.drop m).reverse) wx) (fun _ v _ => (intOf v + 1).toNat)
        case atStart => exact ⟨nk, Nat.le_refl _, rfl, by rw [List.drop_of_length_le (by have := HKN.out; omega), List.reverse_nil, List.append_nil]; exact HW8.out⟩
        case round =>
          clear HW8 HW7 HW
          obtain ⟨m, hm, hv9, W9⟩ := hrel
          rename World => wx
          cases m with
          | zero =>
            have hv8 : u9 = Value.int .i64 (-1) := hv9
            clear hv9
            subst hv8
            rw [List.drop_zero] at W9
            obtain ⟨A9, c9, hs9⟩ := own_form W9.s
            subst hs9
            have HW9 := Lib.hid W9
            clear W9
            go_wp2_with fail
            go_roundg (P.length - (dn.length + 1))
            case measure => have := HG.out; omega
            case rel => exact ⟨dn ++ [top], st0 ++ nd.kids.reverse, Lib.hid (by rw [List.length_append, List.length_singleton]), by rw [HFN.out]; exact HW9.out, HPN⟩
          | succ m =>
            have hv8 : u9 = Value.int .i64 m := by rw [hv9]; congr 1; omega
            clear hv9
            subst hv8
            obtain ⟨kid, hkid⟩ : ∃ kid, nd.kids[m]? = some kid := ⟨nd.kids[m]'(by have := HKN.out; omega), List.getElem?_eq_getElem _⟩
            obtain ⟨bk, ok, hAk, _, hbk, hcells⟩ := HKR.out.at_ (by omega)
            subst hAk
            have hkc := (W9.m.bel.cell (p := ⟨bk, _, none⟩) (Nat.lt_of_lt_of_le hbk hh)).trans (hcells m _ (intCells_get hkid))
            have hdr : st0 ++ (nd.kids.drop m).reverse = st0 ++ (nd.kids.drop (m + 1)).reverse ++ [kid] := by
              obtain ⟨hl', rfl⟩ := List.getElem?_eq_some_iff.1 hkid
              rw [List.drop_eq_getElem_cons hl', List.reverse_cons, List.append_assoc]
            have HDR := Lib.hid hdr
            have hsl9 : (st0 ++ (nd.kids.drop (m + 1)).reverse).length ≤ 4096 := by rw [List.length_append, List.length_reverse, List.length_drop]; have := HKN.out; omega
            obtain ⟨sx, hsx⟩ : ∃ sx, st0 ++ (nd.kids.drop (m + 1)).reverse = sx := ⟨_, rfl⟩
            rw [hsx] at W9 HDR hsl9
            have HW9 := Lib.hid W9
            clear hkid hcells hdr hsx W9
            go_wp2_with (at_builtin; go_must (refine wpList_app _ rfl (.tmp 48) (.tmp 53) _ rfl w.heap.size 3 i0 _ 1 8 Tryd.underlying34 hi0 hz0 hz1 hz2 rfl (by omega) u6 sx.length (intCells sx) rfl (own_after HW9.out.s (below_more (Below.refl _ _) _)) wx.heap.size (wx.heap.size + 1) (some ⟨wx.heap.size, 0, none⟩) 1 1 [.int .i64 kid] rfl (row_blk (n := 1) (Blk.new' rfl) rfl (Nat.le_refl _) (by unfold maxLen; omega)) (by simp [Value.oneCell']) (by unfold maxLen; omega) (by omega) (Nat.le_trans HW9.out.m.bel.size (by simp)) ?_); go_must (intro v7 w7 hown7 hg7 hn7; obtain ⟨G7, cap7, rfl, hca7, hcb7⟩ := own_slice hown7; have HWx := Lib.hid ((HW9.out.after (below_more (Below.refl _ _) _)).pushS hg7 hown7 hn7); clear hown7 hg7 hn7))
            go_roundw
            case measure => simp only [intOf]; omega
            case rel => exact ⟨m, by omega, by simp, by rw [HDR.out]; exact HWx.out⟩
end Go.Proofs.YtdeoblhdojbbbaaDoor

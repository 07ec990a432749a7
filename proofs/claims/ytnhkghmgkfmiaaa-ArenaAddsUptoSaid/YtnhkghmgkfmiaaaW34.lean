/-
  WALKS: the document's: a node that stands nowhere is put below a parent.
-/
import Derived.Test.YtnhkghmgkfmiaaaW33
namespace Go.Proofs.Ytnhkghmgkfmiaaa
open Go Go.RowKit Go.Sort
set_option linter.unusedVariables false
attribute [local go_sem ↓] Go.wp_at_zero Go.wp_at_succ

theorem row_take {w : World} {lo hi n c a : Nat} {A : Option Addr} {xs : List Value} (h : Row w lo hi 1 A n c xs) (ha : a ≤ n) : Row w lo hi 1 A a c (xs.take a) := by
  refine ⟨by rw [List.length_take, h.1]; omega, Nat.le_trans ha h.2.1, h.2.2.1, fun h0 => ?_⟩
  obtain ⟨b, o, hA, h1, h2, hc⟩ := h.2.2.2 (by omega)
  refine ⟨b, o, hA, h1, h2, fun j u hj => hc j u ?_⟩
  rw [List.getElem?_take] at hj
  split at hj
  · exact hj
  · cases hj
theorem row_drop {w : World} {lo hi n c a b o : Nat} {xs : List Value} (h : Row w lo hi 1 (some ⟨b, o, none⟩) n c xs) (ha : a ≤ n) : Row w lo hi 1 (some ⟨b, o + a, none⟩) (n - a) (c - a) (xs.drop a) := by
  have hm := h.2.2.1
  have hn := h.2.1
  refine ⟨by rw [List.length_drop, h.1]; omega, by omega, by omega, fun h0 => ?_⟩
  obtain ⟨b', o', hA, h1, h2, hc⟩ := h.2.2.2 (by omega)
  injection hA with hA
  injection hA with e1 e2 _
  subst e1 e2
  refine ⟨_, _, rfl, h1, h2, fun j u hj => ?_⟩
  rw [List.getElem?_drop] at hj
  have := hc _ u hj
  rwa [← Nat.add_assoc] at this
theorem own_nil {B size : Nat} {e : TypeId} (w : World) : w.ownsRow B e size (.slice none 0 0) 0 [] := ⟨by simp, .inl ⟨rfl, rfl⟩⟩
theorem row_none {w : World} {lo hi c : Nat} {A : Option Addr} (hc : c ≤ maxLen) : Row w lo hi 1 A 0 c [] := ⟨rfl, Nat.zero_le _, hc, fun h => absurd h (by omega)⟩
section
variable {w X X' : World} {next : Int} {A : Option Addr} {n c : Nat} {ov : Value} {l : List Int}
theorem KW.app {v' : Value} {m : Nat} {l2 : List Int} (h : KW w next A n c ov [] X) (hg : X.grownBy X' ov.ownBlock) (hown : X'.ownsRow w.heap.size 3 1 v' m (intCells l2)) (hm : l2.length = m) : KW w next A n c v' l2 X' :=
  ⟨⟨h.m.a.grown hg (Ne.symm (own_blk_ne h.own h.m.a (by decide))), below_grows h.m.bel hg h.own (Nat.le_refl _)⟩, by rw [hm]; exact hown⟩
theorem KW.app2 {v' : Value} {m m2 : Nat} {l2 : List Int} (h : KW w next A n c ov l X) (hg : X.grownBy X' ov.ownBlock) (hown : X'.ownsRow w.heap.size 3 1 v' (m + m2) (intCells l ++ intCells l2)) (hm : l.length = m) (hm2 : l2.length = m2) : KW w next A n c v' (l ++ l2) X' :=
  ⟨⟨h.m.a.grown hg (Ne.symm (own_blk_ne h.own h.m.a (by decide))), below_grows h.m.bel hg h.own (Nat.le_refl _)⟩, by rw [List.length_append, hm, hm2, show intCells (l ++ l2) = intCells l ++ intCells l2 from by simp [intCells]]; exact hown⟩
end

set_option maxRecDepth 100000 in
set_option maxHeartbeats 6400000 in
theorem refPut_any (w : World) (B : Nat) (next id parent at_ : Int) (role : ByteArray) (g n c : Nat) (l : List (Nd × Leaf)) (h : OwnM w B (.slice (some ⟨g, 0, none⟩) n c) l) (hn : l.length = n) (hn4 : n ≤ 4096) (hr : Rise (l.map (·.1))) (ii : Nat) (p : Nd × Leaf) (hp : l[ii]? = some p) (hid : p.1.id = id) (hrs : role.size ≤ maxLen)
    (jj a : Nat) (x : Nd) (M : Leaf) (hpz : parent ≠ 0) (hx1 : l[jj]? = some (x, M)) (hx2 : x.id = parent) (hx3 : jj ≠ ii) (hx4 : a ≤ x.kids.length) (hx5 : KOk (l.map (·.1)) x) (hx6 : beforeV (inRoleB (l.map (·.1)) role) at_ x.kids = a)
    (nds' : List Nd) (hpost : nds' = ((l.map (·.1)).set ii { p.1 with par := parent, role := role }).set jj { x with kids := insAt x.kids a id }) :
    Calls Try.prog 65 #[.agg #[.int .i64 next, .slice (some ⟨g, 0, none⟩) n c], .int .i64 id, .int .i64 parent, .string role, .int .i64 at_] w (PutPost w B g n c nds') := by
  have hBg : B ≤ w.heap.size := by
    obtain ⟨cs, hg, h1, _⟩ := own_blk (n := n) (xs := allCells l) (by have := h.own; unfold OwnN at this; rw [hn] at this; exact this)
    exact Nat.le_trans h1 (Nat.le_of_lt hg.lt)
  have hgl : g < w.heap.size := by
    obtain ⟨cs, hg, h1, _⟩ := own_blk (n := n) (xs := allCells l) (by have := h.own; unfold OwnN at this; rw [hn] at this; exact this)
    exact hg.lt
  have HH := Lib.hid h
  have HM0 := Lib.hid (M1.start w next (some ⟨g, 0, none⟩) n c)
  have hnw : NodesIn w 0 w.heap.size (some ⟨g, 0, none⟩) n c (l.map (·.1)) := (h.nodesIn hn).mono (Nat.zero_le _) (Nat.le_refl _)
  have hxm : (l.map (·.1))[jj]? = some x := by rw [List.getElem?_map, hx1]; rfl
  have HBf := Lib.hid (refBefore_any _ w.heap.size next parent at_ role _ n c _ (hnw.below HM0.out.bel) HM0.out.bel.size x hx5 (by rw [← hx2]; exact ndOf_is hr hxm) a hx6)
  have HAtp : Hid (∀ X, Below w.heap.size w X → Calls Try.prog 62 #[.agg #[.int .i64 next, .slice (some ⟨g, 0, none⟩) n c], .int .i64 parent] X (Ret X (.int .i64 jj))) := Lib.hid fun X hX => by
    have h1 := refAt_any X w.heap.size next parent _ n c _ (hnw.below hX) hX.size hr hn4
    rw [show atV (l.map (·.1)) parent = jj from by unfold atV; rw [ixOf_is hr hxm hx2]] at h1
    exact h1
  obtain ⟨⟨Ap, np, cp⟩, ⟨Ak, nk, ck⟩, ⟨Ar, nr, cr⟩⟩ := M
  have hlf := h.leaf _ (List.mem_of_getElem? hx1)
  have hkn : nk = x.kids.length := hlf.kn
  have hrow := own_row hlf.k
  simp only at hrow
  have hrow0 : Row w 0 w.heap.size 1 Ak nk ck (intCells x.kids) := hrow.mono (Nat.zero_le _) (Nat.le_refl _)
  have hnk := hrow.2.1
  have hck := hrow.2.2.1
  unfold maxLen at hck
  have ha : a ≤ nk := by omega
  have hkl : nk ≤ 4096 := by have := hx5.kl; omega
  have HRT : Hid (∀ X, Below w.heap.size w X → Row X 0 w.heap.size 1 Ak a ck (intCells (x.kids.take a))) := Lib.hid fun X hX => by
    have := row_take (hrow0.below hX) ha
    unfold intCells at this ⊢
    rwa [← List.map_take] at this
  have HRW : Hid (∀ X, Below w.heap.size w X → Row X 0 w.heap.size 1 Ak nk ck (intCells x.kids)) := Lib.hid fun X hX => hrow0.below hX
  have HTL : Hid ((x.kids.take a).length = a) := Lib.hid (by rw [List.length_take]; omega)
  have HTL8 : Hid ((x.kids.take a ++ [id]).length = a + 1) := Lib.hid (by rw [List.length_append, List.length_take, List.length_singleton]; omega)
  have HDL : Hid ((x.kids.drop a).length = nk - a) := Lib.hid (by rw [List.length_drop]; omega)
  have hR := RB.start (next := next) h
  have hc5 : w.cell? ⟨g, jj * 7 + 5, none⟩ = some (.slice Ak nk ck) := by
    have := PB.cellAt (PB.start (parent := 0) (role := ⟨#[]⟩) (at_ := 0) (next := next) h) hn hx1 (j := 5) (by omega) rfl
    rw [← this]
    exact ((below_more (below_more (Below.refl _ _) _) _).cell (p := ⟨g, _, none⟩) hgl).symm
  have hf5 : w.frozen? ⟨g, jj * 7 + 5, none⟩ = false := by
    have := World.ownsRow.frozenAt (n := n) (xs := allCells l) (by have := h.own; unfold OwnN at this; rw [hn] at this; exact this) (jj * 7 + 5)
    exact this
  have HAT : Hid (∀ X, Below w.heap.size w X → X.cell? ⟨g, jj * 7 + 5, none⟩ = some (.slice Ak nk ck)) := Lib.hid fun X hX => (hX.cell (p := ⟨g, _, none⟩) hgl).trans hc5
  have HFZ : Hid (∀ X, Below w.heap.size w X → X.frozen? ⟨g, jj * 7 + 5, none⟩ = false) := Lib.hid fun X hX => (hX.frozen (p := ⟨g, _, none⟩) hgl).trans hf5
  have d0 : (parent == 0) = false := by rw [beq_eq_false_iff_ne]; exact hpz
  have hjn : jj < n := by rw [← hn]; exact (List.getElem?_eq_some_iff.1 hx1).1
  have HPOST := Lib.hid hpost
  obtain ⟨i0, hi0, hz0, hz1, hz2⟩ := info_parts intInfo
  have HKN := Lib.hid hkn
  have HLN := Lib.hid hn
  have HPP := Lib.hid hp
  have HX1 := Lib.hid hx1
  have HRI := Lib.hid hr
  have HRS := Lib.hid hrs
  have HIDp := Lib.hid hid
  have HX3 := Lib.hid hx3
  clear h hn hr hp hid hrs hx1 hx3 hx5 hx6 hpost hnw hxm hlf hkn hrow hrow0 hR hc5 hf5
  go_enter Try.func65, Try.ntmps65
  go_upto_region 7 with (first | (go_at_call 118; go_must (refine HBf.out.mono ?_; rintro e w4 ⟨rfl, hb4⟩; have hm4 := HM0.out.after hb4; have m40 := (hm4.a.cell 0).trans (show _ = some (.int .i64 next) from rfl); have m41 := (hm4.a.cell 1).trans (show _ = some (.slice (some ⟨g, 0, none⟩) n c) from rfl); have HM4 := Lib.hid hm4; clear hm4 hb4)) | (go_at_call 62; go_must (refine (HAtp.out _ HM4.out.bel).mono ?_; rintro e w5 ⟨rfl, hb5⟩; have hm5 := HM4.out.after hb5; have m50 := (hm5.a.cell 0).trans (show _ = some (.int .i64 next) from rfl); have m51 := (hm5.a.cell 1).trans (show _ = some (.slice (some ⟨g, 0, none⟩) n c) from rfl); have k55 := HAT.out _ hm5.bel; have HM5 := Lib.hid hm5; clear hm5 hb5)))
  have HKN5 : Hid (KW w next (some ⟨g, 0, none⟩) n c (.slice none 0 0) [] w5) := Lib.hid ⟨HM5.out, ⟨rfl, .inl ⟨rfl, rfl⟩⟩⟩
  go_upto_region 9 with (first | (at_builtin; (with_reducible show wpList _ _ _ (⟨some 46, _, _, _, _, _⟩ :: _) _ _); go_must (refine wpList_app _ rfl (.tmp 37) (.tmp 45) _ rfl w.heap.size 3 i0 _ 1 8 Try.underlying56 hi0 hz0 hz1 hz2 rfl (by omega) (.slice none 0 0) 0 [] rfl (own_nil _) 0 w.heap.size Ak a ck (intCells (x.kids.take a)) rfl (HRT.out _ HM5.out.bel) (intCells_one _) (by unfold maxLen; omega) (by omega) HM5.out.bel.size ?_); go_must (intro v7 w7 hown7 hg7 _; obtain ⟨A7, c7, rfl⟩ := own_form hown7; rw [Nat.zero_add, List.nil_append] at hown7; have hK7 : KW w next (some ⟨g, 0, none⟩) n c (.slice A7 a c7) (x.kids.take a) w7 := HKN5.out.app hg7 hown7 HTL.out; have m70 := (hK7.m.a.cell 0).trans (show _ = some (.int .i64 next) from rfl); have m71 := (hK7.m.a.cell 1).trans (show _ = some (.slice (some ⟨g, 0, none⟩) n c) from rfl); have HK7 := Lib.hid hK7; have HO7 := Lib.hid hown7; rw [Nat.zero_add]; clear hK7 hown7 hg7)) | (at_builtin; (with_reducible show wpList _ _ _ (⟨some 50, _, _, _, _, _⟩ :: _) _ _); go_must (refine wpList_app _ rfl (.tmp 47) (.tmp 49) _ rfl w.heap.size 3 i0 _ 1 8 Try.underlying56 hi0 hz0 hz1 hz2 rfl (by omega) (.slice A7 a c7) a (intCells (x.kids.take a)) rfl (own_after HO7.out (below_more (Below.refl _ _) _)) w7.heap.size (w7.heap.size + 1) (some ⟨w7.heap.size, 0, none⟩) 1 1 [.int .i64 id] rfl (row_blk (n := 1) (Blk.new' rfl) rfl (Nat.le_refl _) (by unfold maxLen; omega)) (by simp [Value.oneCell']) (by unfold maxLen; omega) (by omega) (Nat.le_trans HK7.out.m.bel.size (by simp)) ?_); go_must (intro v8 w8 hown8 hg8 _; obtain ⟨A8, c8, rfl⟩ := own_form hown8; have hK8 : KW w next (some ⟨g, 0, none⟩) n c (.slice A8 (a + 1) c8) (x.kids.take a ++ [id]) w8 := (HK7.out.after (below_more (Below.refl _ _) _)).push hg8 (by rw [HTL.out]; exact hown8); have m80 := (hK8.m.a.cell 0).trans (show _ = some (.int .i64 next) from rfl); have m81 := (hK8.m.a.cell 1).trans (show _ = some (.slice (some ⟨g, 0, none⟩) n c) from rfl); have k85 := HAT.out _ hK8.m.bel; have HK8 := Lib.hid hK8; rw [show intCells (x.kids.take a) ++ [.int .i64 id] = intCells (x.kids.take a ++ [id]) from by simp [intCells]] at hown8; have HO8 := Lib.hid hown8; clear hK8 hown8 hg8)))
  go_cut [12] (fun s12 wx => ∃ (A9 : Option Addr) (c9 : Nat), s12 = .slice A9 (nk + 1) c9 ∧ Hid (KW w next (some ⟨g, 0, none⟩) n c (.slice A9 (nk + 1) c9) (insAt x.kids a id) wx))
  case first =>
    have hko := (HH.out.leaf _ (List.mem_of_getElem? HX1.out)).k
    have hin : (x.kids.take a ++ [id]) ++ x.kids.drop a = insAt x.kids a id := by simp [insAt]
    have HIN := Lib.hid hin
    have hnn : a + 1 + (nk - a) = nk + 1 := by omega
    have HNN := Lib.hid hnn
    clear hin hnn
    rcases hko.2 with ⟨hv, _⟩ | ⟨g', cap', cur', hv, _⟩
    · simp only at hv
      injection hv with v1 v2 v3
      subst v1 v3
      have ha0 : a = 0 := by omega
      have hn0 : nk = 0 := by omega
      subst ha0 hn0
      clear hko v2
      go_wp2_with (at_builtin; (with_reducible show wpList _ _ _ (⟨some 60, _, _, _, _, _⟩ :: _) _ _); go_must (refine wpList_app _ rfl (.tmp 51) (.tmp 59) _ rfl w.heap.size 3 i0 _ 1 8 Try.underlying56 hi0 hz0 hz1 hz2 rfl (by omega) (.slice A8 (0 + 1) c8) (0 + 1) (intCells (x.kids.take 0 ++ [id])) rfl HO8.out 0 w.heap.size none (0 - 0) (0) (intCells (x.kids.drop 0)) rfl (HRW.out _ HK8.out.m.bel) (intCells_one _) (by unfold maxLen; omega) (by omega) HK8.out.m.bel.size ?_); go_must (intro v9 w9 hown9 hg9 _; obtain ⟨A9, c9, rfl⟩ := own_form hown9; have hK9 : KW w next (some ⟨g, 0, none⟩) n c (.slice A9 (0 + 1 + (0 - 0)) c9) ((x.kids.take 0 ++ [id]) ++ x.kids.drop 0) w9 := HK8.out.app2 hg9 hown9 HTL8.out (by have := HDL.out; omega); rw [HIN.out, HNN.out] at hK9; have HK9 := Lib.hid hK9; rw [HNN.out]; clear hK9 hown9 hg9))
      go_meet
      exact ⟨A9, c9, rfl, HK9⟩
    · simp only at hv
      injection hv with v1 v2 v3
      subst v1
      clear hko v2 v3
      have HRD : Hid (∀ X, Below w.heap.size w X → Row X 0 w.heap.size 1 (some ⟨g', a, none⟩) (nk - a) (ck - a) (intCells (x.kids.drop a))) := Lib.hid fun X hX => by
        have := row_drop (HRW.out X hX) ha
        unfold intCells at this ⊢
        rwa [← List.map_drop, Nat.zero_add] at this
      by_cases hcc : ck = a
      · have hna : nk = a := by omega
        subst hcc
        subst hna
        have HRE : Hid (∀ X, Below w.heap.size w X → Row X 0 w.heap.size 1 (some ⟨g', 0, none⟩) 0 0 (intCells (x.kids.drop nk))) := Lib.hid fun X hX => by
          rw [List.drop_eq_nil_of_le (by have := HKN.out; omega)]
          exact row_none (Nat.zero_le _)
        have HNN : Hid (nk + 1 + 0 = nk + 1) := Lib.hid rfl
        clear ha
        go_wp2_with (at_builtin; (with_reducible show wpList _ _ _ (⟨some 60, _, _, _, _, _⟩ :: _) _ _); go_must (refine wpList_app _ rfl (.tmp 51) (.tmp 59) _ rfl w.heap.size 3 i0 _ 1 8 Try.underlying56 hi0 hz0 hz1 hz2 rfl (by omega) (.slice A8 (nk + 1) c8) (nk + 1) (intCells (x.kids.take nk ++ [id])) rfl HO8.out 0 w.heap.size (some ⟨g', 0, none⟩) (0) (0) (intCells (x.kids.drop nk)) rfl (HRE.out _ HK8.out.m.bel) (intCells_one _) (by unfold maxLen; omega) (by omega) HK8.out.m.bel.size ?_); go_must (intro v9 w9 hown9 hg9 _; obtain ⟨A9, c9, rfl⟩ := own_form hown9; have hK9 : KW w next (some ⟨g, 0, none⟩) n c (.slice A9 (nk + 1 + (0)) c9) ((x.kids.take nk ++ [id]) ++ x.kids.drop nk) w9 := HK8.out.app2 hg9 hown9 HTL8.out (by have := HDL.out; omega); rw [HIN.out, HNN.out] at hK9; have HK9 := Lib.hid hK9; rw [HNN.out]; clear hK9 hown9 hg9))
        go_meet
        exact ⟨A9, c9, rfl, HK9⟩
      · go_wp2_with (at_builtin; (with_reducible show wpList _ _ _ (⟨some 60, _, _, _, _, _⟩ :: _) _ _); go_must (refine wpList_app _ rfl (.tmp 51) (.tmp 59) _ rfl w.heap.size 3 i0 _ 1 8 Try.underlying56 hi0 hz0 hz1 hz2 rfl (by omega) (.slice A8 (a + 1) c8) (a + 1) (intCells (x.kids.take a ++ [id])) rfl HO8.out 0 w.heap.size (some ⟨g', a, none⟩) (nk - a) (ck - a) (intCells (x.kids.drop a)) rfl (HRD.out _ HK8.out.m.bel) (intCells_one _) (by unfold maxLen; omega) (by omega) HK8.out.m.bel.size ?_); go_must (intro v9 w9 hown9 hg9 _; obtain ⟨A9, c9, rfl⟩ := own_form hown9; have hK9 : KW w next (some ⟨g, 0, none⟩) n c (.slice A9 (a + 1 + (nk - a)) c9) ((x.kids.take a ++ [id]) ++ x.kids.drop a) w9 := HK8.out.app2 hg9 hown9 HTL8.out (by have := HDL.out; omega); rw [HIN.out, HNN.out] at hK9; have HK9 := Lib.hid hK9; rw [HNN.out]; clear hK9 hown9 hg9))
        go_meet
        exact ⟨A9, c9, rfl, HK9⟩
  case rest =>
    rename World => w9
    obtain ⟨A9, c9, rfl, HK9⟩ := hcut
    have hil : (insAt x.kids a id).length = nk + 1 := by have := HKN.out; simp only [insAt, List.length_append, List.length_take, List.length_cons, List.length_drop]; omega
    have hr9 : RB w B next g n c l w9 := ⟨HK9.out.m.a, grown_below (World.grownBy.refl w _) HK9.out.m.bel, HH.out.after HK9.out.m.bel⟩
    have hown9 : w9.ownsRow B 3 1 (.slice A9 (nk + 1) c9) (nk + 1) (intCells (insAt x.kids a id)) := by
      have := own_mono HK9.out.own hBg
      rwa [hil] at this
    have hlf9 := hr9.own.leaf _ (List.mem_of_getElem? HX1.out)
    have HR10 := Lib.hid (hr9.store (q := ({ x with kids := insAt x.kids a id }, ⟨⟨Ap, np, cp⟩, ⟨A9, nk + 1, c9⟩, ⟨Ar, nr, cr⟩⟩)) (u := .slice A9 (nk + 1) c9) HLN.out HX1.out (j := 5) (by omega) rfl ⟨hlf9.pn, hil.symm, hlf9.rn, hlf9.p, hown9, hlf9.r, ⟨hlf9.sz.con, hlf9.sz.role, hlf9.sz.props, hlf9.sz.refs⟩⟩)
    have m90 := (HK9.out.m.a.cell 0).trans (show _ = some (.int .i64 next) from rfl)
    have m91 := (HK9.out.m.a.cell 1).trans (show _ = some (.slice (some ⟨g, 0, none⟩) n c) from rfl)
    have k95 := hr9.cellAt HLN.out HX1.out (j := 5) (by omega) rfl
    have f95 := hr9.frozenAt (j := jj * 7 + 5) HLN.out
    simp only at k95
    obtain ⟨nd, L⟩ := p
    have hii : ii < n := by rw [← HLN.out]; exact (List.getElem?_eq_some_iff.1 HPP.out).1
    have HLNd : Hid ((l.set jj ({ x with kids := insAt x.kids a id }, ⟨⟨Ap, np, cp⟩, ⟨A9, nk + 1, c9⟩, ⟨Ar, nr, cr⟩⟩)).length = n) := Lib.hid (by rw [List.length_set]; exact HLN.out)
    have HPPd : Hid ((l.set jj ({ x with kids := insAt x.kids a id }, ⟨⟨Ap, np, cp⟩, ⟨A9, nk + 1, c9⟩, ⟨Ar, nr, cr⟩⟩))[ii]? = some (nd, L)) := Lib.hid (by rw [List.getElem?_set_ne HX3.out]; exact HPP.out)
    have HRI1 : Hid (Rise ((l.set jj ({ x with kids := insAt x.kids a id }, ⟨⟨Ap, np, cp⟩, ⟨A9, nk + 1, c9⟩, ⟨Ar, nr, cr⟩⟩)).map (·.1))) := Lib.hid (by rw [List.map_set]; exact rise_set HRI.out (nd := x) (by rw [List.getElem?_map, HX1.out]; rfl) rfl)
    have HAtd : Hid (∀ X, RB w B next g n c (l.set jj ({ x with kids := insAt x.kids a id }, ⟨⟨Ap, np, cp⟩, ⟨A9, nk + 1, c9⟩, ⟨Ar, nr, cr⟩⟩)) X → Calls Try.prog 62 #[.agg #[.int .i64 next, .slice (some ⟨g, 0, none⟩) n c], .int .i64 id] X (Ret X (.int .i64 ii))) := Lib.hid fun X hX => hX.at_ HLNd.out hn4 HRI1.out HPPd.out HIDp.out
    have HSof : Hid (∀ l' X, RB w B next g n c l' X → X.cell? ⟨w.heap.size, 0, none⟩ = some (.int .i64 next) ∧ X.cell? ⟨w.heap.size, 1, none⟩ = some (.slice (some ⟨g, 0, none⟩) n c)) := Lib.hid fun l' X hX => ⟨(hX.m.cell 0).trans rfl, (hX.m.cell 1).trans rfl⟩
    clear hil hr9 hown9 hlf9
    go_upto_region 11 with (fail)
    have Hd := Lib.hid (HR10.out.after (below_drew (Below.refl _ _)))
    refine wp_region_held_tail 6 (fun X => X.cell? ⟨w.heap.size, 0, none⟩ = some (.int .i64 next) ∧ X.cell? ⟨w.heap.size, 1, none⟩ = some (.slice (some ⟨g, 0, none⟩) n c)) (by kernel_rfl) (by kernel_rfl) ?hSd (fun hHeld => ?qd0)
    case hSd => exact HSof.out _ _ Hd.out
    case qd0 =>
      simp only [List.take_succ_cons, List.take_zero, List.drop_succ_cons, List.drop_zero]
      refine wpAnyH_take (i := 0) (v := (.pointer (some ⟨w.heap.size, 1, none⟩))) rfl (by kernel_rfl) (by kernel_rfl) (by kernel_rfl) (fun _ _ _ h => h) (Or.inl ⟨by rfl, ?yd_1⟩) (by assumption) ?qd_1
      case yd_1 => (intro w hSw; (try dsimp only at hSw); go_simp)
      case qd_1 =>
        (try simp only [Act.put]); (try simp only [List.setIfInBounds_toArray])
        refine wpAnyH_take (i := 1) (v := (.slice (some ⟨g, 0, none⟩) n c)) rfl (by kernel_rfl) (by kernel_rfl) (by kernel_rfl) (fun _ _ _ h => h) (Or.inl ⟨by rfl, ?yd_2⟩) (by assumption) ?qd_2
        case yd_2 => (intro w hSw; (try dsimp only at hSw); go_simp)
        case qd_2 =>
          (try simp only [Act.put]); (try simp only [List.setIfInBounds_toArray])
          refine wpAnyH_take (i := 2) (v := (.agg #[.int .i64 next, .slice (some ⟨g, 0, none⟩) n c])) rfl (by kernel_rfl) (by kernel_rfl) (by kernel_rfl) (fun _ _ _ h => h) (Or.inl ⟨by rfl, ?yd_3⟩) (by assumption) ?qd_3
          case yd_3 => (intro w hSw; (try dsimp only at hSw); go_simp)
          case qd_3 =>
            (try simp only [Act.put]); (try simp only [List.setIfInBounds_toArray])
            refine wpAnyH_take (i := 3) (v := (.int .i64 id)) rfl (by kernel_rfl) (by kernel_rfl) (by kernel_rfl) (fun _ _ _ h => h) (Or.inl ⟨by rfl, ?yd_4⟩) (by assumption) ?qd_4
            case yd_4 => (intro w hSw; (try dsimp only at hSw); go_simp)
            case qd_4 =>
              (try simp only [Act.put]); (try simp only [List.setIfInBounds_toArray])
              refine wpAnyH_take (i := 5) (v := (.int .i64 parent)) rfl (by kernel_rfl) (by kernel_rfl) (by kernel_rfl) (fun _ _ _ h => h) (Or.inl ⟨by rfl, ?yd_5⟩) (by assumption) ?qd_5
              case yd_5 => (intro w hSw; (try dsimp only at hSw); go_simp)
              case qd_5 =>
                (try simp only [Act.put]); (try simp only [List.setIfInBounds_toArray])
                refine wpAnyH_ready (rs := [4]) (by kernel_rfl) (by simp) ?_
                refine AllReadyH.cons rfl (fun K hK => ?sd_6) ?md_6
                case sd_6 =>
                  (refine step_call _ (by rfl) 62 #[.agg #[.int .i64 next, .slice (some ⟨g, 0, none⟩) n c], .int .i64 id] (by go_simp) (HAtd.out _ Hd.out) ?_; rintro e Yd ⟨rfl, hbd⟩; refine ⟨_, rfl, ?_⟩; replace Hd := Lib.hid (Hd.out.after hbd); clear hbd)
                  refine hK.out _ _ ?kd_6 (fun hHeld => ?qd_6)
                  case kd_6 => ((try dsimp only); exact HSof.out _ _ Hd.out)
                  case qd_6 =>
                    clear hK K
                    (try simp only [Act.put]); (try simp only [List.setIfInBounds_toArray])
                    refine wpAnyH_done (by kernel_rfl) ?_ _
                    have cd := Hd.out.cellAt HLNd.out HPPd.out (j := 2) (by omega) rfl
                    have fd := Hd.out.frozenAt (j := ii * 7 + 2) HLNd.out
                    show wpList _ _ _ _ _ _
                    have HR11 := Lib.hid (Hd.out.store (q := ({ nd with par := parent }, L)) (u := .int .i64 parent) HLNd.out HPPd.out (j := 2) (by omega) rfl ((Hd.out.own.leaf _ (List.mem_of_getElem? HPPd.out)).turn (Hd.out.own.leaf _ (List.mem_of_getElem? HPPd.out)).sz.role))
                    have HLNe : Hid (((l.set jj ({ x with kids := insAt x.kids a id }, ⟨⟨Ap, np, cp⟩, ⟨A9, nk + 1, c9⟩, ⟨Ar, nr, cr⟩⟩)).set ii ({ nd with par := parent }, L)).length = n) := Lib.hid (by rw [List.length_set]; exact HLNd.out)
                    have HPPe : Hid (((l.set jj ({ x with kids := insAt x.kids a id }, ⟨⟨Ap, np, cp⟩, ⟨A9, nk + 1, c9⟩, ⟨Ar, nr, cr⟩⟩)).set ii ({ nd with par := parent }, L))[ii]? = some ({ nd with par := parent }, L)) := Lib.hid (by rw [List.getElem?_set_self (by have := HLNd.out; omega)])
                    have HAte : Hid (∀ X, RB w B next g n c ((l.set jj ({ x with kids := insAt x.kids a id }, ⟨⟨Ap, np, cp⟩, ⟨A9, nk + 1, c9⟩, ⟨Ar, nr, cr⟩⟩)).set ii ({ nd with par := parent }, L)) X → Calls Try.prog 62 #[.agg #[.int .i64 next, .slice (some ⟨g, 0, none⟩) n c], .int .i64 id] X (Ret X (.int .i64 ii))) := Lib.hid fun X hX => hX.at_ HLNe.out hn4 (by rw [List.map_set]; exact rise_set HRI1.out (nd := nd) (by rw [List.getElem?_map, HPPd.out]; rfl) rfl) (p := ({ nd with par := parent }, L)) HPPe.out HIDp.out
                    go_upto_region 12 with (fail)
                    have He := Lib.hid (HR11.out.after (below_drew (Below.refl _ _)))
                    refine wp_region_held_tail 6 (fun X => X.cell? ⟨w.heap.size, 0, none⟩ = some (.int .i64 next) ∧ X.cell? ⟨w.heap.size, 1, none⟩ = some (.slice (some ⟨g, 0, none⟩) n c)) (by kernel_rfl) (by kernel_rfl) ?hSe (fun hHeld => ?qe0)
                    case hSe => exact HSof.out _ _ He.out
                    case qe0 =>
                      simp only [List.take_succ_cons, List.take_zero, List.drop_succ_cons, List.drop_zero]
                      refine wpAnyH_take (i := 0) (v := (.pointer (some ⟨w.heap.size, 1, none⟩))) rfl (by kernel_rfl) (by kernel_rfl) (by kernel_rfl) (fun _ _ _ h => h) (Or.inl ⟨by rfl, ?ye_1⟩) (by assumption) ?qe_1
                      case ye_1 => (intro w hSw; (try dsimp only at hSw); go_simp)
                      case qe_1 =>
                        (try simp only [Act.put]); (try simp only [List.setIfInBounds_toArray])
                        refine wpAnyH_take (i := 1) (v := (.slice (some ⟨g, 0, none⟩) n c)) rfl (by kernel_rfl) (by kernel_rfl) (by kernel_rfl) (fun _ _ _ h => h) (Or.inl ⟨by rfl, ?ye_2⟩) (by assumption) ?qe_2
                        case ye_2 => (intro w hSw; (try dsimp only at hSw); go_simp)
                        case qe_2 =>
                          (try simp only [Act.put]); (try simp only [List.setIfInBounds_toArray])
                          refine wpAnyH_take (i := 2) (v := (.agg #[.int .i64 next, .slice (some ⟨g, 0, none⟩) n c])) rfl (by kernel_rfl) (by kernel_rfl) (by kernel_rfl) (fun _ _ _ h => h) (Or.inl ⟨by rfl, ?ye_3⟩) (by assumption) ?qe_3
                          case ye_3 => (intro w hSw; (try dsimp only at hSw); go_simp)
                          case qe_3 =>
                            (try simp only [Act.put]); (try simp only [List.setIfInBounds_toArray])
                            refine wpAnyH_take (i := 3) (v := (.int .i64 id)) rfl (by kernel_rfl) (by kernel_rfl) (by kernel_rfl) (fun _ _ _ h => h) (Or.inl ⟨by rfl, ?ye_4⟩) (by assumption) ?qe_4
                            case ye_4 => (intro w hSw; (try dsimp only at hSw); go_simp)
                            case qe_4 =>
                              (try simp only [Act.put]); (try simp only [List.setIfInBounds_toArray])
                              refine wpAnyH_take (i := 5) (v := (.string role)) rfl (by kernel_rfl) (by kernel_rfl) (by kernel_rfl) (fun _ _ _ h => h) (Or.inl ⟨by rfl, ?ye_5⟩) (by assumption) ?qe_5
                              case ye_5 => (intro w hSw; (try dsimp only at hSw); go_simp)
                              case qe_5 =>
                                (try simp only [Act.put]); (try simp only [List.setIfInBounds_toArray])
                                refine wpAnyH_ready (rs := [4]) (by kernel_rfl) (by simp) ?_
                                refine AllReadyH.cons rfl (fun K hK => ?se_6) ?me_6
                                case se_6 =>
                                  (refine step_call _ (by rfl) 62 #[.agg #[.int .i64 next, .slice (some ⟨g, 0, none⟩) n c], .int .i64 id] (by go_simp) (HAte.out _ He.out) ?_; rintro e Ye ⟨rfl, hbe⟩; refine ⟨_, rfl, ?_⟩; replace He := Lib.hid (He.out.after hbe); clear hbe)
                                  refine hK.out _ _ ?ke_6 (fun hHeld => ?qe_6)
                                  case ke_6 => ((try dsimp only); exact HSof.out _ _ He.out)
                                  case qe_6 =>
                                    clear hK K
                                    (try simp only [Act.put]); (try simp only [List.setIfInBounds_toArray])
                                    refine wpAnyH_done (by kernel_rfl) ?_ _
                                    have ce := He.out.cellAt HLNe.out HPPe.out (j := 3) (by omega) rfl
                                    have fe := He.out.frozenAt (j := ii * 7 + 3) HLNe.out
                                    show wpList _ _ _ _ _ _
                                    have HR12 := Lib.hid (He.out.store (q := ({ nd with par := parent, role := role }, L)) (u := .string role) HLNe.out HPPe.out (j := 3) (by omega) rfl ((He.out.own.leaf _ (List.mem_of_getElem? HPPe.out)).turn HRS.out))
                                    go_wp2_with fail
                                    (try rw [Exit.noGoto_ret])
                                    (try simp only [Exit.inBlock, Exit.then])
                                    first | refine bodyPost_ret (results_none (by kernel_rfl) _ _ _) rfl ?_ | refine bodyPost_end (results_none (by kernel_rfl) _ _ _) rfl ?_
                                    exact ⟨rfl, _, HR12.out.own, HR12.out.gr, by rw [HPOST.out, List.set_set, List.map_set, List.map_set, List.set_comm _ _ (Ne.symm HX3.out)]⟩
                                case me_6 =>
                                  exact AllReadyH.nil
                case md_6 =>
                  exact AllReadyH.nil
end Go.Proofs.Ytnhkghmgkfmiaaa

/-
  WALKS: the roots; document order, what is below a node, who refers to it, as the program tells them.
  WALKS: what is below a node, who refers to it, as the program tells them.
  WALKS: Find of the program.
  WALKS: awake of the statements of package sheet: a class with a field.
-/
import Derived.Test.YtjjlofaejpnnnaaGreatDoorZO22
namespace Go.Proofs.YtjjlofaejpnnnaaGreatDoor
open Go Go.RowKit Go.Sort
set_option linter.unusedVariables false
attribute [local go_sem ↓] Go.wp_at_zero Go.wp_at_succ
/-- a new list of numbers is answered -/
def ListR (w : World) (r : List Int) (e : Ending) (w' : World) : Prop := ∃ v, e = .returned v ∧ w'.ownsRow w.heap.size 3 1 v r.length (intCells r) ∧ Below w.heap.size w w'
theorem listR_nil {w w' : World} {v : Value} (hv : v = .slice none 0 0) (hb : Below w.heap.size w w') : ListR w [] (.returned v) w' := ⟨_, rfl, by subst hv; exact ⟨rfl, .inl ⟨rfl, rfl⟩⟩, hb⟩
theorem roots_take {nds : List Nd} {j : Nat} {nd : Nd} (h : nds[j]? = some nd) : rootsV (nds.take (j + 1)) = rootsV (nds.take j) ++ if nd.par == 0 then [nd.id] else [] := by
  unfold rootsV
  rw [List.take_add_one, h, List.filter_append, List.map_append]
  cases hp : (nd.par == 0) <;> simp [hp]
theorem roots_len (nds : List Nd) (j : Nat) : (rootsV (nds.take j)).length ≤ j := by
  unfold rootsV
  rw [List.length_map]
  have := List.length_filter_le (fun nd : Nd => nd.par == 0) (nds.take j)
  rw [List.length_take] at this
  omega
set_option maxRecDepth 20000 in
set_option maxHeartbeats 3200000 in
theorem roots_any (w : World) (hi : Nat) (next : Int) (A : Option Addr) (n c : Nat) (nds : List Nd) (h : NodesIn w 0 hi A n c nds) (hh : hi ≤ w.heap.size) (hn : n ≤ 4096) :
    Calls Tryz.prog 37 #[.agg #[.int .i64 next, .slice A n c]] w (ListR w (rootsV nds)) := by
  have hc := h.2.2.1
  have hnc := h.2.1
  have HL := Lib.hid h.1
  unfold maxLen at hc
  obtain ⟨i0, hi0, hz0, hz1, hz2⟩ := info_parts intInfo
  have HM0 := Lib.hid (M1.start w next A n c)
  have a0 := (HM0.out.a.cell 1).trans (show _ = some (.slice A n c) from rfl)
  go_enter Tryz.func37, Tryz.ntmps37
  go_wp2_with fail
  go_loopw [3, 8] (fun ov v8 wr => ∃ (j : Nat), j ≤ n ∧ v8 = .int .i64 j ∧ KW w next A n c ov (rootsV (nds.take j)) wr) (fun _ v _ => n - (intOf v).toNat)
  case atStart => exact ⟨0, Nat.zero_le _, rfl, HM0.out, ⟨rfl, .inl ⟨rfl, rfl⟩⟩⟩
  case round =>
    clear HM0 a0
    obtain ⟨j, hj, rfl, W⟩ := hrel
    obtain ⟨fl, hfl⟩ : ∃ fl, rootsV (nds.take j) = fl := ⟨_, rfl⟩
    rw [hfl] at W
    have HFL := Lib.hid hfl
    have hlen : fl.length ≤ j := by rw [← hfl]; exact roots_len nds j
    have HW := Lib.hid W
    clear W hfl
    rename World => wr
    by_cases hlt : j < n
    · obtain ⟨b, o, hA, _, hb, V, hV⟩ := h.all (by omega)
      obtain ⟨nd, hnd⟩ : ∃ nd, nds[j]? = some nd := ⟨nds[j]'(by have := HL.out; omega), List.getElem?_eq_getElem _⟩
      have x2 := (HW.out.m.bel.cell (p := ⟨b, _, none⟩) (Nat.lt_of_lt_of_le hb hh)).trans (hV j nd hnd).1.c2
      have x0 := (HW.out.m.bel.cell (p := ⟨b, _, none⟩) (Nat.lt_of_lt_of_le hb hh)).trans (hV j nd hnd).1.c0
      subst hA
      have a1 := (HW.out.m.a.cell 1).trans (show _ = some (.slice (some ⟨b, o, none⟩) n c) from rfl)
      have hrt := roots_take hnd
      rw [HFL.out] at hrt
      have HRT := Lib.hid hrt
      clear hV hnd hrt
      cases d1 : (nd.par == 0) with
      | false =>
        have HN : Hid (rootsV (nds.take (j + 1)) = fl) := Lib.hid (by rw [HRT.out, d1]; simp)
        go_wp2_with fail
        go_roundw
        case measure => simp only [intOf]; omega
        case rel => exact ⟨j + 1, by omega, by simp, by rw [HN.out]; exact HW.out⟩
      | true =>
        have HN : Hid (rootsV (nds.take (j + 1)) = fl ++ [nd.id]) := Lib.hid (by rw [HRT.out, d1]; simp)
        go_wp2_with (at_builtin; go_must (refine wpList_app _ rfl (.tmp 18) (.tmp 25) _ rfl w.heap.size 3 i0 _ 1 8 Tryz.underlying40 hi0 hz0 hz1 hz2 rfl (by omega) u3 fl.length (intCells fl) rfl (own_after HW.out.own (below_more (Below.refl _ _) _)) wr.heap.size (wr.heap.size + 1) (some ⟨wr.heap.size, 0, none⟩) 1 1 [.int .i64 nd.id] rfl (row_blk (n := 1) (Blk.new' rfl) rfl (Nat.le_refl _) (by unfold maxLen; omega)) (by simp [Value.oneCell']) (by unfold maxLen; omega) (by omega) (Nat.le_trans HW.out.m.bel.size (by simp)) ?_); go_must (intro v7 w7 hown7 hg7 _; obtain ⟨G7, cap7, rfl, hca7, hcb7⟩ := own_slice hown7; have HW7 := Lib.hid ((HW.out.after (below_more (Below.refl _ _) _)).push hg7 hown7); clear hown7 hg7))
        go_roundw
        case measure => simp only [intOf]; omega
        case rel => exact ⟨j + 1, by omega, by simp, by rw [HN.out]; exact HW7.out⟩
    · have hjn : j = n := by omega
      subst hjn
      have hfin : fl = rootsV nds := by rw [← HFL.out, List.take_of_length_le (by have := HL.out; omega)]
      subst hfin
      obtain ⟨Ao, co, rfl⟩ := own_form HW.out.own
      clear h
      go_wp2_with fail
      go_ret
      exact ⟨_, rfl, HW.out.own, HW.out.m.bel⟩
theorem checkV_no {next : Int} {nds : List Nd} (h : rightB next nds = false) : checkV next nds = 29 := by unfold checkV; rw [h]; rfl
theorem checkV_yes {next : Int} {nds : List Nd} (h : rightB next nds = true) : checkV next nds = 0 := by unfold checkV; rw [h]; rfl
/-- behind the walk: the box's list -/
theorem ids_end {w Y X : World} {g0 : Nat} {r : List Int} (hb : Below w.heap.size w Y) (hg : w.heap.size ≤ g0) (h : IdsInv Y g0 r X) : ∃ A m c, X.cell? ⟨g0, 0, none⟩ = some (.slice A m c) ∧ X.ownsRow w.heap.size 3 1 (.slice A m c) r.length (intCells r) ∧ Below w.heap.size w X := by
  obtain ⟨ov, h⟩ := h
  obtain ⟨A, c, rfl⟩ := own_form h.own
  exact ⟨A, _, c, (h.e.bx.cell 0).trans rfl, own_mono h.own hb.size, Below.only hb h.e.gr hb.size hg⟩
/-- .. ahead of it: an empty one -/
theorem ids_start {Y : World} {g0 : Nat} (h : Blk Y g0 40 #[.slice none 0 0]) : IdsInv Y g0 [] Y := ⟨_, ⟨World.grownBy.refl _ _, h⟩, ⟨rfl, .inl ⟨rfl, rfl⟩⟩⟩
/-- a closure that lists all nodes -/
theorem visit_list {Y : World} {hi g0 : Nat} {A : Option Addr} {n c : Nat} {nds : List Nd} (F : FuncId) (hF : ∀ args w, Sem.run Tryz.prog (callFunc F args) w = .ok (.enter F args) w)
    (hcall : ∀ (X : World) (b oi d : Nat) (id : Int) (r : List Int), IdsInv Y g0 r X → r.length < 4096 → b < Y.heap.size → b ≠ g0 → Y.cell? ⟨b, oi, none⟩ = some (.int .i64 id) → Calls Tryz.prog F #[.pointer (some ⟨b, oi, none⟩), .int .i64 d, .pointer (some ⟨g0, 0, none⟩)] X fun e X' => e = .returned (.tuple #[]) ∧ IdsInv Y g0 (r ++ [id]) X' ∧ Keeps X X')
    (hN : NodesIn Y 0 hi A n c nds) (hh : hi ≤ Y.heap.size) (hg : hi ≤ g0) : Visit Y g0 4096 A nds F #[.pointer (some ⟨g0, 0, none⟩)] fun X l => IdsInv Y g0 (l.map (·.1)) X := by
  refine ⟨hF, fun X l h => ?_, fun X X' l h hb => h.after hb, fun X l i nd d b o h hl hnd hA _ => ?_⟩
  · obtain ⟨ov, h⟩ := h
    exact h.e.gr
  · obtain ⟨b', o', hA', _, hb, V, hV⟩ := hN.all (by have := (List.getElem?_eq_some_iff.1 hnd).1; have := hN.1; omega)
    rw [hA] at hA'
    injection hA' with hA'
    injection hA' with e1 e2
    subst e1 e2
    rw [List.map_append]
    exact hcall X b (o + i * 7) d nd.id _ h (by rw [List.length_map]; exact hl) (by omega) (by omega) (hV i nd hnd).1.c0
/-- document order, as it is answered -/
def orderR (next : Int) (nds : List Nd) : List Int := if rightB next nds = true then orderV nds else []
set_option maxRecDepth 100000 in
set_option maxHeartbeats 3200000 in
theorem order_any (w : World) (hi : Nat) (next : Int) (A : Option Addr) (n c : Nat) (nds : List Nd) (h : NodesIn w 0 hi A n c nds) (hh : hi ≤ w.heap.size) :
    Calls Tryz.prog 16 #[.agg #[.int .i64 next, .slice A n c]] w (ListR w (orderR next nds)) := by
  have HM0 := Lib.hid (M1.start w next A n c)
  have HCh := Lib.hid (check_any _ hi next A n c nds (h.below (HM0.out.bel.mono hh)) (Nat.le_trans hh HM0.out.bel.size))
  cases hrt : rightB next nds with
  | false =>
    have HX : Hid (orderR next nds = []) := Lib.hid (by unfold orderR; rw [hrt]; rfl)
    have HV := Lib.hid (checkV_no hrt)
    clear hrt h
    go_enter Tryz.func16, Tryz.ntmps16
    go_wp2_with (go_at_call 13; go_must (refine HCh.out.mono ?_; rintro e w2 ⟨rfl, hb2⟩; rw [HV.out]; have HM2 := Lib.hid (HM0.out.after hb2); clear hb2))
    go_ret
    rw [HX.out]
    exact listR_nil rfl HM2.out.bel
  | true =>
    have hR := rightM hrt
    have hn4 : n ≤ 4096 := by rw [← h.1]; exact hR.len
    have HX : Hid (orderR next nds = orderV nds) := Lib.hid (by unfold orderR; rw [hrt]; rfl)
    have HV := Lib.hid (checkV_yes hrt)
    rw [HX.out]
    have HRo : Hid (∀ X, Below w.heap.size w X → Calls Tryz.prog 37 #[.agg #[.int .i64 next, .slice A n c]] X (ListR X (rootsV nds))) := Lib.hid fun X hX => roots_any X hi next A n c nds (h.below (hX.mono hh)) (Nat.le_trans hh hX.size) hn4
    clear hrt
    go_enter Tryz.func16, Tryz.ntmps16
    go_upto_region 4 with (go_at_call 13; go_must (refine HCh.out.mono ?_; rintro e w2 ⟨rfl, hb2⟩; rw [HV.out]; have HM2 := Lib.hid (HM0.out.after hb2); clear hb2))
    have HM3 := Lib.hid ((HM2.out.after (below_more (Below.refl _ _) (.cells #[.slice none 0 0] 40))).after (below_drew1 _))
    have HB3 := Lib.hid ((Blk.new w2 40 #[.slice none 0 0]).after (below_drew1 _))
    have HG1 : Hid (w.heap.size ≤ w2.heap.size) := Lib.hid HM2.out.bel.size
    have HG0 : Hid (w2.heap.size < (w2.alloc (.cells #[.slice none 0 0] 40)).drew.heap.size) := Lib.hid HB3.out.lt
    obtain ⟨g0, hg0⟩ : ∃ g0, g0 = w2.heap.size := ⟨_, rfl⟩
    rw [← hg0] at HB3 HG1 HG0 ⊢
    have hg1 := HG1.out
    clear hg0
    generalize w2.alloc (.cells #[.slice none 0 0] 40) = X3 at HM3 HB3 HG0 ⊢
    have HSof : Hid (∀ X, M1 w next A n c X → X.cell? ⟨w.heap.size, 0, none⟩ = some (.int .i64 next) ∧ X.cell? ⟨w.heap.size, 1, none⟩ = some (.slice A n c)) := Lib.hid fun X hX => ⟨(hX.a.cell 0).trans rfl, (hX.a.cell 1).trans rfl⟩
    refine wp_region_held_tail 4 (fun w' => w'.cell? ⟨w.heap.size, 0, none⟩ = some (.int .i64 next) ∧ w'.cell? ⟨w.heap.size, 1, none⟩ = some (.slice A n c)) (by kernel_rfl) (by kernel_rfl) ?hSt (fun hHeld => ?qt0)
    case hSt => exact HSof.out _ HM3.out
    case qt0 =>
      simp only [List.take_succ_cons, List.take_zero, List.drop_succ_cons, List.drop_zero]
      refine wpAnyH_take (i := 0) (v := (.agg #[.int .i64 next, .slice A n c])) rfl (by kernel_rfl) (by kernel_rfl) (by kernel_rfl) (fun _ _ _ h => h) (Or.inl ⟨by rfl, ?yt_1⟩) (by assumption) ?qt_1
      case yt_1 => (intro w hSw; (try dsimp only at hSw); go_simp)
      case qt_1 =>
        (try simp only [Act.put]); (try simp only [List.setIfInBounds_toArray])
        refine wpAnyH_take (i := 1) (v := (.agg #[.int .i64 next, .slice A n c])) rfl (by kernel_rfl) (by kernel_rfl) (by kernel_rfl) (fun _ _ _ h => h) (Or.inl ⟨by rfl, ?yt_2⟩) (by assumption) ?qt_2
        case yt_2 => (intro w hSw; (try dsimp only at hSw); go_simp)
        case qt_2 =>
          (try simp only [Act.put]); (try simp only [List.setIfInBounds_toArray])
          refine wpAnyH_take (i := 3) (v := (.func (.func 38) #[] #[.pointer (some ⟨g0, 0, none⟩)])) rfl (by kernel_rfl) (by kernel_rfl) (by kernel_rfl) (fun _ _ _ h => h) (Or.inl ⟨by rfl, ?yt_3⟩) (by assumption) ?qt_3
          case yt_3 => (intro w hSw; (try dsimp only at hSw); go_simp)
          case qt_3 =>
            (try simp only [Act.put]); (try simp only [List.setIfInBounds_toArray])
            refine wpAnyH_ready (rs := [2]) (by kernel_rfl) (by simp) ?_
            refine AllReadyH.cons rfl (fun K hK => ?st_4) ?mt_4
            case st_4 =>
              (refine step_call _ (by rfl) 37 #[.agg #[.int .i64 next, .slice A n c]] (by go_simp) (HRo.out _ HM3.out.bel) ?_; rintro e Y ⟨vr, rfl, hvr, hbr⟩; refine ⟨_, rfl, ?_⟩; obtain ⟨Ar, cr, rfl⟩ := own_form hvr; have HVR := Lib.hid hvr; have HMY := Lib.hid (HM3.out.after hbr); have HBY := Lib.hid (HB3.out.after hbr); clear hvr hbr)
              refine hK.out _ _ ?kt_4 (fun hHeld => ?qt_4)
              case kt_4 => ((try dsimp only); first | exact HSof.out _ HMY.out | exact HSof.out _ HM3.out)
              case qt_4 =>
                clear hK K
                (try simp only [Act.put]); (try simp only [List.setIfInBounds_toArray])
                refine wpAnyH_done (by kernel_rfl) ?_ _
                clear hHeld
                have hNY := h.below (HMY.out.bel.mono hh)
                have hYs := Nat.le_trans hh HMY.out.bel.size
                have HOv := Lib.hid (over_any Y hi g0 4096 next A n c nds 38 #[.pointer (some ⟨g0, 0, none⟩)] _ (visit_list 38 (by intro args w; go_simp) (fun X b oi d id r h1 h2 h3 h4 h5 => visitOrder_any Y X g0 b oi d id r h1 h2 h3 h4 h5) hNY hYs (by omega)) hNY hYs (by omega) hR.rise hn4 (ids_start HBY.out) 64 (rootsV nds) Ar (rootsV nds).length cr (ok_of hR 64 1 _ (by omega) (roots_at hR)) (RowF.of (own_row HVR.out) (Nat.le_refl _) (.inl HG0.out)) (Nat.le_trans (pre_len hR (roots_nodup hR.rise) (roots_at hR)) hR.len) (by omega))
                rw [order_pre hR] at HOv
                show wpList _ _ _ _ _ _
                go_wp2_with (go_at_call 36; go_must (refine HOv.out.mono ?_; rintro e w5 ⟨rfl, hi5⟩; obtain ⟨A5, m5, c5, hc5, ho5, hb5⟩ := ids_end HMY.out.bel HG1.out hi5; have HO5 := Lib.hid ho5; have HB5 := Lib.hid hb5; clear hi5 ho5 hb5))
                go_ret
                exact ⟨_, rfl, HO5.out, HB5.out⟩
            case mt_4 =>
              exact AllReadyH.nil
end Go.Proofs.YtjjlofaejpnnnaaGreatDoor
namespace Go.Proofs.YtjjlofaejpnnnaaGreatDoor
open Go Go.RowKit Go.Sort
set_option linter.unusedVariables false
attribute [local go_sem ↓] Go.wp_at_zero Go.wp_at_succ
/-- the boxes of a model and of a number -/
structure MI (w : World) (next : Int) (A : Option Addr) (n c : Nat) (z : Int) (X : World) : Prop where
  m : M1 w next A n c X
  i : Blk X (w.heap.size + 1) 3 #[.int .i64 z]
theorem MI.start (w : World) (next : Int) (A : Option Addr) (n c : Nat) (z : Int) : MI w next A n c z ((w.alloc (.cells #[.int .i64 next, .slice A n c] 25)).alloc (.cells #[.int .i64 z] 3)) :=
  ⟨⟨(Blk.new _ _ _).alloc _, below_more (below_more (Below.refl _ _) _) _⟩, Blk.new' (by simp)⟩
theorem MI.after {w X X' : World} {next z : Int} {A : Option Addr} {n c : Nat} (h : MI w next A n c z X) (hb : Below X.heap.size X X') : MI w next A n c z X' := ⟨h.m.after hb, h.i.after hb⟩
end Go.Proofs.YtjjlofaejpnnnaaGreatDoor
namespace Go.Proofs.YtjjlofaejpnnnaaGreatDoor
open Go Go.RowKit Go.Sort
set_option linter.unusedVariables false
attribute [local go_sem ↓] Go.wp_at_zero Go.wp_at_succ
def zeroNd : Nd := ⟨0, ⟨#[]⟩, 0, ⟨#[]⟩, [], [], []⟩
def nilLeaf : Leaf := ⟨⟨none, 0, 0⟩, ⟨none, 0, 0⟩, ⟨none, 0, 0⟩⟩
theorem leafZ (w : World) (B : Nat) : OwnLeaf w B zeroNd nilLeaf :=
  ⟨rfl, rfl, rfl, ⟨by simp [zeroNd, propCells, nilLeaf], .inl ⟨rfl, rfl⟩⟩, ⟨by simp [zeroNd, intCells, nilLeaf], .inl ⟨rfl, rfl⟩⟩, ⟨by simp [zeroNd, refCells, nilLeaf], .inl ⟨rfl, rfl⟩⟩, ⟨by simp [zeroNd, ByteArray.size, maxLen], by simp [zeroNd, ByteArray.size, maxLen], by simp [zeroNd], by simp [zeroNd]⟩⟩
/-- the node with a number, and whether there is one -/
def findV (next : Int) (nds : List Nd) (id : Int) : Nd × Bool := if (rightB next nds && (ixOf nds id).isSome) = true then ((ndOf nds id).getD zeroNd, true) else (zeroNd, false)
def FindIs (w : World) (r : Nd × Bool) (e : Ending) (w' : World) : Prop := ∃ M : Leaf, e = .returned (.tuple #[.agg #[.int .i64 r.1.id, .string r.1.con, .int .i64 r.1.par, .string r.1.role, .slice M.p.A M.p.n M.p.c, .slice M.k.A M.k.n M.k.c, .slice M.r.A M.r.n M.r.c], .bool r.2]) ∧ OwnLeaf w' w.heap.size r.1 M ∧ Below w.heap.size w w'
/-- the boxes of a model and of a node -/
structure FB (w : World) (next : Int) (A : Option Addr) (n c : Nat) (X : World) : Prop where
  m : Blk X w.heap.size 25 #[.int .i64 next, .slice A n c]
  r : ∃ cs, cs.size = 7 ∧ Blk X (w.heap.size + 1) 55 cs
  bel : Below w.heap.size w X
section
variable {w X X' : World} {next : Int} {A : Option Addr} {n c : Nat}
theorem FB.start (w : World) (next : Int) (A : Option Addr) (n c : Nat) : FB w next A n c ((w.alloc (.cells #[.int .i64 next, .slice A n c] 25)).alloc (.cells #[.int .i64 0, .string ⟨#[]⟩, .int .i64 0, .string ⟨#[]⟩, .slice none 0 0, .slice none 0 0, .slice none 0 0] 55)) :=
  ⟨(Blk.new _ _ _).alloc _, ⟨_, by simp, Blk.new' (by simp)⟩, below_more (below_more (Below.refl _ _) _) _⟩
theorem FB.after (h : FB w next A n c X) (hb : Below X.heap.size X X') : FB w next A n c X' := by
  obtain ⟨h1, ⟨cs, h0, h2⟩, h3⟩ := h
  exact ⟨h1.after hb, ⟨cs, h0, h2.after hb⟩, h3.trans (hb.mono h3.size)⟩
theorem FB.room (h : FB w next A n c X) (j : Nat) (hj : j < 7) : (∃ u, X.cell? ⟨w.heap.size + 1, j, none⟩ = some u) ∧ X.frozen? ⟨w.heap.size + 1, j, none⟩ = false := by
  obtain ⟨h1, ⟨cs, h0, h2⟩, h3⟩ := h
  exact ⟨⟨cs[j]'(by omega), (h2.cell j).trans (Array.getElem?_eq_getElem (by omega))⟩, h2.frozen j⟩
theorem FB.set (h : FB w next A n c X) (i : Nat) (u : Value) : FB w next A n c (X.setCell ⟨w.heap.size + 1, i, none⟩ u) := by
  obtain ⟨h1, ⟨cs, h0, h2⟩, h3⟩ := h
  exact ⟨h1.far (p := ⟨w.heap.size + 1, i, none⟩) (by simp) u, ⟨_, by simpa using h0, h2.set_ i u⟩, h3.setCell (p := ⟨w.heap.size + 1, i, none⟩) (by simp) u⟩
theorem FB.leaf (h : FB w next A n c X) {nd : Nd} {M : Leaf} (hl : OwnLeaf X w.heap.size nd M) (i : Nat) (u : Value) : OwnLeaf (X.setCell ⟨w.heap.size + 1, i, none⟩ u) w.heap.size nd M := by
  obtain ⟨h1, ⟨cs, h0, h2⟩, h3⟩ := h
  exact hl.other h2 (by decide) (by decide) (by decide) i u
/-- a node is laid into the box -/
theorem FB.lay (h : FB w next A n c X) {nd : Nd} {M : Leaf} (hl : OwnLeaf X w.heap.size nd M) (u0 u1 u2 u3 u4 u5 u6 : Value) :
    OwnLeaf (((((((X.setCell ⟨w.heap.size + 1, 0, none⟩ u0).setCell ⟨w.heap.size + 1, 1, none⟩ u1).setCell ⟨w.heap.size + 1, 2, none⟩ u2).setCell ⟨w.heap.size + 1, 3, none⟩ u3).setCell ⟨w.heap.size + 1, 4, none⟩ u4).setCell ⟨w.heap.size + 1, 5, none⟩ u5).setCell ⟨w.heap.size + 1, 6, none⟩ u6) w.heap.size nd M ∧
    Below w.heap.size w (((((((X.setCell ⟨w.heap.size + 1, 0, none⟩ u0).setCell ⟨w.heap.size + 1, 1, none⟩ u1).setCell ⟨w.heap.size + 1, 2, none⟩ u2).setCell ⟨w.heap.size + 1, 3, none⟩ u3).setCell ⟨w.heap.size + 1, 4, none⟩ u4).setCell ⟨w.heap.size + 1, 5, none⟩ u5).setCell ⟨w.heap.size + 1, 6, none⟩ u6) :=
  ⟨((((((h.set 0 u0).set 1 u1).set 2 u2).set 3 u3).set 4 u4).set 5 u5).leaf ((((((h.set 0 u0).set 1 u1).set 2 u2).set 3 u3).set 4 u4).leaf (((((h.set 0 u0).set 1 u1).set 2 u2).set 3 u3).leaf ((((h.set 0 u0).set 1 u1).set 2 u2).leaf (((h.set 0 u0).set 1 u1).leaf ((h.set 0 u0).leaf (h.leaf hl 0 u0) 1 u1) 2 u2) 3 u3) 4 u4) 5 u5) 6 u6,
    (((((((h.set 0 u0).set 1 u1).set 2 u2).set 3 u3).set 4 u4).set 5 u5).set 6 u6).bel⟩
end
set_option maxRecDepth 20000 in
set_option maxHeartbeats 3200000 in
theorem find_any' (w : World) (hi : Nat) (next id : Int) (A : Option Addr) (n c : Nat) (nds : List Nd) (h : NodesIn w 0 hi A n c nds) (hh : hi ≤ w.heap.size) (hf : ∀ nd ∈ nds, Fits 1 nd) :
    Calls Tryz.prog 23 #[.agg #[.int .i64 next, .slice A n c], .int .i64 id] w (FindIs w (findV next nds id)) := by
  have HM0 := Lib.hid (FB.start w next A n c)
  have HCh := Lib.hid (check_any _ hi next A n c nds (h.below (HM0.out.bel.mono hh)) (Nat.le_trans hh HM0.out.bel.size))
  cases hrt : rightB next nds with
  | false =>
    have HX : Hid (findV next nds id = (zeroNd, false)) := Lib.hid (by unfold findV; rw [hrt]; rfl)
    have HV := Lib.hid (checkV_no hrt)
    clear hrt h
    go_enter Tryz.func23, Tryz.ntmps23
    go_wp2_with (go_at_call 13; go_must (refine HCh.out.mono ?_; rintro e w2 ⟨rfl, hb2⟩; rw [HV.out]; have HM2 := Lib.hid (HM0.out.after hb2); have a0 := (HM2.out.m.cell 0).trans (show _ = some (.int .i64 next) from rfl); have a1 := (HM2.out.m.cell 1).trans (show _ = some (.slice A n c) from rfl); obtain ⟨⟨u0, z0⟩, y0⟩ := HM2.out.room 0 (by omega); obtain ⟨⟨u1, z1⟩, y1⟩ := HM2.out.room 1 (by omega); obtain ⟨⟨u2, z2⟩, y2⟩ := HM2.out.room 2 (by omega); obtain ⟨⟨u3, z3⟩, y3⟩ := HM2.out.room 3 (by omega); obtain ⟨⟨u4, z4⟩, y4⟩ := HM2.out.room 4 (by omega); obtain ⟨⟨u5, z5⟩, y5⟩ := HM2.out.room 5 (by omega); obtain ⟨⟨u6, z6⟩, y6⟩ := HM2.out.room 6 (by omega); clear hb2))
    (try rw [Exit.noGoto_ret])
    (try simp only [Exit.inBlock, Exit.then])
    have hres : Tryz.f23.results = #[.cell 4 55, .tmp 5] := by kernel_rfl
    refine bodyPost_ret (v := .tuple #[.agg #[.int .i64 0, .string ⟨#[]⟩, .int .i64 0, .string ⟨#[]⟩, .slice none 0 0, .slice none 0 0, .slice none 0 0], .bool false]) ?hr rfl ?_
    case hr =>
      simp only [results, hres]
      go_simp
    rw [HX.out]
    have hE := HM2.out.lay (leafZ w2 w.heap.size) (.int .i64 0) (.string ⟨#[]⟩) (.int .i64 0) (.string ⟨#[]⟩) (.slice none 0 0) (.slice none 0 0) (.slice none 0 0)
    exact ⟨nilLeaf, rfl, hE.1, hE.2⟩
  | true =>
    have hR := rightM hrt
    have hn4 : n ≤ 4096 := by rw [← h.1]; exact hR.len
    have HV := Lib.hid (checkV_yes hrt)
    have HHa : Hid (∀ X, Below w.heap.size w X → Calls Tryz.prog 57 #[.agg #[.int .i64 next, .slice A n c], .int .i64 id] X (Ret X (.bool (ixOf nds id).isSome))) := Lib.hid fun X hX => has_any X hi next id A n c nds (h.below (hX.mono hh)) (Nat.le_trans hh hX.size) hR.rise hn4
    cases hix : ixOf nds id with
    | none =>
      have HX : Hid (findV next nds id = (zeroNd, false)) := Lib.hid (by unfold findV; rw [hix]; simp)
      have HIX : Hid ((ixOf nds id).isSome = false) := Lib.hid (by rw [hix]; rfl)
      clear hrt h hix
      go_enter Tryz.func23, Tryz.ntmps23
      go_wp2_with (first | (go_at_call 13; go_must (refine HCh.out.mono ?_; rintro e w2 ⟨rfl, hb2⟩; rw [HV.out]; have HM2 := Lib.hid (HM0.out.after hb2); have a0 := (HM2.out.m.cell 0).trans (show _ = some (.int .i64 next) from rfl); have a1 := (HM2.out.m.cell 1).trans (show _ = some (.slice A n c) from rfl); clear hb2)) | (go_at_call 57; go_must (refine (HHa.out _ HM2.out.bel).mono ?_; rintro e w3 ⟨rfl, hb3⟩; rw [HIX.out]; clear a0 a1; have HM3 := Lib.hid (HM2.out.after hb3); have b0 := (HM3.out.m.cell 0).trans (show _ = some (.int .i64 next) from rfl); have b1 := (HM3.out.m.cell 1).trans (show _ = some (.slice A n c) from rfl); obtain ⟨⟨u0, z0⟩, y0⟩ := HM3.out.room 0 (by omega); obtain ⟨⟨u1, z1⟩, y1⟩ := HM3.out.room 1 (by omega); obtain ⟨⟨u2, z2⟩, y2⟩ := HM3.out.room 2 (by omega); obtain ⟨⟨u3, z3⟩, y3⟩ := HM3.out.room 3 (by omega); obtain ⟨⟨u4, z4⟩, y4⟩ := HM3.out.room 4 (by omega); obtain ⟨⟨u5, z5⟩, y5⟩ := HM3.out.room 5 (by omega); obtain ⟨⟨u6, z6⟩, y6⟩ := HM3.out.room 6 (by omega); clear hb3)))
      (try rw [Exit.noGoto_ret])
      (try simp only [Exit.inBlock, Exit.then])
      have hres : Tryz.f23.results = #[.cell 4 55, .tmp 5] := by kernel_rfl
      refine bodyPost_ret (v := .tuple #[.agg #[.int .i64 0, .string ⟨#[]⟩, .int .i64 0, .string ⟨#[]⟩, .slice none 0 0, .slice none 0 0, .slice none 0 0], .bool false]) ?hr2 rfl ?_
      case hr2 =>
        simp only [results, hres]
        go_simp
      rw [HX.out]
      have hE := HM3.out.lay (leafZ w3 w.heap.size) (.int .i64 0) (.string ⟨#[]⟩) (.int .i64 0) (.string ⟨#[]⟩) (.slice none 0 0) (.slice none 0 0) (.slice none 0 0)
      exact ⟨nilLeaf, rfl, hE.1, hE.2⟩
    | some i =>
      have HIX : Hid ((ixOf nds id).isSome = true) := Lib.hid (by rw [hix]; rfl)
      obtain ⟨nd, hgi, hie⟩ := ixOf_some hix
      have hnd : ndOf nds id = some nd := by unfold ndOf; rw [hix]; exact hgi
      have HX : Hid (findV next nds id = (nd, true)) := Lib.hid (by unfold findV; rw [hrt, hix, hnd]; simp)
      have hin := ixOf_lt hix
      rw [h.1] at hin
      obtain ⟨b, o, hA, _, hb, V, hV⟩ := h.all (by omega)
      have hat := (hV i nd hgi).1
      have hlf := (hV i nd hgi).2
      generalize V i = L at hat hlf
      subst hA
      have hfi := hf nd (List.mem_of_getElem? hgi)
      have HNo : Hid (∀ X, Below w.heap.size w X → Calls Tryz.prog 59 #[.agg #[.int .i64 next, .slice (some ⟨b, o, none⟩) n c], .int .i64 id] X (Ret X (.pointer (some ⟨b, o + i * 7, none⟩)))) := Lib.hid fun X hX => node_any X hi next id (some ⟨b, o, none⟩) n c nds (h.below (hX.mono hh)) (Nat.le_trans hh hX.size) hR.rise hn4 _ (by rw [hix]; exact ⟨b, o, rfl, rfl⟩)
      have HON : Hid (∀ X, Below w.heap.size w X → Calls Tryz.prog 58 #[.agg #[.int .i64 nd.id, .string nd.con, .int .i64 nd.par, .string nd.role, .slice L.p.A L.p.n L.p.c, .slice L.k.A L.k.n L.k.c, .slice L.r.A L.r.n L.r.c]] X fun e w' => ∃ M : Leaf, e = .returned (.agg #[.int .i64 nd.id, .string nd.con, .int .i64 nd.par, .string nd.role, .slice M.p.A M.p.n M.p.c, .slice M.k.A M.k.n M.k.c, .slice M.r.A M.r.n M.r.c]) ∧ OwnLeaf w' X.heap.size nd M ∧ Below X.heap.size X w') := Lib.hid fun X hX => ownNode_any X hi nd L (hlf.below (hX.mono hh)) (Nat.le_trans hh hX.size) hfi
      have HAT : Hid (∀ X, Below w.heap.size w X → NodeAt X b (o + i * 7) nd L) := Lib.hid fun X hX => hat.below (hX.mono hh) hb
      obtain ⟨⟨Ap, np, cp⟩, ⟨Ak, nk, ck⟩, ⟨Ar, nr, cr⟩⟩ := L
      clear hrt h hix hgi hie hnd hat hlf hV hf hfi
      go_enter Tryz.func23, Tryz.ntmps23
      go_wp2_with (first | (go_at_call 13; go_must (refine HCh.out.mono ?_; rintro e w2 ⟨rfl, hb2⟩; rw [HV.out]; have HM2 := Lib.hid (HM0.out.after hb2); have a0 := (HM2.out.m.cell 0).trans (show _ = some (.int .i64 next) from rfl); have a1 := (HM2.out.m.cell 1).trans (show _ = some (.slice (some ⟨b, o, none⟩) n c) from rfl); clear hb2)) | (go_at_call 57; go_must (refine (HHa.out _ HM2.out.bel).mono ?_; rintro e w3 ⟨rfl, hb3⟩; rw [HIX.out]; clear a0 a1; have HM3 := Lib.hid (HM2.out.after hb3); have b0 := (HM3.out.m.cell 0).trans (show _ = some (.int .i64 next) from rfl); have b1 := (HM3.out.m.cell 1).trans (show _ = some (.slice (some ⟨b, o, none⟩) n c) from rfl); clear hb3)) | (go_at_call 59; go_must (refine (HNo.out _ HM3.out.bel).mono ?_; rintro e w4 ⟨rfl, hb4⟩; have HM4 := Lib.hid (HM3.out.after hb4); obtain ⟨k0, k1, k2, k3, k4, k5, k6⟩ := HAT.out _ HM4.out.bel; simp only at k4 k5 k6; clear hb4 b0 b1)) | (go_at_call 58; go_must (refine (HON.out _ HM4.out.bel).mono ?_; rintro e w5 ⟨⟨⟨A1, n1, c1⟩, ⟨A2, n2, c2⟩, ⟨A3, n3, c3⟩⟩, rfl, hl5, hb5⟩; have HM5 := Lib.hid (HM4.out.after hb5); have HL5 := Lib.hid (hl5.mono HM4.out.bel.size); clear k0 k1 k2 k3 k4 k5 k6; obtain ⟨⟨u0, z0⟩, y0⟩ := HM5.out.room 0 (by omega); obtain ⟨⟨u1, z1⟩, y1⟩ := HM5.out.room 1 (by omega); obtain ⟨⟨u2, z2⟩, y2⟩ := HM5.out.room 2 (by omega); obtain ⟨⟨u3, z3⟩, y3⟩ := HM5.out.room 3 (by omega); obtain ⟨⟨u4, z4⟩, y4⟩ := HM5.out.room 4 (by omega); obtain ⟨⟨u5, z5⟩, y5⟩ := HM5.out.room 5 (by omega); obtain ⟨⟨u6, z6⟩, y6⟩ := HM5.out.room 6 (by omega); clear hb5 hl5)))
      (try rw [Exit.noGoto_ret])
      (try simp only [Exit.inBlock, Exit.then])
      have hres : Tryz.f23.results = #[.cell 4 55, .tmp 5] := by kernel_rfl
      refine bodyPost_ret (v := .tuple #[.agg #[.int .i64 nd.id, .string nd.con, .int .i64 nd.par, .string nd.role, .slice A1 n1 c1, .slice A2 n2 c2, .slice A3 n3 c3], .bool true]) ?hr3 rfl ?_
      case hr3 =>
        simp only [results, hres]
        go_simp
      rw [HX.out]
      have hE := HM5.out.lay HL5.out (.int .i64 nd.id) (.string nd.con) (.int .i64 nd.par) (.string nd.role) (.slice A1 n1 c1) (.slice A2 n2 c2) (.slice A3 n3 c3)
      exact ⟨⟨⟨A1, n1, c1⟩, ⟨A2, n2, c2⟩, ⟨A3, n3, c3⟩⟩, rfl, hE.1, hE.2⟩
end Go.Proofs.YtjjlofaejpnnnaaGreatDoor
namespace Go.Proofs.YtjjlofaejpnnnaaGreatDoor
open Go Go.RowKit
set_option linter.unusedVariables false
theorem env_tab {w : World} (h : Env w) : TabEnv w := h.tab
theorem aw6 : findV 12 awM 1 = (awM.headD zeroNd, true) := by kernel_rfl
def awN : Nd := awM.headD zeroNd
theorem awFits : ∀ nd ∈ awM, Fits 1 nd := by
  intro nd hnd
  simp only [awM, List.mem_cons, List.not_mem_nil, or_false] at hnd
  rcases hnd with rfl | rfl | rfl | rfl <;> exact ⟨by simp, by simp, by simp⟩
/-- what awake's third model is found to hold -/
structure AwF (w' : World) (B : Nat) (e : Ending) (w : World) : Prop where
  out : ∃ (P K R : Sl) (gp gk gr cp ck cr : Nat), e = .returned (.tuple #[.agg #[.int .i64 1, .string awN.con, .int .i64 0, .string awN.role, .slice (some ⟨gp, 0, none⟩) 1 cp, .slice (some ⟨gk, 0, none⟩) 2 ck, .slice (some ⟨gr, 0, none⟩) 1 cr], .bool true]) ∧ Below w.heap.size w w' ∧
    gp < w'.heap.size ∧ gk < w'.heap.size ∧ gr < w'.heap.size ∧ 1 ≤ cp ∧ 2 ≤ ck ∧ 1 ≤ cr ∧ cp ≤ maxLen ∧ ck ≤ maxLen ∧ cr ≤ maxLen ∧
    w'.cell? ⟨gp, 1, none⟩ = some (.string ⟨#[97, 34, 98]⟩) ∧ w'.cell? ⟨gk, 0, none⟩ = some (.int .i64 4) ∧ w'.cell? ⟨gr, 1, none⟩ = some (.int .i64 9)
theorem aw_find (w : World) (hi : Nat) (A : Option Addr) (n c : Nat) (h : NodesIn w 0 hi A n c awM) (hh : hi ≤ w.heap.size) : Calls Tryz.prog 23 #[.agg #[.int .i64 12, .slice A n c], .int .i64 1] w (fun e w' => AwF w' 0 e w) := by
  refine (find_any' w hi 12 1 A n c awM h hh awFits).mono ?_
  rintro e w' ⟨⟨⟨Pa, Pn, Pc⟩, ⟨Ka, Kn, Kc⟩, ⟨Ra, Rn, Rc⟩⟩, rfl, hO, hb⟩
  rw [aw6] at hO ⊢
  have h1 : Pn = 1 := hO.pn
  have h2 : Kn = 2 := hO.kn
  have h3 : Rn = 1 := hO.rn
  subst h1 h2 h3
  have hp := hO.p
  have hk := hO.k
  have hr := hO.r
  have q1 := own_row hp
  have q2 := own_row hk
  have q3 := own_row hr
  obtain ⟨gp, rfl, _⟩ := own_addrB hp Nat.one_pos
  obtain ⟨gk, rfl, _⟩ := own_addrB hk Nat.two_pos
  obtain ⟨gr, rfl, _⟩ := own_addrB hr Nat.one_pos
  refine ⟨⟨none, 0, 0⟩, ⟨none, 0, 0⟩, ⟨none, 0, 0⟩, gp, gk, gr, Pc, Kc, Rc, rfl, hb, (World.ownsRow.lt hp gp rfl).2, (World.ownsRow.lt hk gk rfl).2, (World.ownsRow.lt hr gr rfl).2, q1.2.1, q2.2.1, q3.2.1, q1.2.2.1, q2.2.2.1, q3.2.2.1, ?_, ?_, ?_⟩
  · rw [World.ownsRow.cellAt hp 1 (by show 1 < 1 * 2; decide)]; rfl
  · rw [World.ownsRow.cellAt hk 0 (by show 0 < 2 * 1; decide)]; rfl
  · rw [World.ownsRow.cellAt hr 1 (by show 1 < 1 * 2; decide)]; rfl
set_option maxRecDepth 40000 in
set_option maxHeartbeats 6400000 in
theorem awake_any (w : World) (hE : Env w) : Calls Tryz.prog 11 #[] w (Ret w (.bool true)) := by
  have HPA : Hid (∀ (T : ByteArray) Y, T.data.toList = awT → Below w.heap.size w Y → Calls Tryz.prog 8 #[.string T] Y (ParseP Y ((12, awM), 0, 0))) := Lib.hid fun T Y hT hY => by
    have := sheetParse_any Y T (hE.below hY)
    rwa [hT, aw1] at this
  have HPB : Hid (∀ (T : ByteArray) Y, T.data.toList = [110, 101, 120, 116, 32, 53, 10, 50, 32, 65, 10, 49, 32, 66, 10] → Below w.heap.size w Y → Calls Tryz.prog 8 #[.string T] Y (ParseP Y ((0, []), 3, 30))) := Lib.hid fun T Y hT hY => by
    have := sheetParse_any Y T (hE.below hY)
    rwa [hT, aw2] at this
  have HPC : Hid (∀ (T : ByteArray) Y, T.data.toList = [] → Below w.heap.size w Y → Calls Tryz.prog 8 #[.string T] Y (ParseP Y ((0, []), 1, 30))) := Lib.hid fun T Y hT hY => by
    have := sheetParse_any Y T (hE.below hY)
    rwa [hT, aw3] at this
  obtain ⟨S, hS⟩ : ∃ S : ByteArray, (⟨awT.toArray⟩ : ByteArray) = S := ⟨_, rfl⟩
  have HPR : Hid (∀ A n c Y hi, NodesIn Y 0 hi A n c awM → hi ≤ Y.heap.size → Below w.heap.size w Y → Calls Tryz.prog 12 #[.agg #[.int .i64 12, .slice A n c]] Y fun e w' => e = .returned (.tuple #[.string S, .int .i64 0]) ∧ Below Y.heap.size Y w') := Lib.hid fun A n c Y hi h hh hY => by
    have := print_any Y hi 12 A n c awM h hh (env_tab (hE.below hY))
    rw [aw4] at this
    exact this.mono fun e w' h => ⟨by rw [h.1, ← hS], h.2⟩
  have HPN : Hid (∀ Y, Below w.heap.size w Y → Calls Tryz.prog 12 #[.agg #[.int .i64 0, .slice none 0 0]] Y (PrintP Y ([], 29))) := Lib.hid fun Y hY => by
    have := print_any Y 0 0 none 0 0 [] (NodesIn.nil _ _ _) (Nat.zero_le _) (env_tab (hE.below hY))
    rwa [aw5] at this
  have HSL : Hid (S.toList = awT) := Lib.hid (by rw [← hS, Lib.toList_data])
  have HFD : Hid (∀ Y hi A n c, NodesIn Y 0 hi A n c awM → hi ≤ Y.heap.size → Calls Tryz.prog 23 #[.agg #[.int .i64 12, .slice A n c], .int .i64 1] Y (fun e w' => AwF w' 0 e Y)) := Lib.hid fun Y hi A n c h hh => aw_find Y hi A n c h hh
  clear hE hS
  go_enter Tryz.func11, Tryz.ntmps11
  go_upto_region 2 with (go_at_call 8; refine (HPA.out _ _ (by rfl) (Below.refl _ _)).mono ?_; rintro e w1 ⟨A, n, c, rfl, hn1, hb1⟩; have HN1 := Lib.hid hn1; have HB1 := Lib.hid hb1; clear hn1 hb1)
  have HN4 : Hid (n = 4) := Lib.hid HN1.out.1.symm
  have hn4 := HN4.out
  subst hn4
  clear HN4
  have HM1 : Hid (Blk (w1.alloc (.cells #[.int .i64 12, .slice A 4 c] 25)) w1.heap.size 25 #[.int .i64 12, .slice A 4 c]) := Lib.hid (Blk.new _ _ _)
  have HNW : Hid (NodesIn (w1.alloc (.cells #[.int .i64 12, .slice A 4 c] 25)) 0 w1.heap.size A 4 c awM) := Lib.hid (HN1.out.below ((Below.refl _ _).alloc (Nat.le_refl _) _))
  have HBW : Hid (Below w.heap.size w (w1.alloc (.cells #[.int .i64 12, .slice A 4 c] 25))) := Lib.hid (HB1.out.alloc HB1.out.size _)
  generalize w1.alloc (.cells #[.int .i64 12, .slice A 4 c] 25) = W1 at HM1 HNW HBW ⊢
  generalize w1.heap.size = g1 at HM1 HNW ⊢
  clear HN1 HB1
  have m0 := (HM1.out.cell 0).trans (show _ = some (.int .i64 12) from rfl)
  have m1 := (HM1.out.cell 1).trans (show _ = some (.slice A 4 c) from rfl)
  go_upto_region 3 with (go_at_call 12; refine (HPR.out _ _ _ _ _ HNW.out (Nat.le_of_lt HM1.out.lt) HBW.out).mono ?_; rintro e w2 ⟨rfl, hb2⟩; have HB2 := Lib.hid hb2; clear hb2)
  have HM2 := Lib.hid (HM1.out.after HB2.out)
  have HN2 := Lib.hid (HNW.out.below (HB2.out.mono (Nat.le_of_lt HM1.out.lt)))
  have HBX : Hid (Below w.heap.size w w2) := Lib.hid (HBW.out.trans (HB2.out.mono HBW.out.size))
  clear m0 m1 HB2 HM1 HNW HBW
  go_upto_region 4 with (go_at_call 8; refine (HPB.out _ _ (by rfl) HBX.out).mono ?_; rintro e w3 ⟨A3, n3, c3, rfl, _, hb3⟩; have HB3 := Lib.hid hb3; clear hb3)
  have HM3 := Lib.hid ((HM2.out.after HB3.out).alloc (.cells #[.int .i64 0, .slice A3 n3 c3] 25))
  have HN3 := Lib.hid ((HN2.out.below (HB3.out.mono (Nat.le_of_lt HM2.out.lt))).below (w' := w3.alloc (.cells #[.int .i64 0, .slice A3 n3 c3] 25)) ((Below.refl g1 w3).alloc (Nat.le_of_lt (HM2.out.after HB3.out).lt) _))
  have HBY : Hid (Below w.heap.size w (w3.alloc (.cells #[.int .i64 0, .slice A3 n3 c3] 25))) := Lib.hid (below_more (HBX.out.trans (HB3.out.mono HBX.out.size)) _)
  generalize w3.alloc (.cells #[.int .i64 0, .slice A3 n3 c3] 25) = W3 at HM3 HN3 HBY ⊢
  generalize w3.heap.size = g3
  clear HB3 HM2 HN2 HBX
  go_upto_region 5 with (go_at_call 8; refine (HPC.out _ _ (by rfl) HBY.out).mono ?_; rintro e w4 ⟨A4, n4, c4, rfl, _, hb4⟩; have HB4 := Lib.hid hb4; clear hb4)
  have HM4 := Lib.hid ((HM3.out.after HB4.out).alloc (.cells #[.int .i64 0, .slice A4 n4 c4] 25))
  have HN4 := Lib.hid ((HN3.out.below (HB4.out.mono (Nat.le_of_lt HM3.out.lt))).below (w' := w4.alloc (.cells #[.int .i64 0, .slice A4 n4 c4] 25)) ((Below.refl g1 w4).alloc (Nat.le_of_lt (HM3.out.after HB4.out).lt) _))
  have HBZ : Hid (Below w.heap.size w (w4.alloc (.cells #[.int .i64 0, .slice A4 n4 c4] 25))) := Lib.hid (below_more (HBY.out.trans (HB4.out.mono HBY.out.size)) _)
  generalize w4.alloc (.cells #[.int .i64 0, .slice A4 n4 c4] 25) = W4 at HM4 HN4 HBZ ⊢
  generalize w4.heap.size = g4
  clear HB4 HM3 HN3 HBY
  go_upto_region 6 with (go_at_call 12; refine (HPN.out _ HBZ.out).mono ?_; rintro e w5 ⟨rfl, hb5⟩; have HB5 := Lib.hid hb5; clear hb5)
  have HM5 := Lib.hid (HM4.out.after HB5.out)
  have HN5 := Lib.hid (HN4.out.below (HB5.out.mono (Nat.le_of_lt HM4.out.lt)))
  have HB6 : Hid (Below w.heap.size w w5) := Lib.hid (HBZ.out.trans (HB5.out.mono HBZ.out.size))
  clear HB5 HM4 HN4 HBZ
  have m0 := (HM5.out.cell 0).trans (show _ = some (.int .i64 12) from rfl)
  have m1 := (HM5.out.cell 1).trans (show _ = some (.slice A 4 c) from rfl)
  go_wp2_with (go_at_call 23; refine (HFD.out _ _ _ _ _ HN5.out (Nat.le_of_lt HM5.out.lt)).mono ?_; rintro e w6 ⟨P, K, R, gp, gk, gr, cp, ck, cr, rfl, hb6, l1, l2, l3, b1, b2, b3, b4, b5, b6, k1, k2, k3⟩; have HM6 := HM5.out.after hb6; have x0 := ((HM6.alloc (.cells #[.int .i64 1, .string awN.con, .int .i64 0, .string awN.role, .slice (some ⟨gp, 0, none⟩) 1 cp, .slice (some ⟨gk, 0, none⟩) 2 ck, .slice (some ⟨gr, 0, none⟩) 1 cr] 55)).cell 0).trans (show _ = some (.int .i64 12) from rfl); have x1 := ((HM6.alloc (.cells #[.int .i64 1, .string awN.con, .int .i64 0, .string awN.role, .slice (some ⟨gp, 0, none⟩) 1 cp, .slice (some ⟨gk, 0, none⟩) 2 ck, .slice (some ⟨gr, 0, none⟩) 1 cr] 55)).cell 1).trans (show _ = some (.slice A 4 c) from rfl); have y1 := cell_alloc k1 l1 (.cells #[.int .i64 1, .string awN.con, .int .i64 0, .string awN.role, .slice (some ⟨gp, 0, none⟩) 1 cp, .slice (some ⟨gk, 0, none⟩) 2 ck, .slice (some ⟨gr, 0, none⟩) 1 cr] 55); have y2 := cell_alloc k2 l2 (.cells #[.int .i64 1, .string awN.con, .int .i64 0, .string awN.role, .slice (some ⟨gp, 0, none⟩) 1 cp, .slice (some ⟨gk, 0, none⟩) 2 ck, .slice (some ⟨gr, 0, none⟩) 1 cr] 55); have y3 := cell_alloc k3 l3 (.cells #[.int .i64 1, .string awN.con, .int .i64 0, .string awN.role, .slice (some ⟨gp, 0, none⟩) 1 cp, .slice (some ⟨gk, 0, none⟩) 2 ck, .slice (some ⟨gr, 0, none⟩) 1 cr] 55); have HB7 := Lib.hid (HB6.out.trans (hb6.mono HB6.out.size)); clear hb6 HM6 k1 k2 k3)
  go_ret
  exact ⟨rfl, below_more HB7.out _⟩
end Go.Proofs.YtjjlofaejpnnnaaGreatDoor

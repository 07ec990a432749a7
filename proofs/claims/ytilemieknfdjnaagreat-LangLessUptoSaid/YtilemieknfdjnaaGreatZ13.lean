/-
  WALKS: what is asked of a concept.
-/
import Derived.Test.YtilemieknfdjnaaGreatZ12
namespace Go.Proofs.YtilemieknfdjnaaGreat
open Go Go.RowKit Go.Sort
set_option linter.unusedVariables false
attribute [local go_sem ↓] Go.wp_at_zero Go.wp_at_succ
theorem bEq_empty (s : ByteArray) : bEq s ⟨#[]⟩ = s.toList.isEmpty := by
  unfold bEq
  rw [show (⟨#[]⟩ : ByteArray).toList = [] from by simp]
  cases s.toList <;> rfl
set_option maxHeartbeats 800000 in
theorem like_con (X : World) (x q : ConD × Leaf) (g : Nat) (h : X.cell? ⟨g, 0, none⟩ = some (.string q.1.name)) (hg : g < X.heap.size) :
    Calls Tryz.prog 51 #[.agg #[.string x.1.name, .string x.1.super, .bool x.1.abs, .slice x.2.p.A x.2.p.n x.2.p.c, .slice x.2.k.A x.2.k.n x.2.k.c, .slice x.2.r.A x.2.r.n x.2.r.c], .pointer (some ⟨g, 0, none⟩)] X (Ret X (.bool (bEq x.1.name q.1.name))) := by
  unfold bEq
  have h' := past_cell h hg
  go_enter Tryz.func51, Tryz.ntmps51
  go_wp2
  go_ret
  exact ret_b (by first | rfl | (simp; done)) rfl (by (repeat (first | exact Below.refl _ _ | refine below_more ?_ _ | refine below_drew ?_ | refine below_drewN ?_ _)))
theorem tells_con {w : World} {q : ConD × Leaf} {g : Nat} (h : Blk w g 47 #[.string q.1.name, .string q.1.super, .bool q.1.abs, .slice q.2.p.A q.2.p.n q.2.p.c, .slice q.2.k.A q.2.k.n q.2.k.c, .slice q.2.r.A q.2.r.n q.2.r.c]) (l : List (ConD × Leaf)) : Tells w 51 #[.pointer (some ⟨g, 0, none⟩)] (fun q : ConD × Leaf => .agg #[.string q.1.name, .string q.1.super, .bool q.1.abs, .slice q.2.p.A q.2.p.n q.2.p.c, .slice q.2.k.A q.2.k.n q.2.k.c, .slice q.2.r.A q.2.r.n q.2.r.c]) l (fun y => bEq y.1.name q.1.name) :=
  ⟨enters_of Tryz.func51 (by kernel_rfl) rfl, fun X hX x _ => like_con X x q g (((h.after hX).cell 0).trans rfl) (h.after hX).lt⟩
set_option maxRecDepth 40000 in
set_option maxHeartbeats 12800000 in
theorem one_con (w X : World) (hi : Nat) (A : Option Addr) (n c : Nat) (l : List (ConD × Leaf)) (h : Row w 0 hi 6 A n c (l.flatMap conC)) (hh : hi ≤ w.heap.size) (hall : ∀ g ∈ l, ConIn w 0 hi g) (gl : Nat) (hg : Blk w gl 23 #[.slice A n c]) (hX : Below w.heap.size w X) (k : Nat) (q : ConD × Leaf) (hq : l[k]? = some q) :
    Calls Tryz.prog 49 #[.int .i64 k, .agg #[.string q.1.name, .string q.1.super, .bool q.1.abs, .slice q.2.p.A q.2.p.n q.2.p.c, .slice q.2.k.A q.2.k.n q.2.k.c, .slice q.2.r.A q.2.r.n q.2.r.c], .pointer (some ⟨gl, 0, none⟩)] X (Ends X (conO' l k q)) := by
  have hnc := h.2.1
  have hc := h.2.2.1
  have hln : l.length = n := by have := h.1; rw [flatN_len (f := conC) (s := 6) (fun _ => rfl)] at this; omega
  have hk : k < n := by rw [← hln]; exact (List.getElem?_eq_some_iff.1 hq).1
  unfold maxLen at hc
  obtain ⟨b, o, rfl, _⟩ := h.at_ (by omega)
  have hkc : k ≤ c := by omega
  obtain ⟨hpn, hkn, hrn, hp, hkk, hr⟩ := hall q (List.mem_of_getElem? hq)
  have hpc := hp.2.1
  have hpc' := hp.2.2.1
  have hkc1 := hkk.2.1
  have hkc2 := hkk.2.2.1
  unfold maxLen at hpc' hkc2
  have HN : Hid (∀ Y gw, Below X.heap.size X Y → Blk Y X.heap.size 47 #[.string q.1.name, .string q.1.super, .bool q.1.abs, .slice q.2.p.A q.2.p.n q.2.p.c, .slice q.2.k.A q.2.k.n q.2.k.c, .slice q.2.r.A q.2.r.n q.2.r.c] → Blk Y gw 9 #[.string q.1.name] → Calls Tryz.prog 50 #[.slice (some ⟨b, o, none⟩) k c, .func (.func 51) #[] #[.pointer (some ⟨X.heap.size, 0, none⟩)], .slice (some ⟨gw, 0, none⟩) 1 1] Y (Ret Y (.int .i64 (namedV [q.1.name] ((l.take k).any fun y => bEq y.1.name q.1.name))))) :=
    Lib.hid fun Y gw hY' hb hw => by
      have hY := hX.trans (hY'.mono hX.size)
      exact named_con Y hi _ k c (l.take k) (row_take (s := 6) (fun _ => rfl) (h.keep fun b o hb => hY.cell (p := ⟨b, o, none⟩) (Nat.lt_of_lt_of_le hb hh)) (by omega)) (Nat.le_trans hh hY.size) 51 _ _ (tells_con hb _) Y.heap.size (some ⟨gw, 0, none⟩) 1 1 [q.1.name]
        (Row.mono (row_blk (n := 1) (c := 1) (size := 1) hw rfl (Nat.le_refl _) (by decide)) (Nat.zero_le _) hw.lt) (Nat.le_refl _)
  have HPp : Hid (∀ Y cW, Below X.heap.size X Y → Wher Y 97 cW (partF 2 k 0) → Calls Tryz.prog 52 #[.slice q.2.p.A q.2.p.n q.2.p.c, .func (.func 97) #[] cW] Y (Comes' Y (eachV 32 (partF 2 k 0) (propO q.1.props) 0 q.1.props))) := Lib.hid fun Y cW hY' hW => by
    have hY := hX.trans (hY'.mono hX.size)
    exact check_pd Y hi _ _ _ _ (hp.keep fun b o hb => hY.cell (p := ⟨b, o, none⟩) (Nat.lt_of_lt_of_le hb hh)) (Nat.le_trans hh hY.size) _ _ _ hW
  have HPk : Hid (∀ Y cW, Below X.heap.size X Y → Wher Y 97 cW (partF 2 k q.1.props.length) → Calls Tryz.prog 54 #[.slice q.2.k.A q.2.k.n q.2.k.c, .func (.func 97) #[] cW] Y (Comes' Y (eachV 32 (partF 2 k q.1.props.length) (kidO q.1.kids) 0 q.1.kids))) := Lib.hid fun Y cW hY' hW => by
    have hY := hX.trans (hY'.mono hX.size)
    exact check_kd Y hi _ _ _ _ (hkk.keep fun b o hb => hY.cell (p := ⟨b, o, none⟩) (Nat.lt_of_lt_of_le hb hh)) (Nat.le_trans hh hY.size) _ _ _ hW
  have HPr : Hid (∀ Y cW, Below X.heap.size X Y → Wher Y 97 cW (partF 2 k (q.1.props.length + q.1.kids.length)) → Calls Tryz.prog 55 #[.slice q.2.r.A q.2.r.n q.2.r.c, .func (.func 97) #[] cW] Y (Comes' Y (eachV 32 (partF 2 k (q.1.props.length + q.1.kids.length)) (refO q.1.refs) 0 q.1.refs))) := Lib.hid fun Y cW hY' hW => by
    have hY := hX.trans (hY'.mono hX.size)
    exact check_rd Y hi _ _ _ _ (hr.keep fun b o hb => hY.cell (p := ⟨b, o, none⟩) (Nat.lt_of_lt_of_le hb hh)) (Nat.le_trans hh hY.size) _ _ _ hW
  have HSo : Hid (∀ Y : World, Below X.heap.size X Y → Blk Y X.heap.size 47 #[.string q.1.name, .string q.1.super, .bool q.1.abs, .slice q.2.p.A q.2.p.n q.2.p.c, .slice q.2.k.A q.2.k.n q.2.k.c, .slice q.2.r.A q.2.r.n q.2.r.c] → (Y.cell? ⟨gl, 0, none⟩ = some (.slice (some ⟨b, o, none⟩) n c) ∧ Y.cell? ⟨X.heap.size, 0, none⟩ = some (.string q.1.name))) := Lib.hid fun Y hY hb => ⟨(((hg.after hX).after hY).cell 0).trans rfl, (hb.cell 0).trans rfl⟩
  have HSx : Hid (∀ Y : World, Blk Y X.heap.size 47 #[.string q.1.name, .string q.1.super, .bool q.1.abs, .slice q.2.p.A q.2.p.n q.2.p.c, .slice q.2.k.A q.2.k.n q.2.k.c, .slice q.2.r.A q.2.r.n q.2.r.c] → (Y.cell? ⟨X.heap.size, 3, none⟩ = some (.slice q.2.p.A q.2.p.n q.2.p.c) ∧ Y.cell? ⟨X.heap.size, 4, none⟩ = some (.slice q.2.k.A q.2.k.n q.2.k.c) ∧ Y.cell? ⟨X.heap.size, 5, none⟩ = some (.slice q.2.r.A q.2.r.n q.2.r.c))) := Lib.hid fun Y hb => ⟨(hb.cell 3).trans rfl, (hb.cell 4).trans rfl, (hb.cell 5).trans rfl⟩
  have HR0 : Hid (conO' l k q = if namedV [q.1.name] ((l.take k).any fun y => bEq y.1.name q.1.name) = 0 then (if !(bEq q.1.super ⟨#[]⟩) && !(nmB q.1.super) then .ret 2 else if bEq q.1.super q.1.name then .ret 43 else outOf (partsF q.1 k)) else .ret (namedV [q.1.name] ((l.take k).any fun y => bEq y.1.name q.1.name))) := Lib.hid rfl
  have HPS : Hid (partsF q.1 k = orElse3 (eachV 32 (partF 2 k 0) (propO q.1.props) 0 q.1.props) (eachV 32 (partF 2 k q.1.props.length) (kidO q.1.kids) 0 q.1.kids) (eachV 32 (partF 2 k (q.1.props.length + q.1.kids.length)) (refO q.1.refs) 0 q.1.refs)) := Lib.hid rfl
  have HL1 : Hid (eachV 32 (partF 2 k 0) (propO q.1.props) 0 q.1.props = none → q.1.props.length ≤ 32) := Lib.hid fun h => by have := ((eachV_none _ 0 (by decide)).1 h).1; omega
  have HL2 : Hid (eachV 32 (partF 2 k q.1.props.length) (kidO q.1.kids) 0 q.1.kids = none → q.1.kids.length ≤ 32) := Lib.hid fun h => by have := ((eachV_none _ 0 (by decide)).1 h).1; omega
  have HPN : Hid ((q.2.p.n : Int) = (q.1.props.length : Int)) := Lib.hid (by omega)
  have HKN : Hid ((q.2.p.n : Int) + (q.2.k.n : Int) = ((q.1.props.length + q.1.kids.length : Nat) : Int)) := Lib.hid (by omega)
  have HWR : Hid (q.1.props.length ≤ 32 → q.1.kids.length ≤ 32 → IntKind.i64.wrap ((q.2.p.n : Int) + (q.2.k.n : Int)) = (q.2.p.n : Int) + (q.2.k.n : Int)) := Lib.hid fun h1 h2 => IntWalk.i64_in _ (by omega)
  generalize namedV [q.1.name] _ = e at HN HR0
  generalize eachV 32 (partF 2 k 0) (propO q.1.props) 0 q.1.props = vp at HPp HPS HL1
  generalize eachV 32 (partF 2 k q.1.props.length) (kidO q.1.kids) 0 q.1.kids = vk at HPk HPS HL2
  generalize eachV 32 (partF 2 k (q.1.props.length + q.1.kids.length)) (refO q.1.refs) 0 q.1.refs = vr at HPr HPS
  generalize partsF q.1 k = pv at HR0 HPS
  generalize conO' l k q = ov at HR0
  clear h hq hln hall hg hX hp hkk hr hpn hkn hrn hpc hpc' hkc1 hkc2
  have hmf : ∀ (fn : Fn) (first cap : Array Value) (w : World), (Instr.makeFunc fn first cap).run Tryz.prog w = .ok (.func fn first cap) w := fun _ _ _ _ => rfl
  by_cases he : e = 0
  · subst he
    rw [if_pos rfl] at HR0
    generalize hm : nmB q.1.super = bm at HR0
    have HD : Hid (nameL q.1.super.data.toList = bm) := Lib.hid hm
    clear hm
    generalize hs0 : bEq q.1.super ⟨#[]⟩ = b0 at HR0
    have hpp : q.1.super.toList.isEmpty = b0 := (bEq_empty _).symm.trans hs0
    clear hs0
    generalize hs1 : bEq q.1.super q.1.name = b1 at HR0
    have hs1' : (q.1.super.toList == q.1.name.toList) = b1 := hs1
    clear hs1
    have HCASE : (b0 = false ∧ bm = false) ∨ (b1 = true ∧ (b0 = true ∨ bm = true)) ∨ (b1 = false ∧ (b0 = true ∨ bm = true)) := by cases b0 <;> cases bm <;> cases b1 <;> simp
    rcases HCASE with ⟨rfl, rfl⟩ | ⟨rfl, h2⟩ | ⟨rfl, h2⟩
    · have HR : Hid (ov = .ret 2) := Lib.hid HR0.out
      rw [HR.out]
      go_enter Tryz.func49, Tryz.ntmps49
      go_upto_region 1 with (fail)
      have HBz : Hid (Below X.heap.size X (X.alloc (.cells #[.string q.1.name, .string q.1.super, .bool q.1.abs, .slice q.2.p.A q.2.p.n q.2.p.c, .slice q.2.k.A q.2.k.n q.2.k.c, .slice q.2.r.A q.2.r.n q.2.r.c] 47)).drew) := Lib.hid (below_drew (below_of_alloc _))
      have HXz : Hid (Blk (X.alloc (.cells #[.string q.1.name, .string q.1.super, .bool q.1.abs, .slice q.2.p.A q.2.p.n q.2.p.c, .slice q.2.k.A q.2.k.n q.2.k.c, .slice q.2.r.A q.2.r.n q.2.r.c] 47)).drew X.heap.size 47 #[.string q.1.name, .string q.1.super, .bool q.1.abs, .slice q.2.p.A q.2.p.n q.2.p.c, .slice q.2.k.A q.2.k.n q.2.k.c, .slice q.2.r.A q.2.r.n q.2.r.c]) := Lib.hid (Blk.drew (Blk.new _ _ _))
      refine wp_region_held_tail 7 (fun Y => Y.cell? ⟨gl, 0, none⟩ = some (.slice (some ⟨b, o, none⟩) n c) ∧ Y.cell? ⟨X.heap.size, 0, none⟩ = some (.string q.1.name)) (by kernel_rfl) (by kernel_rfl) ?hSa (fun hHeld => ?qa0)
      case hSa => exact HSo.out _ HBz.out HXz.out
      case qa0 =>
        simp only [List.take_succ_cons, List.take_zero, List.drop_succ_cons, List.drop_zero]
        refine wpAnyH_take (i := 0) (v := (.slice (some ⟨b, o, none⟩) n c)) rfl (by kernel_rfl) (by kernel_rfl) (by kernel_rfl) (fun _ _ _ h => h) (Or.inl ⟨by rfl, ?ya_1⟩) (by assumption) ?qa_1
        case ya_1 => (intro w hSw; (try dsimp only at hSw); go_simp)
        case qa_1 =>
          (try simp only [Act.put]); (try simp only [List.setIfInBounds_toArray])
          refine wpAnyH_take (i := 1) (v := (.int .i64 k)) rfl (by kernel_rfl) (by kernel_rfl) (by kernel_rfl) (fun _ _ _ h => h) (Or.inl ⟨by rfl, ?ya_2⟩) (by assumption) ?qa_2
          case ya_2 => (intro w hSw; (try dsimp only at hSw); go_simp)
          case qa_2 =>
            (try simp only [Act.put]); (try simp only [List.setIfInBounds_toArray])
            refine wpAnyH_take (i := 2) (v := (.slice (some ⟨b, o, none⟩) k c)) rfl (by kernel_rfl) (by kernel_rfl) (by kernel_rfl) (fun _ _ _ h => h) (Or.inl ⟨by rfl, ?ya_3⟩) (by assumption) ?qa_3
            case ya_3 => (intro w hSw; (try dsimp only at hSw); go_simp)
            case qa_3 =>
              (try simp only [Act.put]); (try simp only [List.setIfInBounds_toArray])
              refine wpAnyH_take (i := 3) (v := (.func (.func 51) #[] #[.pointer (some ⟨X.heap.size, 0, none⟩)])) rfl (by kernel_rfl) (by kernel_rfl) (by kernel_rfl) (fun _ _ _ h => h) (Or.inl ⟨by rfl, ?ya_4⟩) (by assumption) ?qa_4
              case ya_4 => (intro w hSw; (try dsimp only at hSw); go_simp)
              case qa_4 =>
                (try simp only [Act.put]); (try simp only [List.setIfInBounds_toArray])
                refine wpAnyH_take (i := 4) (v := (.pointer (some ⟨X.heap.size, 0, none⟩))) rfl (by kernel_rfl) (by kernel_rfl) (by kernel_rfl) (fun _ _ _ h => h) (Or.inl ⟨by rfl, ?ya_5⟩) (by assumption) ?qa_5
                case ya_5 => (intro w hSw; (try dsimp only at hSw); go_simp)
                case qa_5 =>
                  (try simp only [Act.put]); (try simp only [List.setIfInBounds_toArray])
                  refine wpAnyH_take (i := 5) (v := (.string q.1.name)) rfl (by kernel_rfl) (by kernel_rfl) (by kernel_rfl) (fun _ _ _ h => h) (Or.inl ⟨by rfl, ?ya_6⟩) (by assumption) ?qa_6
                  case ya_6 => (intro w hSw; (try dsimp only at hSw); go_simp)
                  case qa_6 =>
                    (try simp only [Act.put]); (try simp only [List.setIfInBounds_toArray])
                    refine wpAnyH_ready (rs := [6]) (by kernel_rfl) (by simp) ?_
                    refine AllReadyH.cons rfl (fun K hK => ?sa_7) ?ma_7
                    case sa_7 =>
                      (refine step_mk1 _ (by rfl) 9 #[.string q.1.name] (by go_simp) ?_; intro gw Yw hxw hbw hsw; have HUw := Lib.hid hxw; have HXz := Lib.hid (HXz.out.after hbw); have HBz := Lib.hid (HBz.out.trans (hbw.mono HBz.out.size)); clear hxw hbw hsw)
                      refine hK.out _ _ ?ka_7 (fun hHeld => ?qa_7)
                      case ka_7 => ((try dsimp only); exact HSo.out _ HBz.out HXz.out)
                      case qa_7 =>
                        clear hK K
                        (try simp only [Act.put]); (try simp only [List.setIfInBounds_toArray])
                        refine wpAnyH_done (by kernel_rfl) ?_ _
                        clear hHeld
                        show wpList _ _ _ _ _ _
                        go_wp2_with (first | (go_at_call 50; (with_reducible refine (HN.out _ _ HBz.out HXz.out HUw.out).mono ?_); go_must (rintro e1 Y1 ⟨rfl, hb1⟩; have HB1 := Lib.hid (HBz.out.trans (hb1.mono HBz.out.size)); have HX1 := Lib.hid (HXz.out.after hb1); have y1 := (HX1.out.cell 1).trans (show _ = some (.string q.1.super) from rfl); have y0 := (HX1.out.cell 0).trans (show _ = some (.string q.1.name) from rfl); clear hb1)) | (go_at_call 42; (with_reducible refine (nRight_any _ _).mono ?_); go_must (rintro e2 Y2 ⟨rfl, rfl⟩; rw [HD.out])))
                        go_ret
                        exact ⟨rfl, HB1.out⟩
                    case ma_7 =>
                      exact AllReadyH.nil
    · have HR : Hid (ov = .ret 43) := Lib.hid (HR0.out.trans (by rcases h2 with rfl | rfl <;> simp))
      rw [HR.out]
      rcases h2 with rfl | rfl
      · skip
        go_enter Tryz.func49, Tryz.ntmps49
        go_upto_region 1 with (fail)
        have HBz : Hid (Below X.heap.size X (X.alloc (.cells #[.string q.1.name, .string q.1.super, .bool q.1.abs, .slice q.2.p.A q.2.p.n q.2.p.c, .slice q.2.k.A q.2.k.n q.2.k.c, .slice q.2.r.A q.2.r.n q.2.r.c] 47)).drew) := Lib.hid (below_drew (below_of_alloc _))
        have HXz : Hid (Blk (X.alloc (.cells #[.string q.1.name, .string q.1.super, .bool q.1.abs, .slice q.2.p.A q.2.p.n q.2.p.c, .slice q.2.k.A q.2.k.n q.2.k.c, .slice q.2.r.A q.2.r.n q.2.r.c] 47)).drew X.heap.size 47 #[.string q.1.name, .string q.1.super, .bool q.1.abs, .slice q.2.p.A q.2.p.n q.2.p.c, .slice q.2.k.A q.2.k.n q.2.k.c, .slice q.2.r.A q.2.r.n q.2.r.c]) := Lib.hid (Blk.drew (Blk.new _ _ _))
        refine wp_region_held_tail 7 (fun Y => Y.cell? ⟨gl, 0, none⟩ = some (.slice (some ⟨b, o, none⟩) n c) ∧ Y.cell? ⟨X.heap.size, 0, none⟩ = some (.string q.1.name)) (by kernel_rfl) (by kernel_rfl) ?hSb (fun hHeld => ?qb0)
        case hSb => exact HSo.out _ HBz.out HXz.out
        case qb0 =>
          simp only [List.take_succ_cons, List.take_zero, List.drop_succ_cons, List.drop_zero]
          refine wpAnyH_take (i := 0) (v := (.slice (some ⟨b, o, none⟩) n c)) rfl (by kernel_rfl) (by kernel_rfl) (by kernel_rfl) (fun _ _ _ h => h) (Or.inl ⟨by rfl, ?yb_1⟩) (by assumption) ?qb_1
          case yb_1 => (intro w hSw; (try dsimp only at hSw); go_simp)
          case qb_1 =>
            (try simp only [Act.put]); (try simp only [List.setIfInBounds_toArray])
            refine wpAnyH_take (i := 1) (v := (.int .i64 k)) rfl (by kernel_rfl) (by kernel_rfl) (by kernel_rfl) (fun _ _ _ h => h) (Or.inl ⟨by rfl, ?yb_2⟩) (by assumption) ?qb_2
            case yb_2 => (intro w hSw; (try dsimp only at hSw); go_simp)
            case qb_2 =>
              (try simp only [Act.put]); (try simp only [List.setIfInBounds_toArray])
              refine wpAnyH_take (i := 2) (v := (.slice (some ⟨b, o, none⟩) k c)) rfl (by kernel_rfl) (by kernel_rfl) (by kernel_rfl) (fun _ _ _ h => h) (Or.inl ⟨by rfl, ?yb_3⟩) (by assumption) ?qb_3
              case yb_3 => (intro w hSw; (try dsimp only at hSw); go_simp)
              case qb_3 =>
                (try simp only [Act.put]); (try simp only [List.setIfInBounds_toArray])
                refine wpAnyH_take (i := 3) (v := (.func (.func 51) #[] #[.pointer (some ⟨X.heap.size, 0, none⟩)])) rfl (by kernel_rfl) (by kernel_rfl) (by kernel_rfl) (fun _ _ _ h => h) (Or.inl ⟨by rfl, ?yb_4⟩) (by assumption) ?qb_4
                case yb_4 => (intro w hSw; (try dsimp only at hSw); go_simp)
                case qb_4 =>
                  (try simp only [Act.put]); (try simp only [List.setIfInBounds_toArray])
                  refine wpAnyH_take (i := 4) (v := (.pointer (some ⟨X.heap.size, 0, none⟩))) rfl (by kernel_rfl) (by kernel_rfl) (by kernel_rfl) (fun _ _ _ h => h) (Or.inl ⟨by rfl, ?yb_5⟩) (by assumption) ?qb_5
                  case yb_5 => (intro w hSw; (try dsimp only at hSw); go_simp)
                  case qb_5 =>
                    (try simp only [Act.put]); (try simp only [List.setIfInBounds_toArray])
                    refine wpAnyH_take (i := 5) (v := (.string q.1.name)) rfl (by kernel_rfl) (by kernel_rfl) (by kernel_rfl) (fun _ _ _ h => h) (Or.inl ⟨by rfl, ?yb_6⟩) (by assumption) ?qb_6
                    case yb_6 => (intro w hSw; (try dsimp only at hSw); go_simp)
                    case qb_6 =>
                      (try simp only [Act.put]); (try simp only [List.setIfInBounds_toArray])
                      refine wpAnyH_ready (rs := [6]) (by kernel_rfl) (by simp) ?_
                      refine AllReadyH.cons rfl (fun K hK => ?sb_7) ?mb_7
                      case sb_7 =>
                        (refine step_mk1 _ (by rfl) 9 #[.string q.1.name] (by go_simp) ?_; intro gw Yw hxw hbw hsw; have HUw := Lib.hid hxw; have HXz := Lib.hid (HXz.out.after hbw); have HBz := Lib.hid (HBz.out.trans (hbw.mono HBz.out.size)); clear hxw hbw hsw)
                        refine hK.out _ _ ?kb_7 (fun hHeld => ?qb_7)
                        case kb_7 => ((try dsimp only); exact HSo.out _ HBz.out HXz.out)
                        case qb_7 =>
                          clear hK K
                          (try simp only [Act.put]); (try simp only [List.setIfInBounds_toArray])
                          refine wpAnyH_done (by kernel_rfl) ?_ _
                          clear hHeld
                          show wpList _ _ _ _ _ _
                          go_wp2_with (first | (go_at_call 50; (with_reducible refine (HN.out _ _ HBz.out HXz.out HUw.out).mono ?_); go_must (rintro e1 Y1 ⟨rfl, hb1⟩; have HB1 := Lib.hid (HBz.out.trans (hb1.mono HBz.out.size)); have HX1 := Lib.hid (HXz.out.after hb1); have y1 := (HX1.out.cell 1).trans (show _ = some (.string q.1.super) from rfl); have y0 := (HX1.out.cell 0).trans (show _ = some (.string q.1.name) from rfl); clear hb1)) | (go_at_call 42; (with_reducible refine (nRight_any _ _).mono ?_); go_must (rintro e2 Y2 ⟨rfl, rfl⟩; rw [HD.out])))
                          go_ret
                          exact ⟨rfl, HB1.out⟩
                      case mb_7 =>
                        exact AllReadyH.nil
      · cases b0
        all_goals (
          go_enter Tryz.func49, Tryz.ntmps49
          go_upto_region 1 with (fail)
          have HBz : Hid (Below X.heap.size X (X.alloc (.cells #[.string q.1.name, .string q.1.super, .bool q.1.abs, .slice q.2.p.A q.2.p.n q.2.p.c, .slice q.2.k.A q.2.k.n q.2.k.c, .slice q.2.r.A q.2.r.n q.2.r.c] 47)).drew) := Lib.hid (below_drew (below_of_alloc _))
          have HXz : Hid (Blk (X.alloc (.cells #[.string q.1.name, .string q.1.super, .bool q.1.abs, .slice q.2.p.A q.2.p.n q.2.p.c, .slice q.2.k.A q.2.k.n q.2.k.c, .slice q.2.r.A q.2.r.n q.2.r.c] 47)).drew X.heap.size 47 #[.string q.1.name, .string q.1.super, .bool q.1.abs, .slice q.2.p.A q.2.p.n q.2.p.c, .slice q.2.k.A q.2.k.n q.2.k.c, .slice q.2.r.A q.2.r.n q.2.r.c]) := Lib.hid (Blk.drew (Blk.new _ _ _))
          refine wp_region_held_tail 7 (fun Y => Y.cell? ⟨gl, 0, none⟩ = some (.slice (some ⟨b, o, none⟩) n c) ∧ Y.cell? ⟨X.heap.size, 0, none⟩ = some (.string q.1.name)) (by kernel_rfl) (by kernel_rfl) ?hSc (fun hHeld => ?qc0)
          case hSc => exact HSo.out _ HBz.out HXz.out
          case qc0 =>
            simp only [List.take_succ_cons, List.take_zero, List.drop_succ_cons, List.drop_zero]
            refine wpAnyH_take (i := 0) (v := (.slice (some ⟨b, o, none⟩) n c)) rfl (by kernel_rfl) (by kernel_rfl) (by kernel_rfl) (fun _ _ _ h => h) (Or.inl ⟨by rfl, ?yc_1⟩) (by assumption) ?qc_1
            case yc_1 => (intro w hSw; (try dsimp only at hSw); go_simp)
            case qc_1 =>
              (try simp only [Act.put]); (try simp only [List.setIfInBounds_toArray])
              refine wpAnyH_take (i := 1) (v := (.int .i64 k)) rfl (by kernel_rfl) (by kernel_rfl) (by kernel_rfl) (fun _ _ _ h => h) (Or.inl ⟨by rfl, ?yc_2⟩) (by assumption) ?qc_2
              case yc_2 => (intro w hSw; (try dsimp only at hSw); go_simp)
              case qc_2 =>
                (try simp only [Act.put]); (try simp only [List.setIfInBounds_toArray])
                refine wpAnyH_take (i := 2) (v := (.slice (some ⟨b, o, none⟩) k c)) rfl (by kernel_rfl) (by kernel_rfl) (by kernel_rfl) (fun _ _ _ h => h) (Or.inl ⟨by rfl, ?yc_3⟩) (by assumption) ?qc_3
                case yc_3 => (intro w hSw; (try dsimp only at hSw); go_simp)
                case qc_3 =>
                  (try simp only [Act.put]); (try simp only [List.setIfInBounds_toArray])
                  refine wpAnyH_take (i := 3) (v := (.func (.func 51) #[] #[.pointer (some ⟨X.heap.size, 0, none⟩)])) rfl (by kernel_rfl) (by kernel_rfl) (by kernel_rfl) (fun _ _ _ h => h) (Or.inl ⟨by rfl, ?yc_4⟩) (by assumption) ?qc_4
                  case yc_4 => (intro w hSw; (try dsimp only at hSw); go_simp)
                  case qc_4 =>
                    (try simp only [Act.put]); (try simp only [List.setIfInBounds_toArray])
                    refine wpAnyH_take (i := 4) (v := (.pointer (some ⟨X.heap.size, 0, none⟩))) rfl (by kernel_rfl) (by kernel_rfl) (by kernel_rfl) (fun _ _ _ h => h) (Or.inl ⟨by rfl, ?yc_5⟩) (by assumption) ?qc_5
                    case yc_5 => (intro w hSw; (try dsimp only at hSw); go_simp)
                    case qc_5 =>
                      (try simp only [Act.put]); (try simp only [List.setIfInBounds_toArray])
                      refine wpAnyH_take (i := 5) (v := (.string q.1.name)) rfl (by kernel_rfl) (by kernel_rfl) (by kernel_rfl) (fun _ _ _ h => h) (Or.inl ⟨by rfl, ?yc_6⟩) (by assumption) ?qc_6
                      case yc_6 => (intro w hSw; (try dsimp only at hSw); go_simp)
                      case qc_6 =>
                        (try simp only [Act.put]); (try simp only [List.setIfInBounds_toArray])
                        refine wpAnyH_ready (rs := [6]) (by kernel_rfl) (by simp) ?_
                        refine AllReadyH.cons rfl (fun K hK => ?sc_7) ?mc_7
                        case sc_7 =>
                          (refine step_mk1 _ (by rfl) 9 #[.string q.1.name] (by go_simp) ?_; intro gw Yw hxw hbw hsw; have HUw := Lib.hid hxw; have HXz := Lib.hid (HXz.out.after hbw); have HBz := Lib.hid (HBz.out.trans (hbw.mono HBz.out.size)); clear hxw hbw hsw)
                          refine hK.out _ _ ?kc_7 (fun hHeld => ?qc_7)
                          case kc_7 => ((try dsimp only); exact HSo.out _ HBz.out HXz.out)
                          case qc_7 =>
                            clear hK K
                            (try simp only [Act.put]); (try simp only [List.setIfInBounds_toArray])
                            refine wpAnyH_done (by kernel_rfl) ?_ _
                            clear hHeld
                            show wpList _ _ _ _ _ _
                            go_wp2_with (first | (go_at_call 50; (with_reducible refine (HN.out _ _ HBz.out HXz.out HUw.out).mono ?_); go_must (rintro e1 Y1 ⟨rfl, hb1⟩; have HB1 := Lib.hid (HBz.out.trans (hb1.mono HBz.out.size)); have HX1 := Lib.hid (HXz.out.after hb1); have y1 := (HX1.out.cell 1).trans (show _ = some (.string q.1.super) from rfl); have y0 := (HX1.out.cell 0).trans (show _ = some (.string q.1.name) from rfl); clear hb1)) | (go_at_call 42; (with_reducible refine (nRight_any _ _).mono ?_); go_must (rintro e2 Y2 ⟨rfl, rfl⟩; rw [HD.out])))
                            go_ret
                            exact ⟨rfl, HB1.out⟩
                        case mc_7 =>
                          exact AllReadyH.nil)
    · have HR : Hid (ov = outOf pv) := Lib.hid (HR0.out.trans (by rcases h2 with rfl | rfl <;> simp))
      cases vp with
      | some f =>
        have HR2 : Hid (ov = .thr f) := Lib.hid (HR.out.trans (by rw [HPS.out]; rfl))
        rw [HR2.out]
        rcases h2 with rfl | rfl
        · skip
          go_enter Tryz.func49, Tryz.ntmps49
          go_upto_region 1 with (fail)
          have HBz : Hid (Below X.heap.size X (X.alloc (.cells #[.string q.1.name, .string q.1.super, .bool q.1.abs, .slice q.2.p.A q.2.p.n q.2.p.c, .slice q.2.k.A q.2.k.n q.2.k.c, .slice q.2.r.A q.2.r.n q.2.r.c] 47)).drew) := Lib.hid (below_drew (below_of_alloc _))
          have HXz : Hid (Blk (X.alloc (.cells #[.string q.1.name, .string q.1.super, .bool q.1.abs, .slice q.2.p.A q.2.p.n q.2.p.c, .slice q.2.k.A q.2.k.n q.2.k.c, .slice q.2.r.A q.2.r.n q.2.r.c] 47)).drew X.heap.size 47 #[.string q.1.name, .string q.1.super, .bool q.1.abs, .slice q.2.p.A q.2.p.n q.2.p.c, .slice q.2.k.A q.2.k.n q.2.k.c, .slice q.2.r.A q.2.r.n q.2.r.c]) := Lib.hid (Blk.drew (Blk.new _ _ _))
          refine wp_region_held_tail 7 (fun Y => Y.cell? ⟨gl, 0, none⟩ = some (.slice (some ⟨b, o, none⟩) n c) ∧ Y.cell? ⟨X.heap.size, 0, none⟩ = some (.string q.1.name)) (by kernel_rfl) (by kernel_rfl) ?hSp (fun hHeld => ?qp0)
          case hSp => exact HSo.out _ HBz.out HXz.out
          case qp0 =>
            simp only [List.take_succ_cons, List.take_zero, List.drop_succ_cons, List.drop_zero]
            refine wpAnyH_take (i := 0) (v := (.slice (some ⟨b, o, none⟩) n c)) rfl (by kernel_rfl) (by kernel_rfl) (by kernel_rfl) (fun _ _ _ h => h) (Or.inl ⟨by rfl, ?yp_1⟩) (by assumption) ?qp_1
            case yp_1 => (intro w hSw; (try dsimp only at hSw); go_simp)
            case qp_1 =>
              (try simp only [Act.put]); (try simp only [List.setIfInBounds_toArray])
              refine wpAnyH_take (i := 1) (v := (.int .i64 k)) rfl (by kernel_rfl) (by kernel_rfl) (by kernel_rfl) (fun _ _ _ h => h) (Or.inl ⟨by rfl, ?yp_2⟩) (by assumption) ?qp_2
              case yp_2 => (intro w hSw; (try dsimp only at hSw); go_simp)
              case qp_2 =>
                (try simp only [Act.put]); (try simp only [List.setIfInBounds_toArray])
                refine wpAnyH_take (i := 2) (v := (.slice (some ⟨b, o, none⟩) k c)) rfl (by kernel_rfl) (by kernel_rfl) (by kernel_rfl) (fun _ _ _ h => h) (Or.inl ⟨by rfl, ?yp_3⟩) (by assumption) ?qp_3
                case yp_3 => (intro w hSw; (try dsimp only at hSw); go_simp)
                case qp_3 =>
                  (try simp only [Act.put]); (try simp only [List.setIfInBounds_toArray])
                  refine wpAnyH_take (i := 3) (v := (.func (.func 51) #[] #[.pointer (some ⟨X.heap.size, 0, none⟩)])) rfl (by kernel_rfl) (by kernel_rfl) (by kernel_rfl) (fun _ _ _ h => h) (Or.inl ⟨by rfl, ?yp_4⟩) (by assumption) ?qp_4
                  case yp_4 => (intro w hSw; (try dsimp only at hSw); go_simp)
                  case qp_4 =>
                    (try simp only [Act.put]); (try simp only [List.setIfInBounds_toArray])
                    refine wpAnyH_take (i := 4) (v := (.pointer (some ⟨X.heap.size, 0, none⟩))) rfl (by kernel_rfl) (by kernel_rfl) (by kernel_rfl) (fun _ _ _ h => h) (Or.inl ⟨by rfl, ?yp_5⟩) (by assumption) ?qp_5
                    case yp_5 => (intro w hSw; (try dsimp only at hSw); go_simp)
                    case qp_5 =>
                      (try simp only [Act.put]); (try simp only [List.setIfInBounds_toArray])
                      refine wpAnyH_take (i := 5) (v := (.string q.1.name)) rfl (by kernel_rfl) (by kernel_rfl) (by kernel_rfl) (fun _ _ _ h => h) (Or.inl ⟨by rfl, ?yp_6⟩) (by assumption) ?qp_6
                      case yp_6 => (intro w hSw; (try dsimp only at hSw); go_simp)
                      case qp_6 =>
                        (try simp only [Act.put]); (try simp only [List.setIfInBounds_toArray])
                        refine wpAnyH_ready (rs := [6]) (by kernel_rfl) (by simp) ?_
                        refine AllReadyH.cons rfl (fun K hK => ?sp_7) ?mp_7
                        case sp_7 =>
                          (refine step_mk1 _ (by rfl) 9 #[.string q.1.name] (by go_simp) ?_; intro gw Yw hxw hbw hsw; have HUw := Lib.hid hxw; have HXz := Lib.hid (HXz.out.after hbw); have HBz := Lib.hid (HBz.out.trans (hbw.mono HBz.out.size)); clear hxw hbw hsw)
                          refine hK.out _ _ ?kp_7 (fun hHeld => ?qp_7)
                          case kp_7 => ((try dsimp only); exact HSo.out _ HBz.out HXz.out)
                          case qp_7 =>
                            clear hK K
                            (try simp only [Act.put]); (try simp only [List.setIfInBounds_toArray])
                            refine wpAnyH_done (by kernel_rfl) ?_ _
                            clear hHeld
                            show wpList _ _ _ _ _ _
                            go_wp2_with (first | (go_at_call 50; (with_reducible refine (HN.out _ _ HBz.out HXz.out HUw.out).mono ?_); go_must (rintro e1 Y1 ⟨rfl, hb1⟩; have HB1 := Lib.hid (HBz.out.trans (hb1.mono HBz.out.size)); have HX1 := Lib.hid (HXz.out.after hb1); have y1 := (HX1.out.cell 1).trans (show _ = some (.string q.1.super) from rfl); have y0 := (HX1.out.cell 0).trans (show _ = some (.string q.1.name) from rfl); clear hb1)) | (go_at_call 42; (with_reducible refine (nRight_any _ _).mono ?_); go_must (rintro e2 Y2 ⟨rfl, rfl⟩; rw [HD.out])))
                            have HBz : Hid (Below X.heap.size X Y1.drew) := Lib.hid (below_drew HB1.out)
                            have HXz : Hid (Blk Y1.drew X.heap.size 47 #[.string q.1.name, .string q.1.super, .bool q.1.abs, .slice q.2.p.A q.2.p.n q.2.p.c, .slice q.2.k.A q.2.k.n q.2.k.c, .slice q.2.r.A q.2.r.n q.2.r.c]) := Lib.hid (Blk.drew HX1.out)
                            refine wp_region_held_tail 4 (fun Y => Y.cell? ⟨X.heap.size, 3, none⟩ = some (.slice q.2.p.A q.2.p.n q.2.p.c) ∧ Y.cell? ⟨X.heap.size, 4, none⟩ = some (.slice q.2.k.A q.2.k.n q.2.k.c) ∧ Y.cell? ⟨X.heap.size, 5, none⟩ = some (.slice q.2.r.A q.2.r.n q.2.r.c)) (by kernel_rfl) (by kernel_rfl) ?hSpx (fun hHeld => ?qpx0)
                            case hSpx => exact HSx.out _ HXz.out
                            case qpx0 =>
                              simp only [List.take_succ_cons, List.take_zero, List.drop_succ_cons, List.drop_zero]
                              refine wpAnyH_take (i := 0) (v := (.pointer (some ⟨X.heap.size, 3, none⟩))) rfl (by kernel_rfl) (by kernel_rfl) (by kernel_rfl) (fun _ _ _ h => h) (Or.inl ⟨by rfl, ?ypx_1⟩) (by assumption) ?qpx_1
                              case ypx_1 => (intro w hSw; (try dsimp only at hSw); go_simp)
                              case qpx_1 =>
                                (try simp only [Act.put]); (try simp only [List.setIfInBounds_toArray])
                                refine wpAnyH_take (i := 1) (v := (.slice q.2.p.A q.2.p.n q.2.p.c)) rfl (by kernel_rfl) (by kernel_rfl) (by kernel_rfl) (fun _ _ _ h => h) (Or.inl ⟨by rfl, ?ypx_2⟩) (by assumption) ?qpx_2
                                case ypx_2 => (intro w hSw; (try dsimp only at hSw); go_simp)
                                case qpx_2 =>
                                  (try simp only [Act.put]); (try simp only [List.setIfInBounds_toArray])
                                  refine wpAnyH_take (i := 2) (v := (.int .i64 k)) rfl (by kernel_rfl) (by kernel_rfl) (by kernel_rfl) (fun _ _ _ h => h) (Or.inl ⟨by rfl, ?ypx_3⟩) (by assumption) ?qpx_3
                                  case ypx_3 => (intro w hSw; (try dsimp only at hSw); go_simp)
                                  case qpx_3 =>
                                    (try simp only [Act.put]); (try simp only [List.setIfInBounds_toArray])
                                    refine wpAnyH_ready (rs := [3]) (by kernel_rfl) (by simp) ?_
                                    refine AllReadyH.cons rfl (fun K hK => ?spx_4) ?mpx_4
                                    case spx_4 =>
                                      (refine step_call _ (by rfl) 53 #[.int .i64 2, .int .i64 k, .int .i64 0] (by go_simp) (parts_wher _ 2 k 0 0 rfl (by decide)) ?_; rintro e2 Yw ⟨cW, rfl, hw3, hb3⟩; refine ⟨_, rfl, ?_⟩; have HW3 := Lib.hid hw3; have HXz := Lib.hid (HXz.out.after hb3); have HBz := Lib.hid (HBz.out.trans (hb3.mono HBz.out.size)); clear hb3 hw3)
                                      refine hK.out _ _ ?kpx_4 (fun hHeld => ?qpx_4)
                                      case kpx_4 => ((try dsimp only); exact HSx.out _ HXz.out)
                                      case qpx_4 =>
                                        clear hK K
                                        (try simp only [Act.put]); (try simp only [List.setIfInBounds_toArray])
                                        refine wpAnyH_done (by kernel_rfl) ?_ _
                                        clear hHeld
                                        show wpList _ _ _ _ _ _
                                        go_wp2_with (go_at_call 52; (with_reducible refine (HPp.out _ _ HBz.out HW3.out).mono ?_); go_must (rintro e3 Y2 ⟨rfl, hb4⟩; have HB2 := Lib.hid (HBz.out.trans (hb4.mono HBz.out.size)); have HX2 := Lib.hid (HXz.out.after hb4); clear hb4))
                                        exact ⟨rfl, rfl, HB2.out⟩
                                    case mpx_4 =>
                                      exact AllReadyH.nil
                        case mp_7 =>
                          exact AllReadyH.nil
        · cases b0
          all_goals (
            go_enter Tryz.func49, Tryz.ntmps49
            go_upto_region 1 with (fail)
            have HBz : Hid (Below X.heap.size X (X.alloc (.cells #[.string q.1.name, .string q.1.super, .bool q.1.abs, .slice q.2.p.A q.2.p.n q.2.p.c, .slice q.2.k.A q.2.k.n q.2.k.c, .slice q.2.r.A q.2.r.n q.2.r.c] 47)).drew) := Lib.hid (below_drew (below_of_alloc _))
            have HXz : Hid (Blk (X.alloc (.cells #[.string q.1.name, .string q.1.super, .bool q.1.abs, .slice q.2.p.A q.2.p.n q.2.p.c, .slice q.2.k.A q.2.k.n q.2.k.c, .slice q.2.r.A q.2.r.n q.2.r.c] 47)).drew X.heap.size 47 #[.string q.1.name, .string q.1.super, .bool q.1.abs, .slice q.2.p.A q.2.p.n q.2.p.c, .slice q.2.k.A q.2.k.n q.2.k.c, .slice q.2.r.A q.2.r.n q.2.r.c]) := Lib.hid (Blk.drew (Blk.new _ _ _))
            refine wp_region_held_tail 7 (fun Y => Y.cell? ⟨gl, 0, none⟩ = some (.slice (some ⟨b, o, none⟩) n c) ∧ Y.cell? ⟨X.heap.size, 0, none⟩ = some (.string q.1.name)) (by kernel_rfl) (by kernel_rfl) ?hSpw (fun hHeld => ?qpw0)
            case hSpw => exact HSo.out _ HBz.out HXz.out
            case qpw0 =>
              simp only [List.take_succ_cons, List.take_zero, List.drop_succ_cons, List.drop_zero]
              refine wpAnyH_take (i := 0) (v := (.slice (some ⟨b, o, none⟩) n c)) rfl (by kernel_rfl) (by kernel_rfl) (by kernel_rfl) (fun _ _ _ h => h) (Or.inl ⟨by rfl, ?ypw_1⟩) (by assumption) ?qpw_1
              case ypw_1 => (intro w hSw; (try dsimp only at hSw); go_simp)
              case qpw_1 =>
                (try simp only [Act.put]); (try simp only [List.setIfInBounds_toArray])
                refine wpAnyH_take (i := 1) (v := (.int .i64 k)) rfl (by kernel_rfl) (by kernel_rfl) (by kernel_rfl) (fun _ _ _ h => h) (Or.inl ⟨by rfl, ?ypw_2⟩) (by assumption) ?qpw_2
                case ypw_2 => (intro w hSw; (try dsimp only at hSw); go_simp)
                case qpw_2 =>
                  (try simp only [Act.put]); (try simp only [List.setIfInBounds_toArray])
                  refine wpAnyH_take (i := 2) (v := (.slice (some ⟨b, o, none⟩) k c)) rfl (by kernel_rfl) (by kernel_rfl) (by kernel_rfl) (fun _ _ _ h => h) (Or.inl ⟨by rfl, ?ypw_3⟩) (by assumption) ?qpw_3
                  case ypw_3 => (intro w hSw; (try dsimp only at hSw); go_simp)
                  case qpw_3 =>
                    (try simp only [Act.put]); (try simp only [List.setIfInBounds_toArray])
                    refine wpAnyH_take (i := 3) (v := (.func (.func 51) #[] #[.pointer (some ⟨X.heap.size, 0, none⟩)])) rfl (by kernel_rfl) (by kernel_rfl) (by kernel_rfl) (fun _ _ _ h => h) (Or.inl ⟨by rfl, ?ypw_4⟩) (by assumption) ?qpw_4
                    case ypw_4 => (intro w hSw; (try dsimp only at hSw); go_simp)
                    case qpw_4 =>
                      (try simp only [Act.put]); (try simp only [List.setIfInBounds_toArray])
                      refine wpAnyH_take (i := 4) (v := (.pointer (some ⟨X.heap.size, 0, none⟩))) rfl (by kernel_rfl) (by kernel_rfl) (by kernel_rfl) (fun _ _ _ h => h) (Or.inl ⟨by rfl, ?ypw_5⟩) (by assumption) ?qpw_5
                      case ypw_5 => (intro w hSw; (try dsimp only at hSw); go_simp)
                      case qpw_5 =>
                        (try simp only [Act.put]); (try simp only [List.setIfInBounds_toArray])
                        refine wpAnyH_take (i := 5) (v := (.string q.1.name)) rfl (by kernel_rfl) (by kernel_rfl) (by kernel_rfl) (fun _ _ _ h => h) (Or.inl ⟨by rfl, ?ypw_6⟩) (by assumption) ?qpw_6
                        case ypw_6 => (intro w hSw; (try dsimp only at hSw); go_simp)
                        case qpw_6 =>
                          (try simp only [Act.put]); (try simp only [List.setIfInBounds_toArray])
                          refine wpAnyH_ready (rs := [6]) (by kernel_rfl) (by simp) ?_
                          refine AllReadyH.cons rfl (fun K hK => ?spw_7) ?mpw_7
                          case spw_7 =>
                            (refine step_mk1 _ (by rfl) 9 #[.string q.1.name] (by go_simp) ?_; intro gw Yw hxw hbw hsw; have HUw := Lib.hid hxw; have HXz := Lib.hid (HXz.out.after hbw); have HBz := Lib.hid (HBz.out.trans (hbw.mono HBz.out.size)); clear hxw hbw hsw)
                            refine hK.out _ _ ?kpw_7 (fun hHeld => ?qpw_7)
                            case kpw_7 => ((try dsimp only); exact HSo.out _ HBz.out HXz.out)
                            case qpw_7 =>
                              clear hK K
                              (try simp only [Act.put]); (try simp only [List.setIfInBounds_toArray])
                              refine wpAnyH_done (by kernel_rfl) ?_ _
                              clear hHeld
                              show wpList _ _ _ _ _ _
                              go_wp2_with (first | (go_at_call 50; (with_reducible refine (HN.out _ _ HBz.out HXz.out HUw.out).mono ?_); go_must (rintro e1 Y1 ⟨rfl, hb1⟩; have HB1 := Lib.hid (HBz.out.trans (hb1.mono HBz.out.size)); have HX1 := Lib.hid (HXz.out.after hb1); have y1 := (HX1.out.cell 1).trans (show _ = some (.string q.1.super) from rfl); have y0 := (HX1.out.cell 0).trans (show _ = some (.string q.1.name) from rfl); clear hb1)) | (go_at_call 42; (with_reducible refine (nRight_any _ _).mono ?_); go_must (rintro e2 Y2 ⟨rfl, rfl⟩; rw [HD.out])))
                              have HBz : Hid (Below X.heap.size X Y1.drew) := Lib.hid (below_drew HB1.out)
                              have HXz : Hid (Blk Y1.drew X.heap.size 47 #[.string q.1.name, .string q.1.super, .bool q.1.abs, .slice q.2.p.A q.2.p.n q.2.p.c, .slice q.2.k.A q.2.k.n q.2.k.c, .slice q.2.r.A q.2.r.n q.2.r.c]) := Lib.hid (Blk.drew HX1.out)
                              refine wp_region_held_tail 4 (fun Y => Y.cell? ⟨X.heap.size, 3, none⟩ = some (.slice q.2.p.A q.2.p.n q.2.p.c) ∧ Y.cell? ⟨X.heap.size, 4, none⟩ = some (.slice q.2.k.A q.2.k.n q.2.k.c) ∧ Y.cell? ⟨X.heap.size, 5, none⟩ = some (.slice q.2.r.A q.2.r.n q.2.r.c)) (by kernel_rfl) (by kernel_rfl) ?hSpy (fun hHeld => ?qpy0)
                              case hSpy => exact HSx.out _ HXz.out
                              case qpy0 =>
                                simp only [List.take_succ_cons, List.take_zero, List.drop_succ_cons, List.drop_zero]
                                refine wpAnyH_take (i := 0) (v := (.pointer (some ⟨X.heap.size, 3, none⟩))) rfl (by kernel_rfl) (by kernel_rfl) (by kernel_rfl) (fun _ _ _ h => h) (Or.inl ⟨by rfl, ?ypy_1⟩) (by assumption) ?qpy_1
                                case ypy_1 => (intro w hSw; (try dsimp only at hSw); go_simp)
                                case qpy_1 =>
                                  (try simp only [Act.put]); (try simp only [List.setIfInBounds_toArray])
                                  refine wpAnyH_take (i := 1) (v := (.slice q.2.p.A q.2.p.n q.2.p.c)) rfl (by kernel_rfl) (by kernel_rfl) (by kernel_rfl) (fun _ _ _ h => h) (Or.inl ⟨by rfl, ?ypy_2⟩) (by assumption) ?qpy_2
                                  case ypy_2 => (intro w hSw; (try dsimp only at hSw); go_simp)
                                  case qpy_2 =>
                                    (try simp only [Act.put]); (try simp only [List.setIfInBounds_toArray])
                                    refine wpAnyH_take (i := 2) (v := (.int .i64 k)) rfl (by kernel_rfl) (by kernel_rfl) (by kernel_rfl) (fun _ _ _ h => h) (Or.inl ⟨by rfl, ?ypy_3⟩) (by assumption) ?qpy_3
                                    case ypy_3 => (intro w hSw; (try dsimp only at hSw); go_simp)
                                    case qpy_3 =>
                                      (try simp only [Act.put]); (try simp only [List.setIfInBounds_toArray])
                                      refine wpAnyH_ready (rs := [3]) (by kernel_rfl) (by simp) ?_
                                      refine AllReadyH.cons rfl (fun K hK => ?spy_4) ?mpy_4
                                      case spy_4 =>
                                        (refine step_call _ (by rfl) 53 #[.int .i64 2, .int .i64 k, .int .i64 0] (by go_simp) (parts_wher _ 2 k 0 0 rfl (by decide)) ?_; rintro e2 Yw ⟨cW, rfl, hw3, hb3⟩; refine ⟨_, rfl, ?_⟩; have HW3 := Lib.hid hw3; have HXz := Lib.hid (HXz.out.after hb3); have HBz := Lib.hid (HBz.out.trans (hb3.mono HBz.out.size)); clear hb3 hw3)
                                        refine hK.out _ _ ?kpy_4 (fun hHeld => ?qpy_4)
                                        case kpy_4 => ((try dsimp only); exact HSx.out _ HXz.out)
                                        case qpy_4 =>
                                          clear hK K
                                          (try simp only [Act.put]); (try simp only [List.setIfInBounds_toArray])
                                          refine wpAnyH_done (by kernel_rfl) ?_ _
                                          clear hHeld
                                          show wpList _ _ _ _ _ _
                                          go_wp2_with (go_at_call 52; (with_reducible refine (HPp.out _ _ HBz.out HW3.out).mono ?_); go_must (rintro e3 Y2 ⟨rfl, hb4⟩; have HB2 := Lib.hid (HBz.out.trans (hb4.mono HBz.out.size)); have HX2 := Lib.hid (HXz.out.after hb4); clear hb4))
                                          exact ⟨rfl, rfl, HB2.out⟩
                                      case mpy_4 =>
                                        exact AllReadyH.nil
                          case mpw_7 =>
                            exact AllReadyH.nil)
      | none =>
        have hl1 := HL1.out rfl
        have HPL : Hid (q.1.props.length < 4611686018427387904) := Lib.hid (by omega)
        cases vk with
        | some f =>
          have HR2 : Hid (ov = .thr f) := Lib.hid (HR.out.trans (by rw [HPS.out]; rfl))
          rw [HR2.out]
          rcases h2 with rfl | rfl
          · skip
            go_enter Tryz.func49, Tryz.ntmps49
            go_upto_region 1 with (fail)
            have HBz : Hid (Below X.heap.size X (X.alloc (.cells #[.string q.1.name, .string q.1.super, .bool q.1.abs, .slice q.2.p.A q.2.p.n q.2.p.c, .slice q.2.k.A q.2.k.n q.2.k.c, .slice q.2.r.A q.2.r.n q.2.r.c] 47)).drew) := Lib.hid (below_drew (below_of_alloc _))
            have HXz : Hid (Blk (X.alloc (.cells #[.string q.1.name, .string q.1.super, .bool q.1.abs, .slice q.2.p.A q.2.p.n q.2.p.c, .slice q.2.k.A q.2.k.n q.2.k.c, .slice q.2.r.A q.2.r.n q.2.r.c] 47)).drew X.heap.size 47 #[.string q.1.name, .string q.1.super, .bool q.1.abs, .slice q.2.p.A q.2.p.n q.2.p.c, .slice q.2.k.A q.2.k.n q.2.k.c, .slice q.2.r.A q.2.r.n q.2.r.c]) := Lib.hid (Blk.drew (Blk.new _ _ _))
            refine wp_region_held_tail 7 (fun Y => Y.cell? ⟨gl, 0, none⟩ = some (.slice (some ⟨b, o, none⟩) n c) ∧ Y.cell? ⟨X.heap.size, 0, none⟩ = some (.string q.1.name)) (by kernel_rfl) (by kernel_rfl) ?hSk (fun hHeld => ?qk0)
            case hSk => exact HSo.out _ HBz.out HXz.out
            case qk0 =>
              simp only [List.take_succ_cons, List.take_zero, List.drop_succ_cons, List.drop_zero]
              refine wpAnyH_take (i := 0) (v := (.slice (some ⟨b, o, none⟩) n c)) rfl (by kernel_rfl) (by kernel_rfl) (by kernel_rfl) (fun _ _ _ h => h) (Or.inl ⟨by rfl, ?yk_1⟩) (by assumption) ?qk_1
              case yk_1 => (intro w hSw; (try dsimp only at hSw); go_simp)
              case qk_1 =>
                (try simp only [Act.put]); (try simp only [List.setIfInBounds_toArray])
                refine wpAnyH_take (i := 1) (v := (.int .i64 k)) rfl (by kernel_rfl) (by kernel_rfl) (by kernel_rfl) (fun _ _ _ h => h) (Or.inl ⟨by rfl, ?yk_2⟩) (by assumption) ?qk_2
                case yk_2 => (intro w hSw; (try dsimp only at hSw); go_simp)
                case qk_2 =>
                  (try simp only [Act.put]); (try simp only [List.setIfInBounds_toArray])
                  refine wpAnyH_take (i := 2) (v := (.slice (some ⟨b, o, none⟩) k c)) rfl (by kernel_rfl) (by kernel_rfl) (by kernel_rfl) (fun _ _ _ h => h) (Or.inl ⟨by rfl, ?yk_3⟩) (by assumption) ?qk_3
                  case yk_3 => (intro w hSw; (try dsimp only at hSw); go_simp)
                  case qk_3 =>
                    (try simp only [Act.put]); (try simp only [List.setIfInBounds_toArray])
                    refine wpAnyH_take (i := 3) (v := (.func (.func 51) #[] #[.pointer (some ⟨X.heap.size, 0, none⟩)])) rfl (by kernel_rfl) (by kernel_rfl) (by kernel_rfl) (fun _ _ _ h => h) (Or.inl ⟨by rfl, ?yk_4⟩) (by assumption) ?qk_4
                    case yk_4 => (intro w hSw; (try dsimp only at hSw); go_simp)
                    case qk_4 =>
                      (try simp only [Act.put]); (try simp only [List.setIfInBounds_toArray])
                      refine wpAnyH_take (i := 4) (v := (.pointer (some ⟨X.heap.size, 0, none⟩))) rfl (by kernel_rfl) (by kernel_rfl) (by kernel_rfl) (fun _ _ _ h => h) (Or.inl ⟨by rfl, ?yk_5⟩) (by assumption) ?qk_5
                      case yk_5 => (intro w hSw; (try dsimp only at hSw); go_simp)
                      case qk_5 =>
                        (try simp only [Act.put]); (try simp only [List.setIfInBounds_toArray])
                        refine wpAnyH_take (i := 5) (v := (.string q.1.name)) rfl (by kernel_rfl) (by kernel_rfl) (by kernel_rfl) (fun _ _ _ h => h) (Or.inl ⟨by rfl, ?yk_6⟩) (by assumption) ?qk_6
                        case yk_6 => (intro w hSw; (try dsimp only at hSw); go_simp)
                        case qk_6 =>
                          (try simp only [Act.put]); (try simp only [List.setIfInBounds_toArray])
                          refine wpAnyH_ready (rs := [6]) (by kernel_rfl) (by simp) ?_
                          refine AllReadyH.cons rfl (fun K hK => ?sk_7) ?mk_7
                          case sk_7 =>
                            (refine step_mk1 _ (by rfl) 9 #[.string q.1.name] (by go_simp) ?_; intro gw Yw hxw hbw hsw; have HUw := Lib.hid hxw; have HXz := Lib.hid (HXz.out.after hbw); have HBz := Lib.hid (HBz.out.trans (hbw.mono HBz.out.size)); clear hxw hbw hsw)
                            refine hK.out _ _ ?kk_7 (fun hHeld => ?qk_7)
                            case kk_7 => ((try dsimp only); exact HSo.out _ HBz.out HXz.out)
                            case qk_7 =>
                              clear hK K
                              (try simp only [Act.put]); (try simp only [List.setIfInBounds_toArray])
                              refine wpAnyH_done (by kernel_rfl) ?_ _
                              clear hHeld
                              show wpList _ _ _ _ _ _
                              go_wp2_with (first | (go_at_call 50; (with_reducible refine (HN.out _ _ HBz.out HXz.out HUw.out).mono ?_); go_must (rintro e1 Y1 ⟨rfl, hb1⟩; have HB1 := Lib.hid (HBz.out.trans (hb1.mono HBz.out.size)); have HX1 := Lib.hid (HXz.out.after hb1); have y1 := (HX1.out.cell 1).trans (show _ = some (.string q.1.super) from rfl); have y0 := (HX1.out.cell 0).trans (show _ = some (.string q.1.name) from rfl); clear hb1)) | (go_at_call 42; (with_reducible refine (nRight_any _ _).mono ?_); go_must (rintro e2 Y2 ⟨rfl, rfl⟩; rw [HD.out])))
                              have HBz : Hid (Below X.heap.size X Y1.drew) := Lib.hid (below_drew HB1.out)
                              have HXz : Hid (Blk Y1.drew X.heap.size 47 #[.string q.1.name, .string q.1.super, .bool q.1.abs, .slice q.2.p.A q.2.p.n q.2.p.c, .slice q.2.k.A q.2.k.n q.2.k.c, .slice q.2.r.A q.2.r.n q.2.r.c]) := Lib.hid (Blk.drew HX1.out)
                              refine wp_region_held_tail 4 (fun Y => Y.cell? ⟨X.heap.size, 3, none⟩ = some (.slice q.2.p.A q.2.p.n q.2.p.c) ∧ Y.cell? ⟨X.heap.size, 4, none⟩ = some (.slice q.2.k.A q.2.k.n q.2.k.c) ∧ Y.cell? ⟨X.heap.size, 5, none⟩ = some (.slice q.2.r.A q.2.r.n q.2.r.c)) (by kernel_rfl) (by kernel_rfl) ?hSkx (fun hHeld => ?qkx0)
                              case hSkx => exact HSx.out _ HXz.out
                              case qkx0 =>
                                simp only [List.take_succ_cons, List.take_zero, List.drop_succ_cons, List.drop_zero]
                                refine wpAnyH_take (i := 0) (v := (.pointer (some ⟨X.heap.size, 3, none⟩))) rfl (by kernel_rfl) (by kernel_rfl) (by kernel_rfl) (fun _ _ _ h => h) (Or.inl ⟨by rfl, ?ykx_1⟩) (by assumption) ?qkx_1
                                case ykx_1 => (intro w hSw; (try dsimp only at hSw); go_simp)
                                case qkx_1 =>
                                  (try simp only [Act.put]); (try simp only [List.setIfInBounds_toArray])
                                  refine wpAnyH_take (i := 1) (v := (.slice q.2.p.A q.2.p.n q.2.p.c)) rfl (by kernel_rfl) (by kernel_rfl) (by kernel_rfl) (fun _ _ _ h => h) (Or.inl ⟨by rfl, ?ykx_2⟩) (by assumption) ?qkx_2
                                  case ykx_2 => (intro w hSw; (try dsimp only at hSw); go_simp)
                                  case qkx_2 =>
                                    (try simp only [Act.put]); (try simp only [List.setIfInBounds_toArray])
                                    refine wpAnyH_take (i := 2) (v := (.int .i64 k)) rfl (by kernel_rfl) (by kernel_rfl) (by kernel_rfl) (fun _ _ _ h => h) (Or.inl ⟨by rfl, ?ykx_3⟩) (by assumption) ?qkx_3
                                    case ykx_3 => (intro w hSw; (try dsimp only at hSw); go_simp)
                                    case qkx_3 =>
                                      (try simp only [Act.put]); (try simp only [List.setIfInBounds_toArray])
                                      refine wpAnyH_ready (rs := [3]) (by kernel_rfl) (by simp) ?_
                                      refine AllReadyH.cons rfl (fun K hK => ?skx_4) ?mkx_4
                                      case skx_4 =>
                                        (refine step_call _ (by rfl) 53 #[.int .i64 2, .int .i64 k, .int .i64 0] (by go_simp) (parts_wher _ 2 k 0 0 rfl (by decide)) ?_; rintro e2 Yw ⟨cW, rfl, hw3, hb3⟩; refine ⟨_, rfl, ?_⟩; have HW3 := Lib.hid hw3; have HXz := Lib.hid (HXz.out.after hb3); have HBz := Lib.hid (HBz.out.trans (hb3.mono HBz.out.size)); clear hb3 hw3)
                                        refine hK.out _ _ ?kkx_4 (fun hHeld => ?qkx_4)
                                        case kkx_4 => ((try dsimp only); exact HSx.out _ HXz.out)
                                        case qkx_4 =>
                                          clear hK K
                                          (try simp only [Act.put]); (try simp only [List.setIfInBounds_toArray])
                                          refine wpAnyH_done (by kernel_rfl) ?_ _
                                          clear hHeld
                                          show wpList _ _ _ _ _ _
                                          go_wp2_with (go_at_call 52; (with_reducible refine (HPp.out _ _ HBz.out HW3.out).mono ?_); go_must (rintro e3 Y2 ⟨rfl, hb4⟩; have HB2 := Lib.hid (HBz.out.trans (hb4.mono HBz.out.size)); have HX2 := Lib.hid (HXz.out.after hb4); clear hb4))
                                          have HBz : Hid (Below X.heap.size X Y2.drew) := Lib.hid (below_drew HB2.out)
                                          have HXz : Hid (Blk Y2.drew X.heap.size 47 #[.string q.1.name, .string q.1.super, .bool q.1.abs, .slice q.2.p.A q.2.p.n q.2.p.c, .slice q.2.k.A q.2.k.n q.2.k.c, .slice q.2.r.A q.2.r.n q.2.r.c]) := Lib.hid (Blk.drew HX2.out)
                                          refine wp_region_held_tail 7 (fun Y => Y.cell? ⟨X.heap.size, 3, none⟩ = some (.slice q.2.p.A q.2.p.n q.2.p.c) ∧ Y.cell? ⟨X.heap.size, 4, none⟩ = some (.slice q.2.k.A q.2.k.n q.2.k.c) ∧ Y.cell? ⟨X.heap.size, 5, none⟩ = some (.slice q.2.r.A q.2.r.n q.2.r.c)) (by kernel_rfl) (by kernel_rfl) ?hSkxp (fun hHeld => ?qkxp0)
                                          case hSkxp => exact HSx.out _ HXz.out
                                          case qkxp0 =>
                                            simp only [List.take_succ_cons, List.take_zero, List.drop_succ_cons, List.drop_zero]
                                            refine wpAnyH_take (i := 0) (v := (.pointer (some ⟨X.heap.size, 4, none⟩))) rfl (by kernel_rfl) (by kernel_rfl) (by kernel_rfl) (fun _ _ _ h => h) (Or.inl ⟨by rfl, ?ykxp_1⟩) (by assumption) ?qkxp_1
                                            case ykxp_1 => (intro w hSw; (try dsimp only at hSw); go_simp)
                                            case qkxp_1 =>
                                              (try simp only [Act.put]); (try simp only [List.setIfInBounds_toArray])
                                              refine wpAnyH_take (i := 1) (v := (.slice q.2.k.A q.2.k.n q.2.k.c)) rfl (by kernel_rfl) (by kernel_rfl) (by kernel_rfl) (fun _ _ _ h => h) (Or.inl ⟨by rfl, ?ykxp_2⟩) (by assumption) ?qkxp_2
                                              case ykxp_2 => (intro w hSw; (try dsimp only at hSw); go_simp)
                                              case qkxp_2 =>
                                                (try simp only [Act.put]); (try simp only [List.setIfInBounds_toArray])
                                                refine wpAnyH_take (i := 2) (v := (.int .i64 k)) rfl (by kernel_rfl) (by kernel_rfl) (by kernel_rfl) (fun _ _ _ h => h) (Or.inl ⟨by rfl, ?ykxp_3⟩) (by assumption) ?qkxp_3
                                                case ykxp_3 => (intro w hSw; (try dsimp only at hSw); go_simp)
                                                case qkxp_3 =>
                                                  (try simp only [Act.put]); (try simp only [List.setIfInBounds_toArray])
                                                  refine wpAnyH_take (i := 3) (v := (.pointer (some ⟨X.heap.size, 3, none⟩))) rfl (by kernel_rfl) (by kernel_rfl) (by kernel_rfl) (fun _ _ _ h => h) (Or.inl ⟨by rfl, ?ykxp_4⟩) (by assumption) ?qkxp_4
                                                  case ykxp_4 => (intro w hSw; (try dsimp only at hSw); go_simp)
                                                  case qkxp_4 =>
                                                    (try simp only [Act.put]); (try simp only [List.setIfInBounds_toArray])
                                                    refine wpAnyH_take (i := 4) (v := (.slice q.2.p.A q.2.p.n q.2.p.c)) rfl (by kernel_rfl) (by kernel_rfl) (by kernel_rfl) (fun _ _ _ h => h) (Or.inl ⟨by rfl, ?ykxp_5⟩) (by assumption) ?qkxp_5
                                                    case ykxp_5 => (intro w hSw; (try dsimp only at hSw); go_simp)
                                                    case qkxp_5 =>
                                                      (try simp only [Act.put]); (try simp only [List.setIfInBounds_toArray])
                                                      refine wpAnyH_take (i := 5) (v := (.int .i64 q.2.p.n)) rfl (by kernel_rfl) (by kernel_rfl) (by kernel_rfl) (fun _ _ _ h => h) (Or.inl ⟨by rfl, ?ykxp_6⟩) (by assumption) ?qkxp_6
                                                      case ykxp_6 => (intro w hSw; (try dsimp only at hSw); go_simp)
                                                      case qkxp_6 =>
                                                        (try simp only [Act.put]); (try simp only [List.setIfInBounds_toArray])
                                                        refine wpAnyH_ready (rs := [6]) (by kernel_rfl) (by simp) ?_
                                                        refine AllReadyH.cons rfl (fun K hK => ?skxp_7) ?mkxp_7
                                                        case skxp_7 =>
                                                          (refine step_call _ (by rfl) 53 #[.int .i64 2, .int .i64 k, .int .i64 q.2.p.n] (by go_simp) (parts_wher _ 2 k q.1.props.length q.2.p.n HPN.out HPL.out) ?_; rintro e2 Yw ⟨cW, rfl, hw3, hb3⟩; refine ⟨_, rfl, ?_⟩; have HW3 := Lib.hid hw3; have HXz := Lib.hid (HXz.out.after hb3); have HBz := Lib.hid (HBz.out.trans (hb3.mono HBz.out.size)); clear hb3 hw3)
                                                          refine hK.out _ _ ?kkxp_7 (fun hHeld => ?qkxp_7)
                                                          case kkxp_7 => ((try dsimp only); exact HSx.out _ HXz.out)
                                                          case qkxp_7 =>
                                                            clear hK K
                                                            (try simp only [Act.put]); (try simp only [List.setIfInBounds_toArray])
                                                            refine wpAnyH_done (by kernel_rfl) ?_ _
                                                            clear hHeld
                                                            show wpList _ _ _ _ _ _
                                                            go_wp2_with (go_at_call 54; (with_reducible refine (HPk.out _ _ HBz.out HW3.out).mono ?_); go_must (rintro e3 Y3 ⟨rfl, hb4⟩; have HB3 := Lib.hid (HBz.out.trans (hb4.mono HBz.out.size)); have HX3 := Lib.hid (HXz.out.after hb4); clear hb4))
                                                            exact ⟨rfl, rfl, HB3.out⟩
                                                        case mkxp_7 =>
                                                          exact AllReadyH.nil
                                      case mkx_4 =>
                                        exact AllReadyH.nil
                          case mk_7 =>
                            exact AllReadyH.nil
          · cases b0
            all_goals (
              go_enter Tryz.func49, Tryz.ntmps49
              go_upto_region 1 with (fail)
              have HBz : Hid (Below X.heap.size X (X.alloc (.cells #[.string q.1.name, .string q.1.super, .bool q.1.abs, .slice q.2.p.A q.2.p.n q.2.p.c, .slice q.2.k.A q.2.k.n q.2.k.c, .slice q.2.r.A q.2.r.n q.2.r.c] 47)).drew) := Lib.hid (below_drew (below_of_alloc _))
              have HXz : Hid (Blk (X.alloc (.cells #[.string q.1.name, .string q.1.super, .bool q.1.abs, .slice q.2.p.A q.2.p.n q.2.p.c, .slice q.2.k.A q.2.k.n q.2.k.c, .slice q.2.r.A q.2.r.n q.2.r.c] 47)).drew X.heap.size 47 #[.string q.1.name, .string q.1.super, .bool q.1.abs, .slice q.2.p.A q.2.p.n q.2.p.c, .slice q.2.k.A q.2.k.n q.2.k.c, .slice q.2.r.A q.2.r.n q.2.r.c]) := Lib.hid (Blk.drew (Blk.new _ _ _))
              refine wp_region_held_tail 7 (fun Y => Y.cell? ⟨gl, 0, none⟩ = some (.slice (some ⟨b, o, none⟩) n c) ∧ Y.cell? ⟨X.heap.size, 0, none⟩ = some (.string q.1.name)) (by kernel_rfl) (by kernel_rfl) ?hSkw (fun hHeld => ?qkw0)
              case hSkw => exact HSo.out _ HBz.out HXz.out
              case qkw0 =>
                simp only [List.take_succ_cons, List.take_zero, List.drop_succ_cons, List.drop_zero]
                refine wpAnyH_take (i := 0) (v := (.slice (some ⟨b, o, none⟩) n c)) rfl (by kernel_rfl) (by kernel_rfl) (by kernel_rfl) (fun _ _ _ h => h) (Or.inl ⟨by rfl, ?ykw_1⟩) (by assumption) ?qkw_1
                case ykw_1 => (intro w hSw; (try dsimp only at hSw); go_simp)
                case qkw_1 =>
                  (try simp only [Act.put]); (try simp only [List.setIfInBounds_toArray])
                  refine wpAnyH_take (i := 1) (v := (.int .i64 k)) rfl (by kernel_rfl) (by kernel_rfl) (by kernel_rfl) (fun _ _ _ h => h) (Or.inl ⟨by rfl, ?ykw_2⟩) (by assumption) ?qkw_2
                  case ykw_2 => (intro w hSw; (try dsimp only at hSw); go_simp)
                  case qkw_2 =>
                    (try simp only [Act.put]); (try simp only [List.setIfInBounds_toArray])
                    refine wpAnyH_take (i := 2) (v := (.slice (some ⟨b, o, none⟩) k c)) rfl (by kernel_rfl) (by kernel_rfl) (by kernel_rfl) (fun _ _ _ h => h) (Or.inl ⟨by rfl, ?ykw_3⟩) (by assumption) ?qkw_3
                    case ykw_3 => (intro w hSw; (try dsimp only at hSw); go_simp)
                    case qkw_3 =>
                      (try simp only [Act.put]); (try simp only [List.setIfInBounds_toArray])
                      refine wpAnyH_take (i := 3) (v := (.func (.func 51) #[] #[.pointer (some ⟨X.heap.size, 0, none⟩)])) rfl (by kernel_rfl) (by kernel_rfl) (by kernel_rfl) (fun _ _ _ h => h) (Or.inl ⟨by rfl, ?ykw_4⟩) (by assumption) ?qkw_4
                      case ykw_4 => (intro w hSw; (try dsimp only at hSw); go_simp)
                      case qkw_4 =>
                        (try simp only [Act.put]); (try simp only [List.setIfInBounds_toArray])
                        refine wpAnyH_take (i := 4) (v := (.pointer (some ⟨X.heap.size, 0, none⟩))) rfl (by kernel_rfl) (by kernel_rfl) (by kernel_rfl) (fun _ _ _ h => h) (Or.inl ⟨by rfl, ?ykw_5⟩) (by assumption) ?qkw_5
                        case ykw_5 => (intro w hSw; (try dsimp only at hSw); go_simp)
                        case qkw_5 =>
                          (try simp only [Act.put]); (try simp only [List.setIfInBounds_toArray])
                          refine wpAnyH_take (i := 5) (v := (.string q.1.name)) rfl (by kernel_rfl) (by kernel_rfl) (by kernel_rfl) (fun _ _ _ h => h) (Or.inl ⟨by rfl, ?ykw_6⟩) (by assumption) ?qkw_6
                          case ykw_6 => (intro w hSw; (try dsimp only at hSw); go_simp)
                          case qkw_6 =>
                            (try simp only [Act.put]); (try simp only [List.setIfInBounds_toArray])
                            refine wpAnyH_ready (rs := [6]) (by kernel_rfl) (by simp) ?_
                            refine AllReadyH.cons rfl (fun K hK => ?skw_7) ?mkw_7
                            case skw_7 =>
                              (refine step_mk1 _ (by rfl) 9 #[.string q.1.name] (by go_simp) ?_; intro gw Yw hxw hbw hsw; have HUw := Lib.hid hxw; have HXz := Lib.hid (HXz.out.after hbw); have HBz := Lib.hid (HBz.out.trans (hbw.mono HBz.out.size)); clear hxw hbw hsw)
                              refine hK.out _ _ ?kkw_7 (fun hHeld => ?qkw_7)
                              case kkw_7 => ((try dsimp only); exact HSo.out _ HBz.out HXz.out)
                              case qkw_7 =>
                                clear hK K
                                (try simp only [Act.put]); (try simp only [List.setIfInBounds_toArray])
                                refine wpAnyH_done (by kernel_rfl) ?_ _
                                clear hHeld
                                show wpList _ _ _ _ _ _
                                go_wp2_with (first | (go_at_call 50; (with_reducible refine (HN.out _ _ HBz.out HXz.out HUw.out).mono ?_); go_must (rintro e1 Y1 ⟨rfl, hb1⟩; have HB1 := Lib.hid (HBz.out.trans (hb1.mono HBz.out.size)); have HX1 := Lib.hid (HXz.out.after hb1); have y1 := (HX1.out.cell 1).trans (show _ = some (.string q.1.super) from rfl); have y0 := (HX1.out.cell 0).trans (show _ = some (.string q.1.name) from rfl); clear hb1)) | (go_at_call 42; (with_reducible refine (nRight_any _ _).mono ?_); go_must (rintro e2 Y2 ⟨rfl, rfl⟩; rw [HD.out])))
                                have HBz : Hid (Below X.heap.size X Y1.drew) := Lib.hid (below_drew HB1.out)
                                have HXz : Hid (Blk Y1.drew X.heap.size 47 #[.string q.1.name, .string q.1.super, .bool q.1.abs, .slice q.2.p.A q.2.p.n q.2.p.c, .slice q.2.k.A q.2.k.n q.2.k.c, .slice q.2.r.A q.2.r.n q.2.r.c]) := Lib.hid (Blk.drew HX1.out)
                                refine wp_region_held_tail 4 (fun Y => Y.cell? ⟨X.heap.size, 3, none⟩ = some (.slice q.2.p.A q.2.p.n q.2.p.c) ∧ Y.cell? ⟨X.heap.size, 4, none⟩ = some (.slice q.2.k.A q.2.k.n q.2.k.c) ∧ Y.cell? ⟨X.heap.size, 5, none⟩ = some (.slice q.2.r.A q.2.r.n q.2.r.c)) (by kernel_rfl) (by kernel_rfl) ?hSky (fun hHeld => ?qky0)
                                case hSky => exact HSx.out _ HXz.out
                                case qky0 =>
                                  simp only [List.take_succ_cons, List.take_zero, List.drop_succ_cons, List.drop_zero]
                                  refine wpAnyH_take (i := 0) (v := (.pointer (some ⟨X.heap.size, 3, none⟩))) rfl (by kernel_rfl) (by kernel_rfl) (by kernel_rfl) (fun _ _ _ h => h) (Or.inl ⟨by rfl, ?yky_1⟩) (by assumption) ?qky_1
                                  case yky_1 => (intro w hSw; (try dsimp only at hSw); go_simp)
                                  case qky_1 =>
                                    (try simp only [Act.put]); (try simp only [List.setIfInBounds_toArray])
                                    refine wpAnyH_take (i := 1) (v := (.slice q.2.p.A q.2.p.n q.2.p.c)) rfl (by kernel_rfl) (by kernel_rfl) (by kernel_rfl) (fun _ _ _ h => h) (Or.inl ⟨by rfl, ?yky_2⟩) (by assumption) ?qky_2
                                    case yky_2 => (intro w hSw; (try dsimp only at hSw); go_simp)
                                    case qky_2 =>
                                      (try simp only [Act.put]); (try simp only [List.setIfInBounds_toArray])
                                      refine wpAnyH_take (i := 2) (v := (.int .i64 k)) rfl (by kernel_rfl) (by kernel_rfl) (by kernel_rfl) (fun _ _ _ h => h) (Or.inl ⟨by rfl, ?yky_3⟩) (by assumption) ?qky_3
                                      case yky_3 => (intro w hSw; (try dsimp only at hSw); go_simp)
                                      case qky_3 =>
                                        (try simp only [Act.put]); (try simp only [List.setIfInBounds_toArray])
                                        refine wpAnyH_ready (rs := [3]) (by kernel_rfl) (by simp) ?_
                                        refine AllReadyH.cons rfl (fun K hK => ?sky_4) ?mky_4
                                        case sky_4 =>
                                          (refine step_call _ (by rfl) 53 #[.int .i64 2, .int .i64 k, .int .i64 0] (by go_simp) (parts_wher _ 2 k 0 0 rfl (by decide)) ?_; rintro e2 Yw ⟨cW, rfl, hw3, hb3⟩; refine ⟨_, rfl, ?_⟩; have HW3 := Lib.hid hw3; have HXz := Lib.hid (HXz.out.after hb3); have HBz := Lib.hid (HBz.out.trans (hb3.mono HBz.out.size)); clear hb3 hw3)
                                          refine hK.out _ _ ?kky_4 (fun hHeld => ?qky_4)
                                          case kky_4 => ((try dsimp only); exact HSx.out _ HXz.out)
                                          case qky_4 =>
                                            clear hK K
                                            (try simp only [Act.put]); (try simp only [List.setIfInBounds_toArray])
                                            refine wpAnyH_done (by kernel_rfl) ?_ _
                                            clear hHeld
                                            show wpList _ _ _ _ _ _
                                            go_wp2_with (go_at_call 52; (with_reducible refine (HPp.out _ _ HBz.out HW3.out).mono ?_); go_must (rintro e3 Y2 ⟨rfl, hb4⟩; have HB2 := Lib.hid (HBz.out.trans (hb4.mono HBz.out.size)); have HX2 := Lib.hid (HXz.out.after hb4); clear hb4))
                                            have HBz : Hid (Below X.heap.size X Y2.drew) := Lib.hid (below_drew HB2.out)
                                            have HXz : Hid (Blk Y2.drew X.heap.size 47 #[.string q.1.name, .string q.1.super, .bool q.1.abs, .slice q.2.p.A q.2.p.n q.2.p.c, .slice q.2.k.A q.2.k.n q.2.k.c, .slice q.2.r.A q.2.r.n q.2.r.c]) := Lib.hid (Blk.drew HX2.out)
                                            refine wp_region_held_tail 7 (fun Y => Y.cell? ⟨X.heap.size, 3, none⟩ = some (.slice q.2.p.A q.2.p.n q.2.p.c) ∧ Y.cell? ⟨X.heap.size, 4, none⟩ = some (.slice q.2.k.A q.2.k.n q.2.k.c) ∧ Y.cell? ⟨X.heap.size, 5, none⟩ = some (.slice q.2.r.A q.2.r.n q.2.r.c)) (by kernel_rfl) (by kernel_rfl) ?hSkyp (fun hHeld => ?qkyp0)
                                            case hSkyp => exact HSx.out _ HXz.out
                                            case qkyp0 =>
                                              simp only [List.take_succ_cons, List.take_zero, List.drop_succ_cons, List.drop_zero]
                                              refine wpAnyH_take (i := 0) (v := (.pointer (some ⟨X.heap.size, 4, none⟩))) rfl (by kernel_rfl) (by kernel_rfl) (by kernel_rfl) (fun _ _ _ h => h) (Or.inl ⟨by rfl, ?ykyp_1⟩) (by assumption) ?qkyp_1
                                              case ykyp_1 => (intro w hSw; (try dsimp only at hSw); go_simp)
                                              case qkyp_1 =>
                                                (try simp only [Act.put]); (try simp only [List.setIfInBounds_toArray])
                                                refine wpAnyH_take (i := 1) (v := (.slice q.2.k.A q.2.k.n q.2.k.c)) rfl (by kernel_rfl) (by kernel_rfl) (by kernel_rfl) (fun _ _ _ h => h) (Or.inl ⟨by rfl, ?ykyp_2⟩) (by assumption) ?qkyp_2
                                                case ykyp_2 => (intro w hSw; (try dsimp only at hSw); go_simp)
                                                case qkyp_2 =>
                                                  (try simp only [Act.put]); (try simp only [List.setIfInBounds_toArray])
                                                  refine wpAnyH_take (i := 2) (v := (.int .i64 k)) rfl (by kernel_rfl) (by kernel_rfl) (by kernel_rfl) (fun _ _ _ h => h) (Or.inl ⟨by rfl, ?ykyp_3⟩) (by assumption) ?qkyp_3
                                                  case ykyp_3 => (intro w hSw; (try dsimp only at hSw); go_simp)
                                                  case qkyp_3 =>
                                                    (try simp only [Act.put]); (try simp only [List.setIfInBounds_toArray])
                                                    refine wpAnyH_take (i := 3) (v := (.pointer (some ⟨X.heap.size, 3, none⟩))) rfl (by kernel_rfl) (by kernel_rfl) (by kernel_rfl) (fun _ _ _ h => h) (Or.inl ⟨by rfl, ?ykyp_4⟩) (by assumption) ?qkyp_4
                                                    case ykyp_4 => (intro w hSw; (try dsimp only at hSw); go_simp)
                                                    case qkyp_4 =>
                                                      (try simp only [Act.put]); (try simp only [List.setIfInBounds_toArray])
                                                      refine wpAnyH_take (i := 4) (v := (.slice q.2.p.A q.2.p.n q.2.p.c)) rfl (by kernel_rfl) (by kernel_rfl) (by kernel_rfl) (fun _ _ _ h => h) (Or.inl ⟨by rfl, ?ykyp_5⟩) (by assumption) ?qkyp_5
                                                      case ykyp_5 => (intro w hSw; (try dsimp only at hSw); go_simp)
                                                      case qkyp_5 =>
                                                        (try simp only [Act.put]); (try simp only [List.setIfInBounds_toArray])
                                                        refine wpAnyH_take (i := 5) (v := (.int .i64 q.2.p.n)) rfl (by kernel_rfl) (by kernel_rfl) (by kernel_rfl) (fun _ _ _ h => h) (Or.inl ⟨by rfl, ?ykyp_6⟩) (by assumption) ?qkyp_6
                                                        case ykyp_6 => (intro w hSw; (try dsimp only at hSw); go_simp)
                                                        case qkyp_6 =>
                                                          (try simp only [Act.put]); (try simp only [List.setIfInBounds_toArray])
                                                          refine wpAnyH_ready (rs := [6]) (by kernel_rfl) (by simp) ?_
                                                          refine AllReadyH.cons rfl (fun K hK => ?skyp_7) ?mkyp_7
                                                          case skyp_7 =>
                                                            (refine step_call _ (by rfl) 53 #[.int .i64 2, .int .i64 k, .int .i64 q.2.p.n] (by go_simp) (parts_wher _ 2 k q.1.props.length q.2.p.n HPN.out HPL.out) ?_; rintro e2 Yw ⟨cW, rfl, hw3, hb3⟩; refine ⟨_, rfl, ?_⟩; have HW3 := Lib.hid hw3; have HXz := Lib.hid (HXz.out.after hb3); have HBz := Lib.hid (HBz.out.trans (hb3.mono HBz.out.size)); clear hb3 hw3)
                                                            refine hK.out _ _ ?kkyp_7 (fun hHeld => ?qkyp_7)
                                                            case kkyp_7 => ((try dsimp only); exact HSx.out _ HXz.out)
                                                            case qkyp_7 =>
                                                              clear hK K
                                                              (try simp only [Act.put]); (try simp only [List.setIfInBounds_toArray])
                                                              refine wpAnyH_done (by kernel_rfl) ?_ _
                                                              clear hHeld
                                                              show wpList _ _ _ _ _ _
                                                              go_wp2_with (go_at_call 54; (with_reducible refine (HPk.out _ _ HBz.out HW3.out).mono ?_); go_must (rintro e3 Y3 ⟨rfl, hb4⟩; have HB3 := Lib.hid (HBz.out.trans (hb4.mono HBz.out.size)); have HX3 := Lib.hid (HXz.out.after hb4); clear hb4))
                                                              exact ⟨rfl, rfl, HB3.out⟩
                                                          case mkyp_7 =>
                                                            exact AllReadyH.nil
                                        case mky_4 =>
                                          exact AllReadyH.nil
                            case mkw_7 =>
                              exact AllReadyH.nil)
        | none =>
          have hl2 := HL2.out rfl
          have HKL : Hid (q.1.props.length + q.1.kids.length < 4611686018427387904) := Lib.hid (by omega)
          have hwr := HWR.out hl1 hl2
          cases vr with
          | some f =>
            have HR2 : Hid (ov = .thr f) := Lib.hid (HR.out.trans (by rw [HPS.out]; rfl))
            rw [HR2.out]
            rcases h2 with rfl | rfl
            · skip
              go_enter Tryz.func49, Tryz.ntmps49
              go_upto_region 1 with (fail)
              have HBz : Hid (Below X.heap.size X (X.alloc (.cells #[.string q.1.name, .string q.1.super, .bool q.1.abs, .slice q.2.p.A q.2.p.n q.2.p.c, .slice q.2.k.A q.2.k.n q.2.k.c, .slice q.2.r.A q.2.r.n q.2.r.c] 47)).drew) := Lib.hid (below_drew (below_of_alloc _))
              have HXz : Hid (Blk (X.alloc (.cells #[.string q.1.name, .string q.1.super, .bool q.1.abs, .slice q.2.p.A q.2.p.n q.2.p.c, .slice q.2.k.A q.2.k.n q.2.k.c, .slice q.2.r.A q.2.r.n q.2.r.c] 47)).drew X.heap.size 47 #[.string q.1.name, .string q.1.super, .bool q.1.abs, .slice q.2.p.A q.2.p.n q.2.p.c, .slice q.2.k.A q.2.k.n q.2.k.c, .slice q.2.r.A q.2.r.n q.2.r.c]) := Lib.hid (Blk.drew (Blk.new _ _ _))
              refine wp_region_held_tail 7 (fun Y => Y.cell? ⟨gl, 0, none⟩ = some (.slice (some ⟨b, o, none⟩) n c) ∧ Y.cell? ⟨X.heap.size, 0, none⟩ = some (.string q.1.name)) (by kernel_rfl) (by kernel_rfl) ?hSr (fun hHeld => ?qr0)
              case hSr => exact HSo.out _ HBz.out HXz.out
              case qr0 =>
                simp only [List.take_succ_cons, List.take_zero, List.drop_succ_cons, List.drop_zero]
                refine wpAnyH_take (i := 0) (v := (.slice (some ⟨b, o, none⟩) n c)) rfl (by kernel_rfl) (by kernel_rfl) (by kernel_rfl) (fun _ _ _ h => h) (Or.inl ⟨by rfl, ?yr_1⟩) (by assumption) ?qr_1
                case yr_1 => (intro w hSw; (try dsimp only at hSw); go_simp)
                case qr_1 =>
                  (try simp only [Act.put]); (try simp only [List.setIfInBounds_toArray])
                  refine wpAnyH_take (i := 1) (v := (.int .i64 k)) rfl (by kernel_rfl) (by kernel_rfl) (by kernel_rfl) (fun _ _ _ h => h) (Or.inl ⟨by rfl, ?yr_2⟩) (by assumption) ?qr_2
                  case yr_2 => (intro w hSw; (try dsimp only at hSw); go_simp)
                  case qr_2 =>
                    (try simp only [Act.put]); (try simp only [List.setIfInBounds_toArray])
                    refine wpAnyH_take (i := 2) (v := (.slice (some ⟨b, o, none⟩) k c)) rfl (by kernel_rfl) (by kernel_rfl) (by kernel_rfl) (fun _ _ _ h => h) (Or.inl ⟨by rfl, ?yr_3⟩) (by assumption) ?qr_3
                    case yr_3 => (intro w hSw; (try dsimp only at hSw); go_simp)
                    case qr_3 =>
                      (try simp only [Act.put]); (try simp only [List.setIfInBounds_toArray])
                      refine wpAnyH_take (i := 3) (v := (.func (.func 51) #[] #[.pointer (some ⟨X.heap.size, 0, none⟩)])) rfl (by kernel_rfl) (by kernel_rfl) (by kernel_rfl) (fun _ _ _ h => h) (Or.inl ⟨by rfl, ?yr_4⟩) (by assumption) ?qr_4
                      case yr_4 => (intro w hSw; (try dsimp only at hSw); go_simp)
                      case qr_4 =>
                        (try simp only [Act.put]); (try simp only [List.setIfInBounds_toArray])
                        refine wpAnyH_take (i := 4) (v := (.pointer (some ⟨X.heap.size, 0, none⟩))) rfl (by kernel_rfl) (by kernel_rfl) (by kernel_rfl) (fun _ _ _ h => h) (Or.inl ⟨by rfl, ?yr_5⟩) (by assumption) ?qr_5
                        case yr_5 => (intro w hSw; (try dsimp only at hSw); go_simp)
                        case qr_5 =>
                          (try simp only [Act.put]); (try simp only [List.setIfInBounds_toArray])
                          refine wpAnyH_take (i := 5) (v := (.string q.1.name)) rfl (by kernel_rfl) (by kernel_rfl) (by kernel_rfl) (fun _ _ _ h => h) (Or.inl ⟨by rfl, ?yr_6⟩) (by assumption) ?qr_6
                          case yr_6 => (intro w hSw; (try dsimp only at hSw); go_simp)
                          case qr_6 =>
                            (try simp only [Act.put]); (try simp only [List.setIfInBounds_toArray])
                            refine wpAnyH_ready (rs := [6]) (by kernel_rfl) (by simp) ?_
                            refine AllReadyH.cons rfl (fun K hK => ?sr_7) ?mr_7
                            case sr_7 =>
                              (refine step_mk1 _ (by rfl) 9 #[.string q.1.name] (by go_simp) ?_; intro gw Yw hxw hbw hsw; have HUw := Lib.hid hxw; have HXz := Lib.hid (HXz.out.after hbw); have HBz := Lib.hid (HBz.out.trans (hbw.mono HBz.out.size)); clear hxw hbw hsw)
                              refine hK.out _ _ ?kr_7 (fun hHeld => ?qr_7)
                              case kr_7 => ((try dsimp only); exact HSo.out _ HBz.out HXz.out)
                              case qr_7 =>
                                clear hK K
                                (try simp only [Act.put]); (try simp only [List.setIfInBounds_toArray])
                                refine wpAnyH_done (by kernel_rfl) ?_ _
                                clear hHeld
                                show wpList _ _ _ _ _ _
                                go_wp2_with (first | (go_at_call 50; (with_reducible refine (HN.out _ _ HBz.out HXz.out HUw.out).mono ?_); go_must (rintro e1 Y1 ⟨rfl, hb1⟩; have HB1 := Lib.hid (HBz.out.trans (hb1.mono HBz.out.size)); have HX1 := Lib.hid (HXz.out.after hb1); have y1 := (HX1.out.cell 1).trans (show _ = some (.string q.1.super) from rfl); have y0 := (HX1.out.cell 0).trans (show _ = some (.string q.1.name) from rfl); clear hb1)) | (go_at_call 42; (with_reducible refine (nRight_any _ _).mono ?_); go_must (rintro e2 Y2 ⟨rfl, rfl⟩; rw [HD.out])))
                                have HBz : Hid (Below X.heap.size X Y1.drew) := Lib.hid (below_drew HB1.out)
                                have HXz : Hid (Blk Y1.drew X.heap.size 47 #[.string q.1.name, .string q.1.super, .bool q.1.abs, .slice q.2.p.A q.2.p.n q.2.p.c, .slice q.2.k.A q.2.k.n q.2.k.c, .slice q.2.r.A q.2.r.n q.2.r.c]) := Lib.hid (Blk.drew HX1.out)
                                refine wp_region_held_tail 4 (fun Y => Y.cell? ⟨X.heap.size, 3, none⟩ = some (.slice q.2.p.A q.2.p.n q.2.p.c) ∧ Y.cell? ⟨X.heap.size, 4, none⟩ = some (.slice q.2.k.A q.2.k.n q.2.k.c) ∧ Y.cell? ⟨X.heap.size, 5, none⟩ = some (.slice q.2.r.A q.2.r.n q.2.r.c)) (by kernel_rfl) (by kernel_rfl) ?hSrx (fun hHeld => ?qrx0)
                                case hSrx => exact HSx.out _ HXz.out
                                case qrx0 =>
                                  simp only [List.take_succ_cons, List.take_zero, List.drop_succ_cons, List.drop_zero]
                                  refine wpAnyH_take (i := 0) (v := (.pointer (some ⟨X.heap.size, 3, none⟩))) rfl (by kernel_rfl) (by kernel_rfl) (by kernel_rfl) (fun _ _ _ h => h) (Or.inl ⟨by rfl, ?yrx_1⟩) (by assumption) ?qrx_1
                                  case yrx_1 => (intro w hSw; (try dsimp only at hSw); go_simp)
                                  case qrx_1 =>
                                    (try simp only [Act.put]); (try simp only [List.setIfInBounds_toArray])
                                    refine wpAnyH_take (i := 1) (v := (.slice q.2.p.A q.2.p.n q.2.p.c)) rfl (by kernel_rfl) (by kernel_rfl) (by kernel_rfl) (fun _ _ _ h => h) (Or.inl ⟨by rfl, ?yrx_2⟩) (by assumption) ?qrx_2
                                    case yrx_2 => (intro w hSw; (try dsimp only at hSw); go_simp)
                                    case qrx_2 =>
                                      (try simp only [Act.put]); (try simp only [List.setIfInBounds_toArray])
                                      refine wpAnyH_take (i := 2) (v := (.int .i64 k)) rfl (by kernel_rfl) (by kernel_rfl) (by kernel_rfl) (fun _ _ _ h => h) (Or.inl ⟨by rfl, ?yrx_3⟩) (by assumption) ?qrx_3
                                      case yrx_3 => (intro w hSw; (try dsimp only at hSw); go_simp)
                                      case qrx_3 =>
                                        (try simp only [Act.put]); (try simp only [List.setIfInBounds_toArray])
                                        refine wpAnyH_ready (rs := [3]) (by kernel_rfl) (by simp) ?_
                                        refine AllReadyH.cons rfl (fun K hK => ?srx_4) ?mrx_4
                                        case srx_4 =>
                                          (refine step_call _ (by rfl) 53 #[.int .i64 2, .int .i64 k, .int .i64 0] (by go_simp) (parts_wher _ 2 k 0 0 rfl (by decide)) ?_; rintro e2 Yw ⟨cW, rfl, hw3, hb3⟩; refine ⟨_, rfl, ?_⟩; have HW3 := Lib.hid hw3; have HXz := Lib.hid (HXz.out.after hb3); have HBz := Lib.hid (HBz.out.trans (hb3.mono HBz.out.size)); clear hb3 hw3)
                                          refine hK.out _ _ ?krx_4 (fun hHeld => ?qrx_4)
                                          case krx_4 => ((try dsimp only); exact HSx.out _ HXz.out)
                                          case qrx_4 =>
                                            clear hK K
                                            (try simp only [Act.put]); (try simp only [List.setIfInBounds_toArray])
                                            refine wpAnyH_done (by kernel_rfl) ?_ _
                                            clear hHeld
                                            show wpList _ _ _ _ _ _
                                            go_wp2_with (go_at_call 52; (with_reducible refine (HPp.out _ _ HBz.out HW3.out).mono ?_); go_must (rintro e3 Y2 ⟨rfl, hb4⟩; have HB2 := Lib.hid (HBz.out.trans (hb4.mono HBz.out.size)); have HX2 := Lib.hid (HXz.out.after hb4); clear hb4))
                                            have HBz : Hid (Below X.heap.size X Y2.drew) := Lib.hid (below_drew HB2.out)
                                            have HXz : Hid (Blk Y2.drew X.heap.size 47 #[.string q.1.name, .string q.1.super, .bool q.1.abs, .slice q.2.p.A q.2.p.n q.2.p.c, .slice q.2.k.A q.2.k.n q.2.k.c, .slice q.2.r.A q.2.r.n q.2.r.c]) := Lib.hid (Blk.drew HX2.out)
                                            refine wp_region_held_tail 7 (fun Y => Y.cell? ⟨X.heap.size, 3, none⟩ = some (.slice q.2.p.A q.2.p.n q.2.p.c) ∧ Y.cell? ⟨X.heap.size, 4, none⟩ = some (.slice q.2.k.A q.2.k.n q.2.k.c) ∧ Y.cell? ⟨X.heap.size, 5, none⟩ = some (.slice q.2.r.A q.2.r.n q.2.r.c)) (by kernel_rfl) (by kernel_rfl) ?hSrxp (fun hHeld => ?qrxp0)
                                            case hSrxp => exact HSx.out _ HXz.out
                                            case qrxp0 =>
                                              simp only [List.take_succ_cons, List.take_zero, List.drop_succ_cons, List.drop_zero]
                                              refine wpAnyH_take (i := 0) (v := (.pointer (some ⟨X.heap.size, 4, none⟩))) rfl (by kernel_rfl) (by kernel_rfl) (by kernel_rfl) (fun _ _ _ h => h) (Or.inl ⟨by rfl, ?yrxp_1⟩) (by assumption) ?qrxp_1
                                              case yrxp_1 => (intro w hSw; (try dsimp only at hSw); go_simp)
                                              case qrxp_1 =>
                                                (try simp only [Act.put]); (try simp only [List.setIfInBounds_toArray])
                                                refine wpAnyH_take (i := 1) (v := (.slice q.2.k.A q.2.k.n q.2.k.c)) rfl (by kernel_rfl) (by kernel_rfl) (by kernel_rfl) (fun _ _ _ h => h) (Or.inl ⟨by rfl, ?yrxp_2⟩) (by assumption) ?qrxp_2
                                                case yrxp_2 => (intro w hSw; (try dsimp only at hSw); go_simp)
                                                case qrxp_2 =>
                                                  (try simp only [Act.put]); (try simp only [List.setIfInBounds_toArray])
                                                  refine wpAnyH_take (i := 2) (v := (.int .i64 k)) rfl (by kernel_rfl) (by kernel_rfl) (by kernel_rfl) (fun _ _ _ h => h) (Or.inl ⟨by rfl, ?yrxp_3⟩) (by assumption) ?qrxp_3
                                                  case yrxp_3 => (intro w hSw; (try dsimp only at hSw); go_simp)
                                                  case qrxp_3 =>
                                                    (try simp only [Act.put]); (try simp only [List.setIfInBounds_toArray])
                                                    refine wpAnyH_take (i := 3) (v := (.pointer (some ⟨X.heap.size, 3, none⟩))) rfl (by kernel_rfl) (by kernel_rfl) (by kernel_rfl) (fun _ _ _ h => h) (Or.inl ⟨by rfl, ?yrxp_4⟩) (by assumption) ?qrxp_4
                                                    case yrxp_4 => (intro w hSw; (try dsimp only at hSw); go_simp)
                                                    case qrxp_4 =>
                                                      (try simp only [Act.put]); (try simp only [List.setIfInBounds_toArray])
                                                      refine wpAnyH_take (i := 4) (v := (.slice q.2.p.A q.2.p.n q.2.p.c)) rfl (by kernel_rfl) (by kernel_rfl) (by kernel_rfl) (fun _ _ _ h => h) (Or.inl ⟨by rfl, ?yrxp_5⟩) (by assumption) ?qrxp_5
                                                      case yrxp_5 => (intro w hSw; (try dsimp only at hSw); go_simp)
                                                      case qrxp_5 =>
                                                        (try simp only [Act.put]); (try simp only [List.setIfInBounds_toArray])
                                                        refine wpAnyH_take (i := 5) (v := (.int .i64 q.2.p.n)) rfl (by kernel_rfl) (by kernel_rfl) (by kernel_rfl) (fun _ _ _ h => h) (Or.inl ⟨by rfl, ?yrxp_6⟩) (by assumption) ?qrxp_6
                                                        case yrxp_6 => (intro w hSw; (try dsimp only at hSw); go_simp)
                                                        case qrxp_6 =>
                                                          (try simp only [Act.put]); (try simp only [List.setIfInBounds_toArray])
                                                          refine wpAnyH_ready (rs := [6]) (by kernel_rfl) (by simp) ?_
                                                          refine AllReadyH.cons rfl (fun K hK => ?srxp_7) ?mrxp_7
                                                          case srxp_7 =>
                                                            (refine step_call _ (by rfl) 53 #[.int .i64 2, .int .i64 k, .int .i64 q.2.p.n] (by go_simp) (parts_wher _ 2 k q.1.props.length q.2.p.n HPN.out HPL.out) ?_; rintro e2 Yw ⟨cW, rfl, hw3, hb3⟩; refine ⟨_, rfl, ?_⟩; have HW3 := Lib.hid hw3; have HXz := Lib.hid (HXz.out.after hb3); have HBz := Lib.hid (HBz.out.trans (hb3.mono HBz.out.size)); clear hb3 hw3)
                                                            refine hK.out _ _ ?krxp_7 (fun hHeld => ?qrxp_7)
                                                            case krxp_7 => ((try dsimp only); exact HSx.out _ HXz.out)
                                                            case qrxp_7 =>
                                                              clear hK K
                                                              (try simp only [Act.put]); (try simp only [List.setIfInBounds_toArray])
                                                              refine wpAnyH_done (by kernel_rfl) ?_ _
                                                              clear hHeld
                                                              show wpList _ _ _ _ _ _
                                                              go_wp2_with (go_at_call 54; (with_reducible refine (HPk.out _ _ HBz.out HW3.out).mono ?_); go_must (rintro e3 Y3 ⟨rfl, hb4⟩; have HB3 := Lib.hid (HBz.out.trans (hb4.mono HBz.out.size)); have HX3 := Lib.hid (HXz.out.after hb4); clear hb4))
                                                              have HBz : Hid (Below X.heap.size X Y3.drew) := Lib.hid (below_drew HB3.out)
                                                              have HXz : Hid (Blk Y3.drew X.heap.size 47 #[.string q.1.name, .string q.1.super, .bool q.1.abs, .slice q.2.p.A q.2.p.n q.2.p.c, .slice q.2.k.A q.2.k.n q.2.k.c, .slice q.2.r.A q.2.r.n q.2.r.c]) := Lib.hid (Blk.drew HX3.out)
                                                              refine wp_region_held_tail 11 (fun Y => Y.cell? ⟨X.heap.size, 3, none⟩ = some (.slice q.2.p.A q.2.p.n q.2.p.c) ∧ Y.cell? ⟨X.heap.size, 4, none⟩ = some (.slice q.2.k.A q.2.k.n q.2.k.c) ∧ Y.cell? ⟨X.heap.size, 5, none⟩ = some (.slice q.2.r.A q.2.r.n q.2.r.c)) (by kernel_rfl) (by kernel_rfl) ?hSrxpk (fun hHeld => ?qrxpk0)
                                                              case hSrxpk => exact HSx.out _ HXz.out
                                                              case qrxpk0 =>
                                                                simp only [List.take_succ_cons, List.take_zero, List.drop_succ_cons, List.drop_zero]
                                                                refine wpAnyH_take (i := 0) (v := (.pointer (some ⟨X.heap.size, 5, none⟩))) rfl (by kernel_rfl) (by kernel_rfl) (by kernel_rfl) (fun _ _ _ h => h) (Or.inl ⟨by rfl, ?yrxpk_1⟩) (by assumption) ?qrxpk_1
                                                                case yrxpk_1 => (intro w hSw; (try dsimp only at hSw); go_simp)
                                                                case qrxpk_1 =>
                                                                  (try simp only [Act.put]); (try simp only [List.setIfInBounds_toArray])
                                                                  refine wpAnyH_take (i := 1) (v := (.slice q.2.r.A q.2.r.n q.2.r.c)) rfl (by kernel_rfl) (by kernel_rfl) (by kernel_rfl) (fun _ _ _ h => h) (Or.inl ⟨by rfl, ?yrxpk_2⟩) (by assumption) ?qrxpk_2
                                                                  case yrxpk_2 => (intro w hSw; (try dsimp only at hSw); go_simp)
                                                                  case qrxpk_2 =>
                                                                    (try simp only [Act.put]); (try simp only [List.setIfInBounds_toArray])
                                                                    refine wpAnyH_take (i := 2) (v := (.int .i64 k)) rfl (by kernel_rfl) (by kernel_rfl) (by kernel_rfl) (fun _ _ _ h => h) (Or.inl ⟨by rfl, ?yrxpk_3⟩) (by assumption) ?qrxpk_3
                                                                    case yrxpk_3 => (intro w hSw; (try dsimp only at hSw); go_simp)
                                                                    case qrxpk_3 =>
                                                                      (try simp only [Act.put]); (try simp only [List.setIfInBounds_toArray])
                                                                      refine wpAnyH_take (i := 3) (v := (.pointer (some ⟨X.heap.size, 3, none⟩))) rfl (by kernel_rfl) (by kernel_rfl) (by kernel_rfl) (fun _ _ _ h => h) (Or.inl ⟨by rfl, ?yrxpk_4⟩) (by assumption) ?qrxpk_4
                                                                      case yrxpk_4 => (intro w hSw; (try dsimp only at hSw); go_simp)
                                                                      case qrxpk_4 =>
                                                                        (try simp only [Act.put]); (try simp only [List.setIfInBounds_toArray])
                                                                        refine wpAnyH_take (i := 4) (v := (.slice q.2.p.A q.2.p.n q.2.p.c)) rfl (by kernel_rfl) (by kernel_rfl) (by kernel_rfl) (fun _ _ _ h => h) (Or.inl ⟨by rfl, ?yrxpk_5⟩) (by assumption) ?qrxpk_5
                                                                        case yrxpk_5 => (intro w hSw; (try dsimp only at hSw); go_simp)
                                                                        case qrxpk_5 =>
                                                                          (try simp only [Act.put]); (try simp only [List.setIfInBounds_toArray])
                                                                          refine wpAnyH_take (i := 5) (v := (.int .i64 q.2.p.n)) rfl (by kernel_rfl) (by kernel_rfl) (by kernel_rfl) (fun _ _ _ h => h) (Or.inl ⟨by rfl, ?yrxpk_6⟩) (by assumption) ?qrxpk_6
                                                                          case yrxpk_6 => (intro w hSw; (try dsimp only at hSw); go_simp)
                                                                          case qrxpk_6 =>
                                                                            (try simp only [Act.put]); (try simp only [List.setIfInBounds_toArray])
                                                                            refine wpAnyH_take (i := 6) (v := (.pointer (some ⟨X.heap.size, 4, none⟩))) rfl (by kernel_rfl) (by kernel_rfl) (by kernel_rfl) (fun _ _ _ h => h) (Or.inl ⟨by rfl, ?yrxpk_7⟩) (by assumption) ?qrxpk_7
                                                                            case yrxpk_7 => (intro w hSw; (try dsimp only at hSw); go_simp)
                                                                            case qrxpk_7 =>
                                                                              (try simp only [Act.put]); (try simp only [List.setIfInBounds_toArray])
                                                                              refine wpAnyH_take (i := 7) (v := (.slice q.2.k.A q.2.k.n q.2.k.c)) rfl (by kernel_rfl) (by kernel_rfl) (by kernel_rfl) (fun _ _ _ h => h) (Or.inl ⟨by rfl, ?yrxpk_8⟩) (by assumption) ?qrxpk_8
                                                                              case yrxpk_8 => (intro w hSw; (try dsimp only at hSw); go_simp)
                                                                              case qrxpk_8 =>
                                                                                (try simp only [Act.put]); (try simp only [List.setIfInBounds_toArray])
                                                                                refine wpAnyH_take (i := 8) (v := (.int .i64 q.2.k.n)) rfl (by kernel_rfl) (by kernel_rfl) (by kernel_rfl) (fun _ _ _ h => h) (Or.inl ⟨by rfl, ?yrxpk_9⟩) (by assumption) ?qrxpk_9
                                                                                case yrxpk_9 => (intro w hSw; (try dsimp only at hSw); go_simp)
                                                                                case qrxpk_9 =>
                                                                                  (try simp only [Act.put]); (try simp only [List.setIfInBounds_toArray])
                                                                                  refine wpAnyH_take (i := 9) (v := (.int .i64 ((q.2.p.n : Int) + (q.2.k.n : Int)))) rfl (by kernel_rfl) (by kernel_rfl) (by kernel_rfl) (fun _ _ _ h => h) (Or.inl ⟨by rfl, ?yrxpk_10⟩) (by assumption) ?qrxpk_10
                                                                                  case yrxpk_10 => (intro w hSw; (try dsimp only at hSw); go_simp)
                                                                                  case qrxpk_10 =>
                                                                                    (try simp only [Act.put]); (try simp only [List.setIfInBounds_toArray])
                                                                                    refine wpAnyH_ready (rs := [10]) (by kernel_rfl) (by simp) ?_
                                                                                    refine AllReadyH.cons rfl (fun K hK => ?srxpk_11) ?mrxpk_11
                                                                                    case srxpk_11 =>
                                                                                      (refine step_call _ (by rfl) 53 #[.int .i64 2, .int .i64 k, .int .i64 ((q.2.p.n : Int) + (q.2.k.n : Int))] (by go_simp) (parts_wher _ 2 k (q.1.props.length + q.1.kids.length) ((q.2.p.n : Int) + (q.2.k.n : Int)) HKN.out HKL.out) ?_; rintro e2 Yw ⟨cW, rfl, hw3, hb3⟩; refine ⟨_, rfl, ?_⟩; have HW3 := Lib.hid hw3; have HXz := Lib.hid (HXz.out.after hb3); have HBz := Lib.hid (HBz.out.trans (hb3.mono HBz.out.size)); clear hb3 hw3)
                                                                                      refine hK.out _ _ ?krxpk_11 (fun hHeld => ?qrxpk_11)
                                                                                      case krxpk_11 => ((try dsimp only); exact HSx.out _ HXz.out)
                                                                                      case qrxpk_11 =>
                                                                                        clear hK K
                                                                                        (try simp only [Act.put]); (try simp only [List.setIfInBounds_toArray])
                                                                                        refine wpAnyH_done (by kernel_rfl) ?_ _
                                                                                        clear hHeld
                                                                                        show wpList _ _ _ _ _ _
                                                                                        go_wp2_with (go_at_call 55; (with_reducible refine (HPr.out _ _ HBz.out HW3.out).mono ?_); go_must (rintro e3 Y4 ⟨rfl, hb4⟩; have HB4 := Lib.hid (HBz.out.trans (hb4.mono HBz.out.size)); have HX4 := Lib.hid (HXz.out.after hb4); clear hb4))
                                                                                        exact ⟨rfl, rfl, HB4.out⟩
                                                                                    case mrxpk_11 =>
                                                                                      exact AllReadyH.nil
                                                          case mrxp_7 =>
                                                            exact AllReadyH.nil
                                        case mrx_4 =>
                                          exact AllReadyH.nil
                            case mr_7 =>
                              exact AllReadyH.nil
            · cases b0
              all_goals (
                go_enter Tryz.func49, Tryz.ntmps49
                go_upto_region 1 with (fail)
                have HBz : Hid (Below X.heap.size X (X.alloc (.cells #[.string q.1.name, .string q.1.super, .bool q.1.abs, .slice q.2.p.A q.2.p.n q.2.p.c, .slice q.2.k.A q.2.k.n q.2.k.c, .slice q.2.r.A q.2.r.n q.2.r.c] 47)).drew) := Lib.hid (below_drew (below_of_alloc _))
                have HXz : Hid (Blk (X.alloc (.cells #[.string q.1.name, .string q.1.super, .bool q.1.abs, .slice q.2.p.A q.2.p.n q.2.p.c, .slice q.2.k.A q.2.k.n q.2.k.c, .slice q.2.r.A q.2.r.n q.2.r.c] 47)).drew X.heap.size 47 #[.string q.1.name, .string q.1.super, .bool q.1.abs, .slice q.2.p.A q.2.p.n q.2.p.c, .slice q.2.k.A q.2.k.n q.2.k.c, .slice q.2.r.A q.2.r.n q.2.r.c]) := Lib.hid (Blk.drew (Blk.new _ _ _))
                refine wp_region_held_tail 7 (fun Y => Y.cell? ⟨gl, 0, none⟩ = some (.slice (some ⟨b, o, none⟩) n c) ∧ Y.cell? ⟨X.heap.size, 0, none⟩ = some (.string q.1.name)) (by kernel_rfl) (by kernel_rfl) ?hSrw (fun hHeld => ?qrw0)
                case hSrw => exact HSo.out _ HBz.out HXz.out
                case qrw0 =>
                  simp only [List.take_succ_cons, List.take_zero, List.drop_succ_cons, List.drop_zero]
                  refine wpAnyH_take (i := 0) (v := (.slice (some ⟨b, o, none⟩) n c)) rfl (by kernel_rfl) (by kernel_rfl) (by kernel_rfl) (fun _ _ _ h => h) (Or.inl ⟨by rfl, ?yrw_1⟩) (by assumption) ?qrw_1
                  case yrw_1 => (intro w hSw; (try dsimp only at hSw); go_simp)
                  case qrw_1 =>
                    (try simp only [Act.put]); (try simp only [List.setIfInBounds_toArray])
                    refine wpAnyH_take (i := 1) (v := (.int .i64 k)) rfl (by kernel_rfl) (by kernel_rfl) (by kernel_rfl) (fun _ _ _ h => h) (Or.inl ⟨by rfl, ?yrw_2⟩) (by assumption) ?qrw_2
                    case yrw_2 => (intro w hSw; (try dsimp only at hSw); go_simp)
                    case qrw_2 =>
                      (try simp only [Act.put]); (try simp only [List.setIfInBounds_toArray])
                      refine wpAnyH_take (i := 2) (v := (.slice (some ⟨b, o, none⟩) k c)) rfl (by kernel_rfl) (by kernel_rfl) (by kernel_rfl) (fun _ _ _ h => h) (Or.inl ⟨by rfl, ?yrw_3⟩) (by assumption) ?qrw_3
                      case yrw_3 => (intro w hSw; (try dsimp only at hSw); go_simp)
                      case qrw_3 =>
                        (try simp only [Act.put]); (try simp only [List.setIfInBounds_toArray])
                        refine wpAnyH_take (i := 3) (v := (.func (.func 51) #[] #[.pointer (some ⟨X.heap.size, 0, none⟩)])) rfl (by kernel_rfl) (by kernel_rfl) (by kernel_rfl) (fun _ _ _ h => h) (Or.inl ⟨by rfl, ?yrw_4⟩) (by assumption) ?qrw_4
                        case yrw_4 => (intro w hSw; (try dsimp only at hSw); go_simp)
                        case qrw_4 =>
                          (try simp only [Act.put]); (try simp only [List.setIfInBounds_toArray])
                          refine wpAnyH_take (i := 4) (v := (.pointer (some ⟨X.heap.size, 0, none⟩))) rfl (by kernel_rfl) (by kernel_rfl) (by kernel_rfl) (fun _ _ _ h => h) (Or.inl ⟨by rfl, ?yrw_5⟩) (by assumption) ?qrw_5
                          case yrw_5 => (intro w hSw; (try dsimp only at hSw); go_simp)
                          case qrw_5 =>
                            (try simp only [Act.put]); (try simp only [List.setIfInBounds_toArray])
                            refine wpAnyH_take (i := 5) (v := (.string q.1.name)) rfl (by kernel_rfl) (by kernel_rfl) (by kernel_rfl) (fun _ _ _ h => h) (Or.inl ⟨by rfl, ?yrw_6⟩) (by assumption) ?qrw_6
                            case yrw_6 => (intro w hSw; (try dsimp only at hSw); go_simp)
                            case qrw_6 =>
                              (try simp only [Act.put]); (try simp only [List.setIfInBounds_toArray])
                              refine wpAnyH_ready (rs := [6]) (by kernel_rfl) (by simp) ?_
                              refine AllReadyH.cons rfl (fun K hK => ?srw_7) ?mrw_7
                              case srw_7 =>
                                (refine step_mk1 _ (by rfl) 9 #[.string q.1.name] (by go_simp) ?_; intro gw Yw hxw hbw hsw; have HUw := Lib.hid hxw; have HXz := Lib.hid (HXz.out.after hbw); have HBz := Lib.hid (HBz.out.trans (hbw.mono HBz.out.size)); clear hxw hbw hsw)
                                refine hK.out _ _ ?krw_7 (fun hHeld => ?qrw_7)
                                case krw_7 => ((try dsimp only); exact HSo.out _ HBz.out HXz.out)
                                case qrw_7 =>
                                  clear hK K
                                  (try simp only [Act.put]); (try simp only [List.setIfInBounds_toArray])
                                  refine wpAnyH_done (by kernel_rfl) ?_ _
                                  clear hHeld
                                  show wpList _ _ _ _ _ _
                                  go_wp2_with (first | (go_at_call 50; (with_reducible refine (HN.out _ _ HBz.out HXz.out HUw.out).mono ?_); go_must (rintro e1 Y1 ⟨rfl, hb1⟩; have HB1 := Lib.hid (HBz.out.trans (hb1.mono HBz.out.size)); have HX1 := Lib.hid (HXz.out.after hb1); have y1 := (HX1.out.cell 1).trans (show _ = some (.string q.1.super) from rfl); have y0 := (HX1.out.cell 0).trans (show _ = some (.string q.1.name) from rfl); clear hb1)) | (go_at_call 42; (with_reducible refine (nRight_any _ _).mono ?_); go_must (rintro e2 Y2 ⟨rfl, rfl⟩; rw [HD.out])))
                                  have HBz : Hid (Below X.heap.size X Y1.drew) := Lib.hid (below_drew HB1.out)
                                  have HXz : Hid (Blk Y1.drew X.heap.size 47 #[.string q.1.name, .string q.1.super, .bool q.1.abs, .slice q.2.p.A q.2.p.n q.2.p.c, .slice q.2.k.A q.2.k.n q.2.k.c, .slice q.2.r.A q.2.r.n q.2.r.c]) := Lib.hid (Blk.drew HX1.out)
                                  refine wp_region_held_tail 4 (fun Y => Y.cell? ⟨X.heap.size, 3, none⟩ = some (.slice q.2.p.A q.2.p.n q.2.p.c) ∧ Y.cell? ⟨X.heap.size, 4, none⟩ = some (.slice q.2.k.A q.2.k.n q.2.k.c) ∧ Y.cell? ⟨X.heap.size, 5, none⟩ = some (.slice q.2.r.A q.2.r.n q.2.r.c)) (by kernel_rfl) (by kernel_rfl) ?hSry (fun hHeld => ?qry0)
                                  case hSry => exact HSx.out _ HXz.out
                                  case qry0 =>
                                    simp only [List.take_succ_cons, List.take_zero, List.drop_succ_cons, List.drop_zero]
                                    refine wpAnyH_take (i := 0) (v := (.pointer (some ⟨X.heap.size, 3, none⟩))) rfl (by kernel_rfl) (by kernel_rfl) (by kernel_rfl) (fun _ _ _ h => h) (Or.inl ⟨by rfl, ?yry_1⟩) (by assumption) ?qry_1
                                    case yry_1 => (intro w hSw; (try dsimp only at hSw); go_simp)
                                    case qry_1 =>
                                      (try simp only [Act.put]); (try simp only [List.setIfInBounds_toArray])
                                      refine wpAnyH_take (i := 1) (v := (.slice q.2.p.A q.2.p.n q.2.p.c)) rfl (by kernel_rfl) (by kernel_rfl) (by kernel_rfl) (fun _ _ _ h => h) (Or.inl ⟨by rfl, ?yry_2⟩) (by assumption) ?qry_2
                                      case yry_2 => (intro w hSw; (try dsimp only at hSw); go_simp)
                                      case qry_2 =>
                                        (try simp only [Act.put]); (try simp only [List.setIfInBounds_toArray])
                                        refine wpAnyH_take (i := 2) (v := (.int .i64 k)) rfl (by kernel_rfl) (by kernel_rfl) (by kernel_rfl) (fun _ _ _ h => h) (Or.inl ⟨by rfl, ?yry_3⟩) (by assumption) ?qry_3
                                        case yry_3 => (intro w hSw; (try dsimp only at hSw); go_simp)
                                        case qry_3 =>
                                          (try simp only [Act.put]); (try simp only [List.setIfInBounds_toArray])
                                          refine wpAnyH_ready (rs := [3]) (by kernel_rfl) (by simp) ?_
                                          refine AllReadyH.cons rfl (fun K hK => ?sry_4) ?mry_4
                                          case sry_4 =>
                                            (refine step_call _ (by rfl) 53 #[.int .i64 2, .int .i64 k, .int .i64 0] (by go_simp) (parts_wher _ 2 k 0 0 rfl (by decide)) ?_; rintro e2 Yw ⟨cW, rfl, hw3, hb3⟩; refine ⟨_, rfl, ?_⟩; have HW3 := Lib.hid hw3; have HXz := Lib.hid (HXz.out.after hb3); have HBz := Lib.hid (HBz.out.trans (hb3.mono HBz.out.size)); clear hb3 hw3)
                                            refine hK.out _ _ ?kry_4 (fun hHeld => ?qry_4)
                                            case kry_4 => ((try dsimp only); exact HSx.out _ HXz.out)
                                            case qry_4 =>
                                              clear hK K
                                              (try simp only [Act.put]); (try simp only [List.setIfInBounds_toArray])
                                              refine wpAnyH_done (by kernel_rfl) ?_ _
                                              clear hHeld
                                              show wpList _ _ _ _ _ _
                                              go_wp2_with (go_at_call 52; (with_reducible refine (HPp.out _ _ HBz.out HW3.out).mono ?_); go_must (rintro e3 Y2 ⟨rfl, hb4⟩; have HB2 := Lib.hid (HBz.out.trans (hb4.mono HBz.out.size)); have HX2 := Lib.hid (HXz.out.after hb4); clear hb4))
                                              have HBz : Hid (Below X.heap.size X Y2.drew) := Lib.hid (below_drew HB2.out)
                                              have HXz : Hid (Blk Y2.drew X.heap.size 47 #[.string q.1.name, .string q.1.super, .bool q.1.abs, .slice q.2.p.A q.2.p.n q.2.p.c, .slice q.2.k.A q.2.k.n q.2.k.c, .slice q.2.r.A q.2.r.n q.2.r.c]) := Lib.hid (Blk.drew HX2.out)
                                              refine wp_region_held_tail 7 (fun Y => Y.cell? ⟨X.heap.size, 3, none⟩ = some (.slice q.2.p.A q.2.p.n q.2.p.c) ∧ Y.cell? ⟨X.heap.size, 4, none⟩ = some (.slice q.2.k.A q.2.k.n q.2.k.c) ∧ Y.cell? ⟨X.heap.size, 5, none⟩ = some (.slice q.2.r.A q.2.r.n q.2.r.c)) (by kernel_rfl) (by kernel_rfl) ?hSryp (fun hHeld => ?qryp0)
                                              case hSryp => exact HSx.out _ HXz.out
                                              case qryp0 =>
                                                simp only [List.take_succ_cons, List.take_zero, List.drop_succ_cons, List.drop_zero]
                                                refine wpAnyH_take (i := 0) (v := (.pointer (some ⟨X.heap.size, 4, none⟩))) rfl (by kernel_rfl) (by kernel_rfl) (by kernel_rfl) (fun _ _ _ h => h) (Or.inl ⟨by rfl, ?yryp_1⟩) (by assumption) ?qryp_1
                                                case yryp_1 => (intro w hSw; (try dsimp only at hSw); go_simp)
                                                case qryp_1 =>
                                                  (try simp only [Act.put]); (try simp only [List.setIfInBounds_toArray])
                                                  refine wpAnyH_take (i := 1) (v := (.slice q.2.k.A q.2.k.n q.2.k.c)) rfl (by kernel_rfl) (by kernel_rfl) (by kernel_rfl) (fun _ _ _ h => h) (Or.inl ⟨by rfl, ?yryp_2⟩) (by assumption) ?qryp_2
                                                  case yryp_2 => (intro w hSw; (try dsimp only at hSw); go_simp)
                                                  case qryp_2 =>
                                                    (try simp only [Act.put]); (try simp only [List.setIfInBounds_toArray])
                                                    refine wpAnyH_take (i := 2) (v := (.int .i64 k)) rfl (by kernel_rfl) (by kernel_rfl) (by kernel_rfl) (fun _ _ _ h => h) (Or.inl ⟨by rfl, ?yryp_3⟩) (by assumption) ?qryp_3
                                                    case yryp_3 => (intro w hSw; (try dsimp only at hSw); go_simp)
                                                    case qryp_3 =>
                                                      (try simp only [Act.put]); (try simp only [List.setIfInBounds_toArray])
                                                      refine wpAnyH_take (i := 3) (v := (.pointer (some ⟨X.heap.size, 3, none⟩))) rfl (by kernel_rfl) (by kernel_rfl) (by kernel_rfl) (fun _ _ _ h => h) (Or.inl ⟨by rfl, ?yryp_4⟩) (by assumption) ?qryp_4
                                                      case yryp_4 => (intro w hSw; (try dsimp only at hSw); go_simp)
                                                      case qryp_4 =>
                                                        (try simp only [Act.put]); (try simp only [List.setIfInBounds_toArray])
                                                        refine wpAnyH_take (i := 4) (v := (.slice q.2.p.A q.2.p.n q.2.p.c)) rfl (by kernel_rfl) (by kernel_rfl) (by kernel_rfl) (fun _ _ _ h => h) (Or.inl ⟨by rfl, ?yryp_5⟩) (by assumption) ?qryp_5
                                                        case yryp_5 => (intro w hSw; (try dsimp only at hSw); go_simp)
                                                        case qryp_5 =>
                                                          (try simp only [Act.put]); (try simp only [List.setIfInBounds_toArray])
                                                          refine wpAnyH_take (i := 5) (v := (.int .i64 q.2.p.n)) rfl (by kernel_rfl) (by kernel_rfl) (by kernel_rfl) (fun _ _ _ h => h) (Or.inl ⟨by rfl, ?yryp_6⟩) (by assumption) ?qryp_6
                                                          case yryp_6 => (intro w hSw; (try dsimp only at hSw); go_simp)
                                                          case qryp_6 =>
                                                            (try simp only [Act.put]); (try simp only [List.setIfInBounds_toArray])
                                                            refine wpAnyH_ready (rs := [6]) (by kernel_rfl) (by simp) ?_
                                                            refine AllReadyH.cons rfl (fun K hK => ?sryp_7) ?mryp_7
                                                            case sryp_7 =>
                                                              (refine step_call _ (by rfl) 53 #[.int .i64 2, .int .i64 k, .int .i64 q.2.p.n] (by go_simp) (parts_wher _ 2 k q.1.props.length q.2.p.n HPN.out HPL.out) ?_; rintro e2 Yw ⟨cW, rfl, hw3, hb3⟩; refine ⟨_, rfl, ?_⟩; have HW3 := Lib.hid hw3; have HXz := Lib.hid (HXz.out.after hb3); have HBz := Lib.hid (HBz.out.trans (hb3.mono HBz.out.size)); clear hb3 hw3)
                                                              refine hK.out _ _ ?kryp_7 (fun hHeld => ?qryp_7)
                                                              case kryp_7 => ((try dsimp only); exact HSx.out _ HXz.out)
                                                              case qryp_7 =>
                                                                clear hK K
                                                                (try simp only [Act.put]); (try simp only [List.setIfInBounds_toArray])
                                                                refine wpAnyH_done (by kernel_rfl) ?_ _
                                                                clear hHeld
                                                                show wpList _ _ _ _ _ _
                                                                go_wp2_with (go_at_call 54; (with_reducible refine (HPk.out _ _ HBz.out HW3.out).mono ?_); go_must (rintro e3 Y3 ⟨rfl, hb4⟩; have HB3 := Lib.hid (HBz.out.trans (hb4.mono HBz.out.size)); have HX3 := Lib.hid (HXz.out.after hb4); clear hb4))
                                                                have HBz : Hid (Below X.heap.size X Y3.drew) := Lib.hid (below_drew HB3.out)
                                                                have HXz : Hid (Blk Y3.drew X.heap.size 47 #[.string q.1.name, .string q.1.super, .bool q.1.abs, .slice q.2.p.A q.2.p.n q.2.p.c, .slice q.2.k.A q.2.k.n q.2.k.c, .slice q.2.r.A q.2.r.n q.2.r.c]) := Lib.hid (Blk.drew HX3.out)
                                                                refine wp_region_held_tail 11 (fun Y => Y.cell? ⟨X.heap.size, 3, none⟩ = some (.slice q.2.p.A q.2.p.n q.2.p.c) ∧ Y.cell? ⟨X.heap.size, 4, none⟩ = some (.slice q.2.k.A q.2.k.n q.2.k.c) ∧ Y.cell? ⟨X.heap.size, 5, none⟩ = some (.slice q.2.r.A q.2.r.n q.2.r.c)) (by kernel_rfl) (by kernel_rfl) ?hSrypk (fun hHeld => ?qrypk0)
                                                                case hSrypk => exact HSx.out _ HXz.out
                                                                case qrypk0 =>
                                                                  simp only [List.take_succ_cons, List.take_zero, List.drop_succ_cons, List.drop_zero]
                                                                  refine wpAnyH_take (i := 0) (v := (.pointer (some ⟨X.heap.size, 5, none⟩))) rfl (by kernel_rfl) (by kernel_rfl) (by kernel_rfl) (fun _ _ _ h => h) (Or.inl ⟨by rfl, ?yrypk_1⟩) (by assumption) ?qrypk_1
                                                                  case yrypk_1 => (intro w hSw; (try dsimp only at hSw); go_simp)
                                                                  case qrypk_1 =>
                                                                    (try simp only [Act.put]); (try simp only [List.setIfInBounds_toArray])
                                                                    refine wpAnyH_take (i := 1) (v := (.slice q.2.r.A q.2.r.n q.2.r.c)) rfl (by kernel_rfl) (by kernel_rfl) (by kernel_rfl) (fun _ _ _ h => h) (Or.inl ⟨by rfl, ?yrypk_2⟩) (by assumption) ?qrypk_2
                                                                    case yrypk_2 => (intro w hSw; (try dsimp only at hSw); go_simp)
                                                                    case qrypk_2 =>
                                                                      (try simp only [Act.put]); (try simp only [List.setIfInBounds_toArray])
                                                                      refine wpAnyH_take (i := 2) (v := (.int .i64 k)) rfl (by kernel_rfl) (by kernel_rfl) (by kernel_rfl) (fun _ _ _ h => h) (Or.inl ⟨by rfl, ?yrypk_3⟩) (by assumption) ?qrypk_3
                                                                      case yrypk_3 => (intro w hSw; (try dsimp only at hSw); go_simp)
                                                                      case qrypk_3 =>
                                                                        (try simp only [Act.put]); (try simp only [List.setIfInBounds_toArray])
                                                                        refine wpAnyH_take (i := 3) (v := (.pointer (some ⟨X.heap.size, 3, none⟩))) rfl (by kernel_rfl) (by kernel_rfl) (by kernel_rfl) (fun _ _ _ h => h) (Or.inl ⟨by rfl, ?yrypk_4⟩) (by assumption) ?qrypk_4
                                                                        case yrypk_4 => (intro w hSw; (try dsimp only at hSw); go_simp)
                                                                        case qrypk_4 =>
                                                                          (try simp only [Act.put]); (try simp only [List.setIfInBounds_toArray])
                                                                          refine wpAnyH_take (i := 4) (v := (.slice q.2.p.A q.2.p.n q.2.p.c)) rfl (by kernel_rfl) (by kernel_rfl) (by kernel_rfl) (fun _ _ _ h => h) (Or.inl ⟨by rfl, ?yrypk_5⟩) (by assumption) ?qrypk_5
                                                                          case yrypk_5 => (intro w hSw; (try dsimp only at hSw); go_simp)
                                                                          case qrypk_5 =>
                                                                            (try simp only [Act.put]); (try simp only [List.setIfInBounds_toArray])
                                                                            refine wpAnyH_take (i := 5) (v := (.int .i64 q.2.p.n)) rfl (by kernel_rfl) (by kernel_rfl) (by kernel_rfl) (fun _ _ _ h => h) (Or.inl ⟨by rfl, ?yrypk_6⟩) (by assumption) ?qrypk_6
                                                                            case yrypk_6 => (intro w hSw; (try dsimp only at hSw); go_simp)
                                                                            case qrypk_6 =>
                                                                              (try simp only [Act.put]); (try simp only [List.setIfInBounds_toArray])
                                                                              refine wpAnyH_take (i := 6) (v := (.pointer (some ⟨X.heap.size, 4, none⟩))) rfl (by kernel_rfl) (by kernel_rfl) (by kernel_rfl) (fun _ _ _ h => h) (Or.inl ⟨by rfl, ?yrypk_7⟩) (by assumption) ?qrypk_7
                                                                              case yrypk_7 => (intro w hSw; (try dsimp only at hSw); go_simp)
                                                                              case qrypk_7 =>
                                                                                (try simp only [Act.put]); (try simp only [List.setIfInBounds_toArray])
                                                                                refine wpAnyH_take (i := 7) (v := (.slice q.2.k.A q.2.k.n q.2.k.c)) rfl (by kernel_rfl) (by kernel_rfl) (by kernel_rfl) (fun _ _ _ h => h) (Or.inl ⟨by rfl, ?yrypk_8⟩) (by assumption) ?qrypk_8
                                                                                case yrypk_8 => (intro w hSw; (try dsimp only at hSw); go_simp)
                                                                                case qrypk_8 =>
                                                                                  (try simp only [Act.put]); (try simp only [List.setIfInBounds_toArray])
                                                                                  refine wpAnyH_take (i := 8) (v := (.int .i64 q.2.k.n)) rfl (by kernel_rfl) (by kernel_rfl) (by kernel_rfl) (fun _ _ _ h => h) (Or.inl ⟨by rfl, ?yrypk_9⟩) (by assumption) ?qrypk_9
                                                                                  case yrypk_9 => (intro w hSw; (try dsimp only at hSw); go_simp)
                                                                                  case qrypk_9 =>
                                                                                    (try simp only [Act.put]); (try simp only [List.setIfInBounds_toArray])
                                                                                    refine wpAnyH_take (i := 9) (v := (.int .i64 ((q.2.p.n : Int) + (q.2.k.n : Int)))) rfl (by kernel_rfl) (by kernel_rfl) (by kernel_rfl) (fun _ _ _ h => h) (Or.inl ⟨by rfl, ?yrypk_10⟩) (by assumption) ?qrypk_10
                                                                                    case yrypk_10 => (intro w hSw; (try dsimp only at hSw); go_simp)
                                                                                    case qrypk_10 =>
                                                                                      (try simp only [Act.put]); (try simp only [List.setIfInBounds_toArray])
                                                                                      refine wpAnyH_ready (rs := [10]) (by kernel_rfl) (by simp) ?_
                                                                                      refine AllReadyH.cons rfl (fun K hK => ?srypk_11) ?mrypk_11
                                                                                      case srypk_11 =>
                                                                                        (refine step_call _ (by rfl) 53 #[.int .i64 2, .int .i64 k, .int .i64 ((q.2.p.n : Int) + (q.2.k.n : Int))] (by go_simp) (parts_wher _ 2 k (q.1.props.length + q.1.kids.length) ((q.2.p.n : Int) + (q.2.k.n : Int)) HKN.out HKL.out) ?_; rintro e2 Yw ⟨cW, rfl, hw3, hb3⟩; refine ⟨_, rfl, ?_⟩; have HW3 := Lib.hid hw3; have HXz := Lib.hid (HXz.out.after hb3); have HBz := Lib.hid (HBz.out.trans (hb3.mono HBz.out.size)); clear hb3 hw3)
                                                                                        refine hK.out _ _ ?krypk_11 (fun hHeld => ?qrypk_11)
                                                                                        case krypk_11 => ((try dsimp only); exact HSx.out _ HXz.out)
                                                                                        case qrypk_11 =>
                                                                                          clear hK K
                                                                                          (try simp only [Act.put]); (try simp only [List.setIfInBounds_toArray])
                                                                                          refine wpAnyH_done (by kernel_rfl) ?_ _
                                                                                          clear hHeld
                                                                                          show wpList _ _ _ _ _ _
                                                                                          go_wp2_with (go_at_call 55; (with_reducible refine (HPr.out _ _ HBz.out HW3.out).mono ?_); go_must (rintro e3 Y4 ⟨rfl, hb4⟩; have HB4 := Lib.hid (HBz.out.trans (hb4.mono HBz.out.size)); have HX4 := Lib.hid (HXz.out.after hb4); clear hb4))
                                                                                          exact ⟨rfl, rfl, HB4.out⟩
                                                                                      case mrypk_11 =>
                                                                                        exact AllReadyH.nil
                                                            case mryp_7 =>
                                                              exact AllReadyH.nil
                                          case mry_4 =>
                                            exact AllReadyH.nil
                              case mrw_7 =>
                                exact AllReadyH.nil)
          | none =>
            have HR2 : Hid (ov = .ret 0) := Lib.hid (HR.out.trans (by rw [HPS.out]; rfl))
            rw [HR2.out]
            rcases h2 with rfl | rfl
            · skip
              go_enter Tryz.func49, Tryz.ntmps49
              go_upto_region 1 with (fail)
              have HBz : Hid (Below X.heap.size X (X.alloc (.cells #[.string q.1.name, .string q.1.super, .bool q.1.abs, .slice q.2.p.A q.2.p.n q.2.p.c, .slice q.2.k.A q.2.k.n q.2.k.c, .slice q.2.r.A q.2.r.n q.2.r.c] 47)).drew) := Lib.hid (below_drew (below_of_alloc _))
              have HXz : Hid (Blk (X.alloc (.cells #[.string q.1.name, .string q.1.super, .bool q.1.abs, .slice q.2.p.A q.2.p.n q.2.p.c, .slice q.2.k.A q.2.k.n q.2.k.c, .slice q.2.r.A q.2.r.n q.2.r.c] 47)).drew X.heap.size 47 #[.string q.1.name, .string q.1.super, .bool q.1.abs, .slice q.2.p.A q.2.p.n q.2.p.c, .slice q.2.k.A q.2.k.n q.2.k.c, .slice q.2.r.A q.2.r.n q.2.r.c]) := Lib.hid (Blk.drew (Blk.new _ _ _))
              refine wp_region_held_tail 7 (fun Y => Y.cell? ⟨gl, 0, none⟩ = some (.slice (some ⟨b, o, none⟩) n c) ∧ Y.cell? ⟨X.heap.size, 0, none⟩ = some (.string q.1.name)) (by kernel_rfl) (by kernel_rfl) ?hSn (fun hHeld => ?qn0)
              case hSn => exact HSo.out _ HBz.out HXz.out
              case qn0 =>
                simp only [List.take_succ_cons, List.take_zero, List.drop_succ_cons, List.drop_zero]
                refine wpAnyH_take (i := 0) (v := (.slice (some ⟨b, o, none⟩) n c)) rfl (by kernel_rfl) (by kernel_rfl) (by kernel_rfl) (fun _ _ _ h => h) (Or.inl ⟨by rfl, ?yn_1⟩) (by assumption) ?qn_1
                case yn_1 => (intro w hSw; (try dsimp only at hSw); go_simp)
                case qn_1 =>
                  (try simp only [Act.put]); (try simp only [List.setIfInBounds_toArray])
                  refine wpAnyH_take (i := 1) (v := (.int .i64 k)) rfl (by kernel_rfl) (by kernel_rfl) (by kernel_rfl) (fun _ _ _ h => h) (Or.inl ⟨by rfl, ?yn_2⟩) (by assumption) ?qn_2
                  case yn_2 => (intro w hSw; (try dsimp only at hSw); go_simp)
                  case qn_2 =>
                    (try simp only [Act.put]); (try simp only [List.setIfInBounds_toArray])
                    refine wpAnyH_take (i := 2) (v := (.slice (some ⟨b, o, none⟩) k c)) rfl (by kernel_rfl) (by kernel_rfl) (by kernel_rfl) (fun _ _ _ h => h) (Or.inl ⟨by rfl, ?yn_3⟩) (by assumption) ?qn_3
                    case yn_3 => (intro w hSw; (try dsimp only at hSw); go_simp)
                    case qn_3 =>
                      (try simp only [Act.put]); (try simp only [List.setIfInBounds_toArray])
                      refine wpAnyH_take (i := 3) (v := (.func (.func 51) #[] #[.pointer (some ⟨X.heap.size, 0, none⟩)])) rfl (by kernel_rfl) (by kernel_rfl) (by kernel_rfl) (fun _ _ _ h => h) (Or.inl ⟨by rfl, ?yn_4⟩) (by assumption) ?qn_4
                      case yn_4 => (intro w hSw; (try dsimp only at hSw); go_simp)
                      case qn_4 =>
                        (try simp only [Act.put]); (try simp only [List.setIfInBounds_toArray])
                        refine wpAnyH_take (i := 4) (v := (.pointer (some ⟨X.heap.size, 0, none⟩))) rfl (by kernel_rfl) (by kernel_rfl) (by kernel_rfl) (fun _ _ _ h => h) (Or.inl ⟨by rfl, ?yn_5⟩) (by assumption) ?qn_5
                        case yn_5 => (intro w hSw; (try dsimp only at hSw); go_simp)
                        case qn_5 =>
                          (try simp only [Act.put]); (try simp only [List.setIfInBounds_toArray])
                          refine wpAnyH_take (i := 5) (v := (.string q.1.name)) rfl (by kernel_rfl) (by kernel_rfl) (by kernel_rfl) (fun _ _ _ h => h) (Or.inl ⟨by rfl, ?yn_6⟩) (by assumption) ?qn_6
                          case yn_6 => (intro w hSw; (try dsimp only at hSw); go_simp)
                          case qn_6 =>
                            (try simp only [Act.put]); (try simp only [List.setIfInBounds_toArray])
                            refine wpAnyH_ready (rs := [6]) (by kernel_rfl) (by simp) ?_
                            refine AllReadyH.cons rfl (fun K hK => ?sn_7) ?mn_7
                            case sn_7 =>
                              (refine step_mk1 _ (by rfl) 9 #[.string q.1.name] (by go_simp) ?_; intro gw Yw hxw hbw hsw; have HUw := Lib.hid hxw; have HXz := Lib.hid (HXz.out.after hbw); have HBz := Lib.hid (HBz.out.trans (hbw.mono HBz.out.size)); clear hxw hbw hsw)
                              refine hK.out _ _ ?kn_7 (fun hHeld => ?qn_7)
                              case kn_7 => ((try dsimp only); exact HSo.out _ HBz.out HXz.out)
                              case qn_7 =>
                                clear hK K
                                (try simp only [Act.put]); (try simp only [List.setIfInBounds_toArray])
                                refine wpAnyH_done (by kernel_rfl) ?_ _
                                clear hHeld
                                show wpList _ _ _ _ _ _
                                go_wp2_with (first | (go_at_call 50; (with_reducible refine (HN.out _ _ HBz.out HXz.out HUw.out).mono ?_); go_must (rintro e1 Y1 ⟨rfl, hb1⟩; have HB1 := Lib.hid (HBz.out.trans (hb1.mono HBz.out.size)); have HX1 := Lib.hid (HXz.out.after hb1); have y1 := (HX1.out.cell 1).trans (show _ = some (.string q.1.super) from rfl); have y0 := (HX1.out.cell 0).trans (show _ = some (.string q.1.name) from rfl); clear hb1)) | (go_at_call 42; (with_reducible refine (nRight_any _ _).mono ?_); go_must (rintro e2 Y2 ⟨rfl, rfl⟩; rw [HD.out])))
                                have HBz : Hid (Below X.heap.size X Y1.drew) := Lib.hid (below_drew HB1.out)
                                have HXz : Hid (Blk Y1.drew X.heap.size 47 #[.string q.1.name, .string q.1.super, .bool q.1.abs, .slice q.2.p.A q.2.p.n q.2.p.c, .slice q.2.k.A q.2.k.n q.2.k.c, .slice q.2.r.A q.2.r.n q.2.r.c]) := Lib.hid (Blk.drew HX1.out)
                                refine wp_region_held_tail 4 (fun Y => Y.cell? ⟨X.heap.size, 3, none⟩ = some (.slice q.2.p.A q.2.p.n q.2.p.c) ∧ Y.cell? ⟨X.heap.size, 4, none⟩ = some (.slice q.2.k.A q.2.k.n q.2.k.c) ∧ Y.cell? ⟨X.heap.size, 5, none⟩ = some (.slice q.2.r.A q.2.r.n q.2.r.c)) (by kernel_rfl) (by kernel_rfl) ?hSnx (fun hHeld => ?qnx0)
                                case hSnx => exact HSx.out _ HXz.out
                                case qnx0 =>
                                  simp only [List.take_succ_cons, List.take_zero, List.drop_succ_cons, List.drop_zero]
                                  refine wpAnyH_take (i := 0) (v := (.pointer (some ⟨X.heap.size, 3, none⟩))) rfl (by kernel_rfl) (by kernel_rfl) (by kernel_rfl) (fun _ _ _ h => h) (Or.inl ⟨by rfl, ?ynx_1⟩) (by assumption) ?qnx_1
                                  case ynx_1 => (intro w hSw; (try dsimp only at hSw); go_simp)
                                  case qnx_1 =>
                                    (try simp only [Act.put]); (try simp only [List.setIfInBounds_toArray])
                                    refine wpAnyH_take (i := 1) (v := (.slice q.2.p.A q.2.p.n q.2.p.c)) rfl (by kernel_rfl) (by kernel_rfl) (by kernel_rfl) (fun _ _ _ h => h) (Or.inl ⟨by rfl, ?ynx_2⟩) (by assumption) ?qnx_2
                                    case ynx_2 => (intro w hSw; (try dsimp only at hSw); go_simp)
                                    case qnx_2 =>
                                      (try simp only [Act.put]); (try simp only [List.setIfInBounds_toArray])
                                      refine wpAnyH_take (i := 2) (v := (.int .i64 k)) rfl (by kernel_rfl) (by kernel_rfl) (by kernel_rfl) (fun _ _ _ h => h) (Or.inl ⟨by rfl, ?ynx_3⟩) (by assumption) ?qnx_3
                                      case ynx_3 => (intro w hSw; (try dsimp only at hSw); go_simp)
                                      case qnx_3 =>
                                        (try simp only [Act.put]); (try simp only [List.setIfInBounds_toArray])
                                        refine wpAnyH_ready (rs := [3]) (by kernel_rfl) (by simp) ?_
                                        refine AllReadyH.cons rfl (fun K hK => ?snx_4) ?mnx_4
                                        case snx_4 =>
                                          (refine step_call _ (by rfl) 53 #[.int .i64 2, .int .i64 k, .int .i64 0] (by go_simp) (parts_wher _ 2 k 0 0 rfl (by decide)) ?_; rintro e2 Yw ⟨cW, rfl, hw3, hb3⟩; refine ⟨_, rfl, ?_⟩; have HW3 := Lib.hid hw3; have HXz := Lib.hid (HXz.out.after hb3); have HBz := Lib.hid (HBz.out.trans (hb3.mono HBz.out.size)); clear hb3 hw3)
                                          refine hK.out _ _ ?knx_4 (fun hHeld => ?qnx_4)
                                          case knx_4 => ((try dsimp only); exact HSx.out _ HXz.out)
                                          case qnx_4 =>
                                            clear hK K
                                            (try simp only [Act.put]); (try simp only [List.setIfInBounds_toArray])
                                            refine wpAnyH_done (by kernel_rfl) ?_ _
                                            clear hHeld
                                            show wpList _ _ _ _ _ _
                                            go_wp2_with (go_at_call 52; (with_reducible refine (HPp.out _ _ HBz.out HW3.out).mono ?_); go_must (rintro e3 Y2 ⟨rfl, hb4⟩; have HB2 := Lib.hid (HBz.out.trans (hb4.mono HBz.out.size)); have HX2 := Lib.hid (HXz.out.after hb4); clear hb4))
                                            have HBz : Hid (Below X.heap.size X Y2.drew) := Lib.hid (below_drew HB2.out)
                                            have HXz : Hid (Blk Y2.drew X.heap.size 47 #[.string q.1.name, .string q.1.super, .bool q.1.abs, .slice q.2.p.A q.2.p.n q.2.p.c, .slice q.2.k.A q.2.k.n q.2.k.c, .slice q.2.r.A q.2.r.n q.2.r.c]) := Lib.hid (Blk.drew HX2.out)
                                            refine wp_region_held_tail 7 (fun Y => Y.cell? ⟨X.heap.size, 3, none⟩ = some (.slice q.2.p.A q.2.p.n q.2.p.c) ∧ Y.cell? ⟨X.heap.size, 4, none⟩ = some (.slice q.2.k.A q.2.k.n q.2.k.c) ∧ Y.cell? ⟨X.heap.size, 5, none⟩ = some (.slice q.2.r.A q.2.r.n q.2.r.c)) (by kernel_rfl) (by kernel_rfl) ?hSnxp (fun hHeld => ?qnxp0)
                                            case hSnxp => exact HSx.out _ HXz.out
                                            case qnxp0 =>
                                              simp only [List.take_succ_cons, List.take_zero, List.drop_succ_cons, List.drop_zero]
                                              refine wpAnyH_take (i := 0) (v := (.pointer (some ⟨X.heap.size, 4, none⟩))) rfl (by kernel_rfl) (by kernel_rfl) (by kernel_rfl) (fun _ _ _ h => h) (Or.inl ⟨by rfl, ?ynxp_1⟩) (by assumption) ?qnxp_1
                                              case ynxp_1 => (intro w hSw; (try dsimp only at hSw); go_simp)
                                              case qnxp_1 =>
                                                (try simp only [Act.put]); (try simp only [List.setIfInBounds_toArray])
                                                refine wpAnyH_take (i := 1) (v := (.slice q.2.k.A q.2.k.n q.2.k.c)) rfl (by kernel_rfl) (by kernel_rfl) (by kernel_rfl) (fun _ _ _ h => h) (Or.inl ⟨by rfl, ?ynxp_2⟩) (by assumption) ?qnxp_2
                                                case ynxp_2 => (intro w hSw; (try dsimp only at hSw); go_simp)
                                                case qnxp_2 =>
                                                  (try simp only [Act.put]); (try simp only [List.setIfInBounds_toArray])
                                                  refine wpAnyH_take (i := 2) (v := (.int .i64 k)) rfl (by kernel_rfl) (by kernel_rfl) (by kernel_rfl) (fun _ _ _ h => h) (Or.inl ⟨by rfl, ?ynxp_3⟩) (by assumption) ?qnxp_3
                                                  case ynxp_3 => (intro w hSw; (try dsimp only at hSw); go_simp)
                                                  case qnxp_3 =>
                                                    (try simp only [Act.put]); (try simp only [List.setIfInBounds_toArray])
                                                    refine wpAnyH_take (i := 3) (v := (.pointer (some ⟨X.heap.size, 3, none⟩))) rfl (by kernel_rfl) (by kernel_rfl) (by kernel_rfl) (fun _ _ _ h => h) (Or.inl ⟨by rfl, ?ynxp_4⟩) (by assumption) ?qnxp_4
                                                    case ynxp_4 => (intro w hSw; (try dsimp only at hSw); go_simp)
                                                    case qnxp_4 =>
                                                      (try simp only [Act.put]); (try simp only [List.setIfInBounds_toArray])
                                                      refine wpAnyH_take (i := 4) (v := (.slice q.2.p.A q.2.p.n q.2.p.c)) rfl (by kernel_rfl) (by kernel_rfl) (by kernel_rfl) (fun _ _ _ h => h) (Or.inl ⟨by rfl, ?ynxp_5⟩) (by assumption) ?qnxp_5
                                                      case ynxp_5 => (intro w hSw; (try dsimp only at hSw); go_simp)
                                                      case qnxp_5 =>
                                                        (try simp only [Act.put]); (try simp only [List.setIfInBounds_toArray])
                                                        refine wpAnyH_take (i := 5) (v := (.int .i64 q.2.p.n)) rfl (by kernel_rfl) (by kernel_rfl) (by kernel_rfl) (fun _ _ _ h => h) (Or.inl ⟨by rfl, ?ynxp_6⟩) (by assumption) ?qnxp_6
                                                        case ynxp_6 => (intro w hSw; (try dsimp only at hSw); go_simp)
                                                        case qnxp_6 =>
                                                          (try simp only [Act.put]); (try simp only [List.setIfInBounds_toArray])
                                                          refine wpAnyH_ready (rs := [6]) (by kernel_rfl) (by simp) ?_
                                                          refine AllReadyH.cons rfl (fun K hK => ?snxp_7) ?mnxp_7
                                                          case snxp_7 =>
                                                            (refine step_call _ (by rfl) 53 #[.int .i64 2, .int .i64 k, .int .i64 q.2.p.n] (by go_simp) (parts_wher _ 2 k q.1.props.length q.2.p.n HPN.out HPL.out) ?_; rintro e2 Yw ⟨cW, rfl, hw3, hb3⟩; refine ⟨_, rfl, ?_⟩; have HW3 := Lib.hid hw3; have HXz := Lib.hid (HXz.out.after hb3); have HBz := Lib.hid (HBz.out.trans (hb3.mono HBz.out.size)); clear hb3 hw3)
                                                            refine hK.out _ _ ?knxp_7 (fun hHeld => ?qnxp_7)
                                                            case knxp_7 => ((try dsimp only); exact HSx.out _ HXz.out)
                                                            case qnxp_7 =>
                                                              clear hK K
                                                              (try simp only [Act.put]); (try simp only [List.setIfInBounds_toArray])
                                                              refine wpAnyH_done (by kernel_rfl) ?_ _
                                                              clear hHeld
                                                              show wpList _ _ _ _ _ _
                                                              go_wp2_with (go_at_call 54; (with_reducible refine (HPk.out _ _ HBz.out HW3.out).mono ?_); go_must (rintro e3 Y3 ⟨rfl, hb4⟩; have HB3 := Lib.hid (HBz.out.trans (hb4.mono HBz.out.size)); have HX3 := Lib.hid (HXz.out.after hb4); clear hb4))
                                                              have HBz : Hid (Below X.heap.size X Y3.drew) := Lib.hid (below_drew HB3.out)
                                                              have HXz : Hid (Blk Y3.drew X.heap.size 47 #[.string q.1.name, .string q.1.super, .bool q.1.abs, .slice q.2.p.A q.2.p.n q.2.p.c, .slice q.2.k.A q.2.k.n q.2.k.c, .slice q.2.r.A q.2.r.n q.2.r.c]) := Lib.hid (Blk.drew HX3.out)
                                                              refine wp_region_held_tail 11 (fun Y => Y.cell? ⟨X.heap.size, 3, none⟩ = some (.slice q.2.p.A q.2.p.n q.2.p.c) ∧ Y.cell? ⟨X.heap.size, 4, none⟩ = some (.slice q.2.k.A q.2.k.n q.2.k.c) ∧ Y.cell? ⟨X.heap.size, 5, none⟩ = some (.slice q.2.r.A q.2.r.n q.2.r.c)) (by kernel_rfl) (by kernel_rfl) ?hSnxpk (fun hHeld => ?qnxpk0)
                                                              case hSnxpk => exact HSx.out _ HXz.out
                                                              case qnxpk0 =>
                                                                simp only [List.take_succ_cons, List.take_zero, List.drop_succ_cons, List.drop_zero]
                                                                refine wpAnyH_take (i := 0) (v := (.pointer (some ⟨X.heap.size, 5, none⟩))) rfl (by kernel_rfl) (by kernel_rfl) (by kernel_rfl) (fun _ _ _ h => h) (Or.inl ⟨by rfl, ?ynxpk_1⟩) (by assumption) ?qnxpk_1
                                                                case ynxpk_1 => (intro w hSw; (try dsimp only at hSw); go_simp)
                                                                case qnxpk_1 =>
                                                                  (try simp only [Act.put]); (try simp only [List.setIfInBounds_toArray])
                                                                  refine wpAnyH_take (i := 1) (v := (.slice q.2.r.A q.2.r.n q.2.r.c)) rfl (by kernel_rfl) (by kernel_rfl) (by kernel_rfl) (fun _ _ _ h => h) (Or.inl ⟨by rfl, ?ynxpk_2⟩) (by assumption) ?qnxpk_2
                                                                  case ynxpk_2 => (intro w hSw; (try dsimp only at hSw); go_simp)
                                                                  case qnxpk_2 =>
                                                                    (try simp only [Act.put]); (try simp only [List.setIfInBounds_toArray])
                                                                    refine wpAnyH_take (i := 2) (v := (.int .i64 k)) rfl (by kernel_rfl) (by kernel_rfl) (by kernel_rfl) (fun _ _ _ h => h) (Or.inl ⟨by rfl, ?ynxpk_3⟩) (by assumption) ?qnxpk_3
                                                                    case ynxpk_3 => (intro w hSw; (try dsimp only at hSw); go_simp)
                                                                    case qnxpk_3 =>
                                                                      (try simp only [Act.put]); (try simp only [List.setIfInBounds_toArray])
                                                                      refine wpAnyH_take (i := 3) (v := (.pointer (some ⟨X.heap.size, 3, none⟩))) rfl (by kernel_rfl) (by kernel_rfl) (by kernel_rfl) (fun _ _ _ h => h) (Or.inl ⟨by rfl, ?ynxpk_4⟩) (by assumption) ?qnxpk_4
                                                                      case ynxpk_4 => (intro w hSw; (try dsimp only at hSw); go_simp)
                                                                      case qnxpk_4 =>
                                                                        (try simp only [Act.put]); (try simp only [List.setIfInBounds_toArray])
                                                                        refine wpAnyH_take (i := 4) (v := (.slice q.2.p.A q.2.p.n q.2.p.c)) rfl (by kernel_rfl) (by kernel_rfl) (by kernel_rfl) (fun _ _ _ h => h) (Or.inl ⟨by rfl, ?ynxpk_5⟩) (by assumption) ?qnxpk_5
                                                                        case ynxpk_5 => (intro w hSw; (try dsimp only at hSw); go_simp)
                                                                        case qnxpk_5 =>
                                                                          (try simp only [Act.put]); (try simp only [List.setIfInBounds_toArray])
                                                                          refine wpAnyH_take (i := 5) (v := (.int .i64 q.2.p.n)) rfl (by kernel_rfl) (by kernel_rfl) (by kernel_rfl) (fun _ _ _ h => h) (Or.inl ⟨by rfl, ?ynxpk_6⟩) (by assumption) ?qnxpk_6
                                                                          case ynxpk_6 => (intro w hSw; (try dsimp only at hSw); go_simp)
                                                                          case qnxpk_6 =>
                                                                            (try simp only [Act.put]); (try simp only [List.setIfInBounds_toArray])
                                                                            refine wpAnyH_take (i := 6) (v := (.pointer (some ⟨X.heap.size, 4, none⟩))) rfl (by kernel_rfl) (by kernel_rfl) (by kernel_rfl) (fun _ _ _ h => h) (Or.inl ⟨by rfl, ?ynxpk_7⟩) (by assumption) ?qnxpk_7
                                                                            case ynxpk_7 => (intro w hSw; (try dsimp only at hSw); go_simp)
                                                                            case qnxpk_7 =>
                                                                              (try simp only [Act.put]); (try simp only [List.setIfInBounds_toArray])
                                                                              refine wpAnyH_take (i := 7) (v := (.slice q.2.k.A q.2.k.n q.2.k.c)) rfl (by kernel_rfl) (by kernel_rfl) (by kernel_rfl) (fun _ _ _ h => h) (Or.inl ⟨by rfl, ?ynxpk_8⟩) (by assumption) ?qnxpk_8
                                                                              case ynxpk_8 => (intro w hSw; (try dsimp only at hSw); go_simp)
                                                                              case qnxpk_8 =>
                                                                                (try simp only [Act.put]); (try simp only [List.setIfInBounds_toArray])
                                                                                refine wpAnyH_take (i := 8) (v := (.int .i64 q.2.k.n)) rfl (by kernel_rfl) (by kernel_rfl) (by kernel_rfl) (fun _ _ _ h => h) (Or.inl ⟨by rfl, ?ynxpk_9⟩) (by assumption) ?qnxpk_9
                                                                                case ynxpk_9 => (intro w hSw; (try dsimp only at hSw); go_simp)
                                                                                case qnxpk_9 =>
                                                                                  (try simp only [Act.put]); (try simp only [List.setIfInBounds_toArray])
                                                                                  refine wpAnyH_take (i := 9) (v := (.int .i64 ((q.2.p.n : Int) + (q.2.k.n : Int)))) rfl (by kernel_rfl) (by kernel_rfl) (by kernel_rfl) (fun _ _ _ h => h) (Or.inl ⟨by rfl, ?ynxpk_10⟩) (by assumption) ?qnxpk_10
                                                                                  case ynxpk_10 => (intro w hSw; (try dsimp only at hSw); go_simp)
                                                                                  case qnxpk_10 =>
                                                                                    (try simp only [Act.put]); (try simp only [List.setIfInBounds_toArray])
                                                                                    refine wpAnyH_ready (rs := [10]) (by kernel_rfl) (by simp) ?_
                                                                                    refine AllReadyH.cons rfl (fun K hK => ?snxpk_11) ?mnxpk_11
                                                                                    case snxpk_11 =>
                                                                                      (refine step_call _ (by rfl) 53 #[.int .i64 2, .int .i64 k, .int .i64 ((q.2.p.n : Int) + (q.2.k.n : Int))] (by go_simp) (parts_wher _ 2 k (q.1.props.length + q.1.kids.length) ((q.2.p.n : Int) + (q.2.k.n : Int)) HKN.out HKL.out) ?_; rintro e2 Yw ⟨cW, rfl, hw3, hb3⟩; refine ⟨_, rfl, ?_⟩; have HW3 := Lib.hid hw3; have HXz := Lib.hid (HXz.out.after hb3); have HBz := Lib.hid (HBz.out.trans (hb3.mono HBz.out.size)); clear hb3 hw3)
                                                                                      refine hK.out _ _ ?knxpk_11 (fun hHeld => ?qnxpk_11)
                                                                                      case knxpk_11 => ((try dsimp only); exact HSx.out _ HXz.out)
                                                                                      case qnxpk_11 =>
                                                                                        clear hK K
                                                                                        (try simp only [Act.put]); (try simp only [List.setIfInBounds_toArray])
                                                                                        refine wpAnyH_done (by kernel_rfl) ?_ _
                                                                                        clear hHeld
                                                                                        show wpList _ _ _ _ _ _
                                                                                        go_wp2_with (go_at_call 55; (with_reducible refine (HPr.out _ _ HBz.out HW3.out).mono ?_); go_must (rintro e3 Y4 ⟨rfl, hb4⟩; have HB4 := Lib.hid (HBz.out.trans (hb4.mono HBz.out.size)); have HX4 := Lib.hid (HXz.out.after hb4); clear hb4))
                                                                                        go_ret
                                                                                        exact ⟨rfl, HB4.out⟩
                                                                                    case mnxpk_11 =>
                                                                                      exact AllReadyH.nil
                                                          case mnxp_7 =>
                                                            exact AllReadyH.nil
                                        case mnx_4 =>
                                          exact AllReadyH.nil
                            case mn_7 =>
                              exact AllReadyH.nil
            · cases b0
              all_goals (
                go_enter Tryz.func49, Tryz.ntmps49
                go_upto_region 1 with (fail)
                have HBz : Hid (Below X.heap.size X (X.alloc (.cells #[.string q.1.name, .string q.1.super, .bool q.1.abs, .slice q.2.p.A q.2.p.n q.2.p.c, .slice q.2.k.A q.2.k.n q.2.k.c, .slice q.2.r.A q.2.r.n q.2.r.c] 47)).drew) := Lib.hid (below_drew (below_of_alloc _))
                have HXz : Hid (Blk (X.alloc (.cells #[.string q.1.name, .string q.1.super, .bool q.1.abs, .slice q.2.p.A q.2.p.n q.2.p.c, .slice q.2.k.A q.2.k.n q.2.k.c, .slice q.2.r.A q.2.r.n q.2.r.c] 47)).drew X.heap.size 47 #[.string q.1.name, .string q.1.super, .bool q.1.abs, .slice q.2.p.A q.2.p.n q.2.p.c, .slice q.2.k.A q.2.k.n q.2.k.c, .slice q.2.r.A q.2.r.n q.2.r.c]) := Lib.hid (Blk.drew (Blk.new _ _ _))
                refine wp_region_held_tail 7 (fun Y => Y.cell? ⟨gl, 0, none⟩ = some (.slice (some ⟨b, o, none⟩) n c) ∧ Y.cell? ⟨X.heap.size, 0, none⟩ = some (.string q.1.name)) (by kernel_rfl) (by kernel_rfl) ?hSnw (fun hHeld => ?qnw0)
                case hSnw => exact HSo.out _ HBz.out HXz.out
                case qnw0 =>
                  simp only [List.take_succ_cons, List.take_zero, List.drop_succ_cons, List.drop_zero]
                  refine wpAnyH_take (i := 0) (v := (.slice (some ⟨b, o, none⟩) n c)) rfl (by kernel_rfl) (by kernel_rfl) (by kernel_rfl) (fun _ _ _ h => h) (Or.inl ⟨by rfl, ?ynw_1⟩) (by assumption) ?qnw_1
                  case ynw_1 => (intro w hSw; (try dsimp only at hSw); go_simp)
                  case qnw_1 =>
                    (try simp only [Act.put]); (try simp only [List.setIfInBounds_toArray])
                    refine wpAnyH_take (i := 1) (v := (.int .i64 k)) rfl (by kernel_rfl) (by kernel_rfl) (by kernel_rfl) (fun _ _ _ h => h) (Or.inl ⟨by rfl, ?ynw_2⟩) (by assumption) ?qnw_2
                    case ynw_2 => (intro w hSw; (try dsimp only at hSw); go_simp)
                    case qnw_2 =>
                      (try simp only [Act.put]); (try simp only [List.setIfInBounds_toArray])
                      refine wpAnyH_take (i := 2) (v := (.slice (some ⟨b, o, none⟩) k c)) rfl (by kernel_rfl) (by kernel_rfl) (by kernel_rfl) (fun _ _ _ h => h) (Or.inl ⟨by rfl, ?ynw_3⟩) (by assumption) ?qnw_3
                      case ynw_3 => (intro w hSw; (try dsimp only at hSw); go_simp)
                      case qnw_3 =>
                        (try simp only [Act.put]); (try simp only [List.setIfInBounds_toArray])
                        refine wpAnyH_take (i := 3) (v := (.func (.func 51) #[] #[.pointer (some ⟨X.heap.size, 0, none⟩)])) rfl (by kernel_rfl) (by kernel_rfl) (by kernel_rfl) (fun _ _ _ h => h) (Or.inl ⟨by rfl, ?ynw_4⟩) (by assumption) ?qnw_4
                        case ynw_4 => (intro w hSw; (try dsimp only at hSw); go_simp)
                        case qnw_4 =>
                          (try simp only [Act.put]); (try simp only [List.setIfInBounds_toArray])
                          refine wpAnyH_take (i := 4) (v := (.pointer (some ⟨X.heap.size, 0, none⟩))) rfl (by kernel_rfl) (by kernel_rfl) (by kernel_rfl) (fun _ _ _ h => h) (Or.inl ⟨by rfl, ?ynw_5⟩) (by assumption) ?qnw_5
                          case ynw_5 => (intro w hSw; (try dsimp only at hSw); go_simp)
                          case qnw_5 =>
                            (try simp only [Act.put]); (try simp only [List.setIfInBounds_toArray])
                            refine wpAnyH_take (i := 5) (v := (.string q.1.name)) rfl (by kernel_rfl) (by kernel_rfl) (by kernel_rfl) (fun _ _ _ h => h) (Or.inl ⟨by rfl, ?ynw_6⟩) (by assumption) ?qnw_6
                            case ynw_6 => (intro w hSw; (try dsimp only at hSw); go_simp)
                            case qnw_6 =>
                              (try simp only [Act.put]); (try simp only [List.setIfInBounds_toArray])
                              refine wpAnyH_ready (rs := [6]) (by kernel_rfl) (by simp) ?_
                              refine AllReadyH.cons rfl (fun K hK => ?snw_7) ?mnw_7
                              case snw_7 =>
                                (refine step_mk1 _ (by rfl) 9 #[.string q.1.name] (by go_simp) ?_; intro gw Yw hxw hbw hsw; have HUw := Lib.hid hxw; have HXz := Lib.hid (HXz.out.after hbw); have HBz := Lib.hid (HBz.out.trans (hbw.mono HBz.out.size)); clear hxw hbw hsw)
                                refine hK.out _ _ ?knw_7 (fun hHeld => ?qnw_7)
                                case knw_7 => ((try dsimp only); exact HSo.out _ HBz.out HXz.out)
                                case qnw_7 =>
                                  clear hK K
                                  (try simp only [Act.put]); (try simp only [List.setIfInBounds_toArray])
                                  refine wpAnyH_done (by kernel_rfl) ?_ _
                                  clear hHeld
                                  show wpList _ _ _ _ _ _
                                  go_wp2_with (first | (go_at_call 50; (with_reducible refine (HN.out _ _ HBz.out HXz.out HUw.out).mono ?_); go_must (rintro e1 Y1 ⟨rfl, hb1⟩; have HB1 := Lib.hid (HBz.out.trans (hb1.mono HBz.out.size)); have HX1 := Lib.hid (HXz.out.after hb1); have y1 := (HX1.out.cell 1).trans (show _ = some (.string q.1.super) from rfl); have y0 := (HX1.out.cell 0).trans (show _ = some (.string q.1.name) from rfl); clear hb1)) | (go_at_call 42; (with_reducible refine (nRight_any _ _).mono ?_); go_must (rintro e2 Y2 ⟨rfl, rfl⟩; rw [HD.out])))
                                  have HBz : Hid (Below X.heap.size X Y1.drew) := Lib.hid (below_drew HB1.out)
                                  have HXz : Hid (Blk Y1.drew X.heap.size 47 #[.string q.1.name, .string q.1.super, .bool q.1.abs, .slice q.2.p.A q.2.p.n q.2.p.c, .slice q.2.k.A q.2.k.n q.2.k.c, .slice q.2.r.A q.2.r.n q.2.r.c]) := Lib.hid (Blk.drew HX1.out)
                                  refine wp_region_held_tail 4 (fun Y => Y.cell? ⟨X.heap.size, 3, none⟩ = some (.slice q.2.p.A q.2.p.n q.2.p.c) ∧ Y.cell? ⟨X.heap.size, 4, none⟩ = some (.slice q.2.k.A q.2.k.n q.2.k.c) ∧ Y.cell? ⟨X.heap.size, 5, none⟩ = some (.slice q.2.r.A q.2.r.n q.2.r.c)) (by kernel_rfl) (by kernel_rfl) ?hSny (fun hHeld => ?qny0)
                                  case hSny => exact HSx.out _ HXz.out
                                  case qny0 =>
                                    simp only [List.take_succ_cons, List.take_zero, List.drop_succ_cons, List.drop_zero]
                                    refine wpAnyH_take (i := 0) (v := (.pointer (some ⟨X.heap.size, 3, none⟩))) rfl (by kernel_rfl) (by kernel_rfl) (by kernel_rfl) (fun _ _ _ h => h) (Or.inl ⟨by rfl, ?yny_1⟩) (by assumption) ?qny_1
                                    case yny_1 => (intro w hSw; (try dsimp only at hSw); go_simp)
                                    case qny_1 =>
                                      (try simp only [Act.put]); (try simp only [List.setIfInBounds_toArray])
                                      refine wpAnyH_take (i := 1) (v := (.slice q.2.p.A q.2.p.n q.2.p.c)) rfl (by kernel_rfl) (by kernel_rfl) (by kernel_rfl) (fun _ _ _ h => h) (Or.inl ⟨by rfl, ?yny_2⟩) (by assumption) ?qny_2
                                      case yny_2 => (intro w hSw; (try dsimp only at hSw); go_simp)
                                      case qny_2 =>
                                        (try simp only [Act.put]); (try simp only [List.setIfInBounds_toArray])
                                        refine wpAnyH_take (i := 2) (v := (.int .i64 k)) rfl (by kernel_rfl) (by kernel_rfl) (by kernel_rfl) (fun _ _ _ h => h) (Or.inl ⟨by rfl, ?yny_3⟩) (by assumption) ?qny_3
                                        case yny_3 => (intro w hSw; (try dsimp only at hSw); go_simp)
                                        case qny_3 =>
                                          (try simp only [Act.put]); (try simp only [List.setIfInBounds_toArray])
                                          refine wpAnyH_ready (rs := [3]) (by kernel_rfl) (by simp) ?_
                                          refine AllReadyH.cons rfl (fun K hK => ?sny_4) ?mny_4
                                          case sny_4 =>
                                            (refine step_call _ (by rfl) 53 #[.int .i64 2, .int .i64 k, .int .i64 0] (by go_simp) (parts_wher _ 2 k 0 0 rfl (by decide)) ?_; rintro e2 Yw ⟨cW, rfl, hw3, hb3⟩; refine ⟨_, rfl, ?_⟩; have HW3 := Lib.hid hw3; have HXz := Lib.hid (HXz.out.after hb3); have HBz := Lib.hid (HBz.out.trans (hb3.mono HBz.out.size)); clear hb3 hw3)
                                            refine hK.out _ _ ?kny_4 (fun hHeld => ?qny_4)
                                            case kny_4 => ((try dsimp only); exact HSx.out _ HXz.out)
                                            case qny_4 =>
                                              clear hK K
                                              (try simp only [Act.put]); (try simp only [List.setIfInBounds_toArray])
                                              refine wpAnyH_done (by kernel_rfl) ?_ _
                                              clear hHeld
                                              show wpList _ _ _ _ _ _
                                              go_wp2_with (go_at_call 52; (with_reducible refine (HPp.out _ _ HBz.out HW3.out).mono ?_); go_must (rintro e3 Y2 ⟨rfl, hb4⟩; have HB2 := Lib.hid (HBz.out.trans (hb4.mono HBz.out.size)); have HX2 := Lib.hid (HXz.out.after hb4); clear hb4))
                                              have HBz : Hid (Below X.heap.size X Y2.drew) := Lib.hid (below_drew HB2.out)
                                              have HXz : Hid (Blk Y2.drew X.heap.size 47 #[.string q.1.name, .string q.1.super, .bool q.1.abs, .slice q.2.p.A q.2.p.n q.2.p.c, .slice q.2.k.A q.2.k.n q.2.k.c, .slice q.2.r.A q.2.r.n q.2.r.c]) := Lib.hid (Blk.drew HX2.out)
                                              refine wp_region_held_tail 7 (fun Y => Y.cell? ⟨X.heap.size, 3, none⟩ = some (.slice q.2.p.A q.2.p.n q.2.p.c) ∧ Y.cell? ⟨X.heap.size, 4, none⟩ = some (.slice q.2.k.A q.2.k.n q.2.k.c) ∧ Y.cell? ⟨X.heap.size, 5, none⟩ = some (.slice q.2.r.A q.2.r.n q.2.r.c)) (by kernel_rfl) (by kernel_rfl) ?hSnyp (fun hHeld => ?qnyp0)
                                              case hSnyp => exact HSx.out _ HXz.out
                                              case qnyp0 =>
                                                simp only [List.take_succ_cons, List.take_zero, List.drop_succ_cons, List.drop_zero]
                                                refine wpAnyH_take (i := 0) (v := (.pointer (some ⟨X.heap.size, 4, none⟩))) rfl (by kernel_rfl) (by kernel_rfl) (by kernel_rfl) (fun _ _ _ h => h) (Or.inl ⟨by rfl, ?ynyp_1⟩) (by assumption) ?qnyp_1
                                                case ynyp_1 => (intro w hSw; (try dsimp only at hSw); go_simp)
                                                case qnyp_1 =>
                                                  (try simp only [Act.put]); (try simp only [List.setIfInBounds_toArray])
                                                  refine wpAnyH_take (i := 1) (v := (.slice q.2.k.A q.2.k.n q.2.k.c)) rfl (by kernel_rfl) (by kernel_rfl) (by kernel_rfl) (fun _ _ _ h => h) (Or.inl ⟨by rfl, ?ynyp_2⟩) (by assumption) ?qnyp_2
                                                  case ynyp_2 => (intro w hSw; (try dsimp only at hSw); go_simp)
                                                  case qnyp_2 =>
                                                    (try simp only [Act.put]); (try simp only [List.setIfInBounds_toArray])
                                                    refine wpAnyH_take (i := 2) (v := (.int .i64 k)) rfl (by kernel_rfl) (by kernel_rfl) (by kernel_rfl) (fun _ _ _ h => h) (Or.inl ⟨by rfl, ?ynyp_3⟩) (by assumption) ?qnyp_3
                                                    case ynyp_3 => (intro w hSw; (try dsimp only at hSw); go_simp)
                                                    case qnyp_3 =>
                                                      (try simp only [Act.put]); (try simp only [List.setIfInBounds_toArray])
                                                      refine wpAnyH_take (i := 3) (v := (.pointer (some ⟨X.heap.size, 3, none⟩))) rfl (by kernel_rfl) (by kernel_rfl) (by kernel_rfl) (fun _ _ _ h => h) (Or.inl ⟨by rfl, ?ynyp_4⟩) (by assumption) ?qnyp_4
                                                      case ynyp_4 => (intro w hSw; (try dsimp only at hSw); go_simp)
                                                      case qnyp_4 =>
                                                        (try simp only [Act.put]); (try simp only [List.setIfInBounds_toArray])
                                                        refine wpAnyH_take (i := 4) (v := (.slice q.2.p.A q.2.p.n q.2.p.c)) rfl (by kernel_rfl) (by kernel_rfl) (by kernel_rfl) (fun _ _ _ h => h) (Or.inl ⟨by rfl, ?ynyp_5⟩) (by assumption) ?qnyp_5
                                                        case ynyp_5 => (intro w hSw; (try dsimp only at hSw); go_simp)
                                                        case qnyp_5 =>
                                                          (try simp only [Act.put]); (try simp only [List.setIfInBounds_toArray])
                                                          refine wpAnyH_take (i := 5) (v := (.int .i64 q.2.p.n)) rfl (by kernel_rfl) (by kernel_rfl) (by kernel_rfl) (fun _ _ _ h => h) (Or.inl ⟨by rfl, ?ynyp_6⟩) (by assumption) ?qnyp_6
                                                          case ynyp_6 => (intro w hSw; (try dsimp only at hSw); go_simp)
                                                          case qnyp_6 =>
                                                            (try simp only [Act.put]); (try simp only [List.setIfInBounds_toArray])
                                                            refine wpAnyH_ready (rs := [6]) (by kernel_rfl) (by simp) ?_
                                                            refine AllReadyH.cons rfl (fun K hK => ?snyp_7) ?mnyp_7
                                                            case snyp_7 =>
                                                              (refine step_call _ (by rfl) 53 #[.int .i64 2, .int .i64 k, .int .i64 q.2.p.n] (by go_simp) (parts_wher _ 2 k q.1.props.length q.2.p.n HPN.out HPL.out) ?_; rintro e2 Yw ⟨cW, rfl, hw3, hb3⟩; refine ⟨_, rfl, ?_⟩; have HW3 := Lib.hid hw3; have HXz := Lib.hid (HXz.out.after hb3); have HBz := Lib.hid (HBz.out.trans (hb3.mono HBz.out.size)); clear hb3 hw3)
                                                              refine hK.out _ _ ?knyp_7 (fun hHeld => ?qnyp_7)
                                                              case knyp_7 => ((try dsimp only); exact HSx.out _ HXz.out)
                                                              case qnyp_7 =>
                                                                clear hK K
                                                                (try simp only [Act.put]); (try simp only [List.setIfInBounds_toArray])
                                                                refine wpAnyH_done (by kernel_rfl) ?_ _
                                                                clear hHeld
                                                                show wpList _ _ _ _ _ _
                                                                go_wp2_with (go_at_call 54; (with_reducible refine (HPk.out _ _ HBz.out HW3.out).mono ?_); go_must (rintro e3 Y3 ⟨rfl, hb4⟩; have HB3 := Lib.hid (HBz.out.trans (hb4.mono HBz.out.size)); have HX3 := Lib.hid (HXz.out.after hb4); clear hb4))
                                                                have HBz : Hid (Below X.heap.size X Y3.drew) := Lib.hid (below_drew HB3.out)
                                                                have HXz : Hid (Blk Y3.drew X.heap.size 47 #[.string q.1.name, .string q.1.super, .bool q.1.abs, .slice q.2.p.A q.2.p.n q.2.p.c, .slice q.2.k.A q.2.k.n q.2.k.c, .slice q.2.r.A q.2.r.n q.2.r.c]) := Lib.hid (Blk.drew HX3.out)
                                                                refine wp_region_held_tail 11 (fun Y => Y.cell? ⟨X.heap.size, 3, none⟩ = some (.slice q.2.p.A q.2.p.n q.2.p.c) ∧ Y.cell? ⟨X.heap.size, 4, none⟩ = some (.slice q.2.k.A q.2.k.n q.2.k.c) ∧ Y.cell? ⟨X.heap.size, 5, none⟩ = some (.slice q.2.r.A q.2.r.n q.2.r.c)) (by kernel_rfl) (by kernel_rfl) ?hSnypk (fun hHeld => ?qnypk0)
                                                                case hSnypk => exact HSx.out _ HXz.out
                                                                case qnypk0 =>
                                                                  simp only [List.take_succ_cons, List.take_zero, List.drop_succ_cons, List.drop_zero]
                                                                  refine wpAnyH_take (i := 0) (v := (.pointer (some ⟨X.heap.size, 5, none⟩))) rfl (by kernel_rfl) (by kernel_rfl) (by kernel_rfl) (fun _ _ _ h => h) (Or.inl ⟨by rfl, ?ynypk_1⟩) (by assumption) ?qnypk_1
                                                                  case ynypk_1 => (intro w hSw; (try dsimp only at hSw); go_simp)
                                                                  case qnypk_1 =>
                                                                    (try simp only [Act.put]); (try simp only [List.setIfInBounds_toArray])
                                                                    refine wpAnyH_take (i := 1) (v := (.slice q.2.r.A q.2.r.n q.2.r.c)) rfl (by kernel_rfl) (by kernel_rfl) (by kernel_rfl) (fun _ _ _ h => h) (Or.inl ⟨by rfl, ?ynypk_2⟩) (by assumption) ?qnypk_2
                                                                    case ynypk_2 => (intro w hSw; (try dsimp only at hSw); go_simp)
                                                                    case qnypk_2 =>
                                                                      (try simp only [Act.put]); (try simp only [List.setIfInBounds_toArray])
                                                                      refine wpAnyH_take (i := 2) (v := (.int .i64 k)) rfl (by kernel_rfl) (by kernel_rfl) (by kernel_rfl) (fun _ _ _ h => h) (Or.inl ⟨by rfl, ?ynypk_3⟩) (by assumption) ?qnypk_3
                                                                      case ynypk_3 => (intro w hSw; (try dsimp only at hSw); go_simp)
                                                                      case qnypk_3 =>
                                                                        (try simp only [Act.put]); (try simp only [List.setIfInBounds_toArray])
                                                                        refine wpAnyH_take (i := 3) (v := (.pointer (some ⟨X.heap.size, 3, none⟩))) rfl (by kernel_rfl) (by kernel_rfl) (by kernel_rfl) (fun _ _ _ h => h) (Or.inl ⟨by rfl, ?ynypk_4⟩) (by assumption) ?qnypk_4
                                                                        case ynypk_4 => (intro w hSw; (try dsimp only at hSw); go_simp)
                                                                        case qnypk_4 =>
                                                                          (try simp only [Act.put]); (try simp only [List.setIfInBounds_toArray])
                                                                          refine wpAnyH_take (i := 4) (v := (.slice q.2.p.A q.2.p.n q.2.p.c)) rfl (by kernel_rfl) (by kernel_rfl) (by kernel_rfl) (fun _ _ _ h => h) (Or.inl ⟨by rfl, ?ynypk_5⟩) (by assumption) ?qnypk_5
                                                                          case ynypk_5 => (intro w hSw; (try dsimp only at hSw); go_simp)
                                                                          case qnypk_5 =>
                                                                            (try simp only [Act.put]); (try simp only [List.setIfInBounds_toArray])
                                                                            refine wpAnyH_take (i := 5) (v := (.int .i64 q.2.p.n)) rfl (by kernel_rfl) (by kernel_rfl) (by kernel_rfl) (fun _ _ _ h => h) (Or.inl ⟨by rfl, ?ynypk_6⟩) (by assumption) ?qnypk_6
                                                                            case ynypk_6 => (intro w hSw; (try dsimp only at hSw); go_simp)
                                                                            case qnypk_6 =>
                                                                              (try simp only [Act.put]); (try simp only [List.setIfInBounds_toArray])
                                                                              refine wpAnyH_take (i := 6) (v := (.pointer (some ⟨X.heap.size, 4, none⟩))) rfl (by kernel_rfl) (by kernel_rfl) (by kernel_rfl) (fun _ _ _ h => h) (Or.inl ⟨by rfl, ?ynypk_7⟩) (by assumption) ?qnypk_7
                                                                              case ynypk_7 => (intro w hSw; (try dsimp only at hSw); go_simp)
                                                                              case qnypk_7 =>
                                                                                (try simp only [Act.put]); (try simp only [List.setIfInBounds_toArray])
                                                                                refine wpAnyH_take (i := 7) (v := (.slice q.2.k.A q.2.k.n q.2.k.c)) rfl (by kernel_rfl) (by kernel_rfl) (by kernel_rfl) (fun _ _ _ h => h) (Or.inl ⟨by rfl, ?ynypk_8⟩) (by assumption) ?qnypk_8
                                                                                case ynypk_8 => (intro w hSw; (try dsimp only at hSw); go_simp)
                                                                                case qnypk_8 =>
                                                                                  (try simp only [Act.put]); (try simp only [List.setIfInBounds_toArray])
                                                                                  refine wpAnyH_take (i := 8) (v := (.int .i64 q.2.k.n)) rfl (by kernel_rfl) (by kernel_rfl) (by kernel_rfl) (fun _ _ _ h => h) (Or.inl ⟨by rfl, ?ynypk_9⟩) (by assumption) ?qnypk_9
                                                                                  case ynypk_9 => (intro w hSw; (try dsimp only at hSw); go_simp)
                                                                                  case qnypk_9 =>
                                                                                    (try simp only [Act.put]); (try simp only [List.setIfInBounds_toArray])
                                                                                    refine wpAnyH_take (i := 9) (v := (.int .i64 ((q.2.p.n : Int) + (q.2.k.n : Int)))) rfl (by kernel_rfl) (by kernel_rfl) (by kernel_rfl) (fun _ _ _ h => h) (Or.inl ⟨by rfl, ?ynypk_10⟩) (by assumption) ?qnypk_10
                                                                                    case ynypk_10 => (intro w hSw; (try dsimp only at hSw); go_simp)
                                                                                    case qnypk_10 =>
                                                                                      (try simp only [Act.put]); (try simp only [List.setIfInBounds_toArray])
                                                                                      refine wpAnyH_ready (rs := [10]) (by kernel_rfl) (by simp) ?_
                                                                                      refine AllReadyH.cons rfl (fun K hK => ?snypk_11) ?mnypk_11
                                                                                      case snypk_11 =>
                                                                                        (refine step_call _ (by rfl) 53 #[.int .i64 2, .int .i64 k, .int .i64 ((q.2.p.n : Int) + (q.2.k.n : Int))] (by go_simp) (parts_wher _ 2 k (q.1.props.length + q.1.kids.length) ((q.2.p.n : Int) + (q.2.k.n : Int)) HKN.out HKL.out) ?_; rintro e2 Yw ⟨cW, rfl, hw3, hb3⟩; refine ⟨_, rfl, ?_⟩; have HW3 := Lib.hid hw3; have HXz := Lib.hid (HXz.out.after hb3); have HBz := Lib.hid (HBz.out.trans (hb3.mono HBz.out.size)); clear hb3 hw3)
                                                                                        refine hK.out _ _ ?knypk_11 (fun hHeld => ?qnypk_11)
                                                                                        case knypk_11 => ((try dsimp only); exact HSx.out _ HXz.out)
                                                                                        case qnypk_11 =>
                                                                                          clear hK K
                                                                                          (try simp only [Act.put]); (try simp only [List.setIfInBounds_toArray])
                                                                                          refine wpAnyH_done (by kernel_rfl) ?_ _
                                                                                          clear hHeld
                                                                                          show wpList _ _ _ _ _ _
                                                                                          go_wp2_with (go_at_call 55; (with_reducible refine (HPr.out _ _ HBz.out HW3.out).mono ?_); go_must (rintro e3 Y4 ⟨rfl, hb4⟩; have HB4 := Lib.hid (HBz.out.trans (hb4.mono HBz.out.size)); have HX4 := Lib.hid (HXz.out.after hb4); clear hb4))
                                                                                          go_ret
                                                                                          exact ⟨rfl, HB4.out⟩
                                                                                      case mnypk_11 =>
                                                                                        exact AllReadyH.nil
                                                            case mnyp_7 =>
                                                              exact AllReadyH.nil
                                          case mny_4 =>
                                            exact AllReadyH.nil
                              case mnw_7 =>
                                exact AllReadyH.nil)
  · have d1 : (e == 0) = false := beq_eq_false_iff_ne.2 he
    have HR : Hid (ov = .ret e) := Lib.hid (HR0.out.trans (if_neg he))
    rw [HR.out]
    clear he
    go_enter Tryz.func49, Tryz.ntmps49
    go_upto_region 1 with (fail)
    have HBz : Hid (Below X.heap.size X (X.alloc (.cells #[.string q.1.name, .string q.1.super, .bool q.1.abs, .slice q.2.p.A q.2.p.n q.2.p.c, .slice q.2.k.A q.2.k.n q.2.k.c, .slice q.2.r.A q.2.r.n q.2.r.c] 47)).drew) := Lib.hid (below_drew (below_of_alloc _))
    have HXz : Hid (Blk (X.alloc (.cells #[.string q.1.name, .string q.1.super, .bool q.1.abs, .slice q.2.p.A q.2.p.n q.2.p.c, .slice q.2.k.A q.2.k.n q.2.k.c, .slice q.2.r.A q.2.r.n q.2.r.c] 47)).drew X.heap.size 47 #[.string q.1.name, .string q.1.super, .bool q.1.abs, .slice q.2.p.A q.2.p.n q.2.p.c, .slice q.2.k.A q.2.k.n q.2.k.c, .slice q.2.r.A q.2.r.n q.2.r.c]) := Lib.hid (Blk.drew (Blk.new _ _ _))
    refine wp_region_held_tail 7 (fun Y => Y.cell? ⟨gl, 0, none⟩ = some (.slice (some ⟨b, o, none⟩) n c) ∧ Y.cell? ⟨X.heap.size, 0, none⟩ = some (.string q.1.name)) (by kernel_rfl) (by kernel_rfl) ?hSz (fun hHeld => ?qz0)
    case hSz => exact HSo.out _ HBz.out HXz.out
    case qz0 =>
      simp only [List.take_succ_cons, List.take_zero, List.drop_succ_cons, List.drop_zero]
      refine wpAnyH_take (i := 0) (v := (.slice (some ⟨b, o, none⟩) n c)) rfl (by kernel_rfl) (by kernel_rfl) (by kernel_rfl) (fun _ _ _ h => h) (Or.inl ⟨by rfl, ?yz_1⟩) (by assumption) ?qz_1
      case yz_1 => (intro w hSw; (try dsimp only at hSw); go_simp)
      case qz_1 =>
        (try simp only [Act.put]); (try simp only [List.setIfInBounds_toArray])
        refine wpAnyH_take (i := 1) (v := (.int .i64 k)) rfl (by kernel_rfl) (by kernel_rfl) (by kernel_rfl) (fun _ _ _ h => h) (Or.inl ⟨by rfl, ?yz_2⟩) (by assumption) ?qz_2
        case yz_2 => (intro w hSw; (try dsimp only at hSw); go_simp)
        case qz_2 =>
          (try simp only [Act.put]); (try simp only [List.setIfInBounds_toArray])
          refine wpAnyH_take (i := 2) (v := (.slice (some ⟨b, o, none⟩) k c)) rfl (by kernel_rfl) (by kernel_rfl) (by kernel_rfl) (fun _ _ _ h => h) (Or.inl ⟨by rfl, ?yz_3⟩) (by assumption) ?qz_3
          case yz_3 => (intro w hSw; (try dsimp only at hSw); go_simp)
          case qz_3 =>
            (try simp only [Act.put]); (try simp only [List.setIfInBounds_toArray])
            refine wpAnyH_take (i := 3) (v := (.func (.func 51) #[] #[.pointer (some ⟨X.heap.size, 0, none⟩)])) rfl (by kernel_rfl) (by kernel_rfl) (by kernel_rfl) (fun _ _ _ h => h) (Or.inl ⟨by rfl, ?yz_4⟩) (by assumption) ?qz_4
            case yz_4 => (intro w hSw; (try dsimp only at hSw); go_simp)
            case qz_4 =>
              (try simp only [Act.put]); (try simp only [List.setIfInBounds_toArray])
              refine wpAnyH_take (i := 4) (v := (.pointer (some ⟨X.heap.size, 0, none⟩))) rfl (by kernel_rfl) (by kernel_rfl) (by kernel_rfl) (fun _ _ _ h => h) (Or.inl ⟨by rfl, ?yz_5⟩) (by assumption) ?qz_5
              case yz_5 => (intro w hSw; (try dsimp only at hSw); go_simp)
              case qz_5 =>
                (try simp only [Act.put]); (try simp only [List.setIfInBounds_toArray])
                refine wpAnyH_take (i := 5) (v := (.string q.1.name)) rfl (by kernel_rfl) (by kernel_rfl) (by kernel_rfl) (fun _ _ _ h => h) (Or.inl ⟨by rfl, ?yz_6⟩) (by assumption) ?qz_6
                case yz_6 => (intro w hSw; (try dsimp only at hSw); go_simp)
                case qz_6 =>
                  (try simp only [Act.put]); (try simp only [List.setIfInBounds_toArray])
                  refine wpAnyH_ready (rs := [6]) (by kernel_rfl) (by simp) ?_
                  refine AllReadyH.cons rfl (fun K hK => ?sz_7) ?mz_7
                  case sz_7 =>
                    (refine step_mk1 _ (by rfl) 9 #[.string q.1.name] (by go_simp) ?_; intro gw Yw hxw hbw hsw; have HUw := Lib.hid hxw; have HXz := Lib.hid (HXz.out.after hbw); have HBz := Lib.hid (HBz.out.trans (hbw.mono HBz.out.size)); clear hxw hbw hsw)
                    refine hK.out _ _ ?kz_7 (fun hHeld => ?qz_7)
                    case kz_7 => ((try dsimp only); exact HSo.out _ HBz.out HXz.out)
                    case qz_7 =>
                      clear hK K
                      (try simp only [Act.put]); (try simp only [List.setIfInBounds_toArray])
                      refine wpAnyH_done (by kernel_rfl) ?_ _
                      clear hHeld
                      show wpList _ _ _ _ _ _
                      go_wp2_with (first | (go_at_call 50; (with_reducible refine (HN.out _ _ HBz.out HXz.out HUw.out).mono ?_); go_must (rintro e1 Y1 ⟨rfl, hb1⟩; have HB1 := Lib.hid (HBz.out.trans (hb1.mono HBz.out.size)); have HX1 := Lib.hid (HXz.out.after hb1); have y1 := (HX1.out.cell 1).trans (show _ = some (.string q.1.super) from rfl); have y0 := (HX1.out.cell 0).trans (show _ = some (.string q.1.name) from rfl); clear hb1)) | (go_at_call 42; (with_reducible refine (nRight_any _ _).mono ?_); go_must (rintro e2 Y2 ⟨rfl, rfl⟩; rw [HD.out])))
                      go_ret
                      exact ⟨rfl, HB1.out⟩
                  case mz_7 =>
                    exact AllReadyH.nil
end Go.Proofs.YtilemieknfdjnaaGreat

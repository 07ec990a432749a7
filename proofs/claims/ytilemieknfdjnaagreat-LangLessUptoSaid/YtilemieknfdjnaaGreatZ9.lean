/-
  WALKS: what is asked of each element of a list: its words, and whether one ahead is like it.
-/
import Derived.Test.YtilemieknfdjnaaGreatZ8
import Derived.Deep.RegionHeld3
namespace Go.Proofs.YtilemieknfdjnaaGreat
open Go Go.RowKit Go.Sort
set_option linter.unusedVariables false
attribute [local go_sem ↓] Go.wp_at_zero Go.wp_at_succ
theorem row_take {α : Type} {C : α → List Value} {s : Nat} (hs : ∀ a, (C a).length = s) {w : World} {lo hi n c : Nat} {A : Option Addr} {l : List α} (h : Row w lo hi s A n c (l.flatMap C)) {k : Nat} (hk : k ≤ n) : Row w lo hi s A k c ((l.take k).flatMap C) := by
  have h1 := h.1
  rw [flatN_len hs] at h1
  refine ⟨?_, Nat.le_trans hk h.2.1, h.2.2.1, fun hp => ?_⟩
  · rw [flatN_len hs, List.length_take]
    by_cases h0 : s = 0
    · subst h0; simp
    · have : l.length = n := Nat.eq_of_mul_eq_mul_right (by omega) h1
      rw [Nat.min_eq_left (by omega)]
  · obtain ⟨b, o, e, h2, h3, hc⟩ := h.2.2.2 (by omega)
    refine ⟨b, o, e, h2, h3, fun j u hj => hc j u ?_⟩
    have hp : ((l.take k).flatMap C) <+: (l.flatMap C) := by
      conv => rhs; rw [← List.take_append_drop k l, List.flatMap_append]
      exact List.prefix_append _ _
    obtain ⟨r, hr⟩ := hp
    rw [← hr, List.getElem?_append_left (List.getElem?_eq_some_iff.1 hj).1]
    exact hj
set_option maxHeartbeats 800000 in
theorem like_pd (X : World) (x q : PropD) (g : Nat) (h0 : X.cell? ⟨g, 0, none⟩ = some (.string q.name)) (hg : g < X.heap.size) :
    Calls Tryz.prog 95 #[.agg #[.string x.name, .int .i64 x.typ], .pointer (some ⟨g, 0, none⟩)] X (Ret X (.bool (bEq x.name q.name))) := by
  unfold bEq
  have h0' := past_cell h0 hg
  go_enter Tryz.func95, Tryz.ntmps95
  go_wp2
  go_ret
  exact ret_b (by first | rfl | (simp; done)) rfl (by (repeat (first | exact Below.refl _ _ | refine below_more ?_ _ | refine Below.setCell' ?_ (Nat.le_refl _) _ | refine below_drew ?_ | refine below_drewN ?_ _)))
theorem tells_pd {w : World} {q : PropD} {g : Nat} (h : Blk w g 85 #[.string q.name, .int .i64 q.typ]) (l : List PropD) : Tells w 95 #[.pointer (some ⟨g, 0, none⟩)] (fun q : PropD => .agg #[.string q.name, .int .i64 q.typ]) l (fun y => bEq y.name q.name) :=
  ⟨enters_of Tryz.func95 (by kernel_rfl) rfl, fun X hX x _ => like_pd X x q g (((h.after hX).cell 0).trans rfl) (h.after hX).lt⟩
theorem ask_pd (w Y : World) (hi : Nat) (A : Option Addr) (n c : Nat) (l : List PropD) (h : Row w 0 hi 2 A n c (l.flatMap pdC)) (hh : hi ≤ w.heap.size) (k : Nat) (hk : k < n) (q : PropD) (g gw : Nat) (hY : Below w.heap.size w Y) (hb : Blk Y g 85 #[.string q.name, .int .i64 q.typ]) (hw : Blk Y gw 9 #[.string q.name]) :
    Calls Tryz.prog 94 #[.slice A k c, .func (.func 95) #[] #[.pointer (some ⟨g, 0, none⟩)], .slice (some ⟨gw, 0, none⟩) 1 1] Y (Ret Y (.int .i64 (namedV [q.name] ((l.take k).any fun y => bEq y.name q.name)))) := by
  have hln : l.length = n := by have := h.1; rw [flatN_len (f := pdC) (s := 2) (fun _ => rfl)] at this; omega
  refine named_pd Y hi A k c (l.take k) (row_take (s := 2) (fun _ => rfl) (h.keep fun b o hb => hY.cell (p := ⟨b, o, none⟩) (Nat.lt_of_lt_of_le hb hh)) (by omega)) (Nat.le_trans hh hY.size) 95 _ _ (tells_pd hb _) Y.heap.size (some ⟨gw, 0, none⟩) 1 1 [q.name] ?_ (Nat.le_refl _)
  exact (Row.mono (row_blk (n := 1) (c := 1) (size := 1) hw rfl (Nat.le_refl _) (by decide)) (Nat.zero_le _) hw.lt)
set_option maxRecDepth 20000 in
set_option maxHeartbeats 1600000 in
theorem one_pd (w X : World) (hi : Nat) (A : Option Addr) (n c : Nat) (l : List PropD) (h : Row w 0 hi 2 A n c (l.flatMap pdC)) (hh : hi ≤ w.heap.size) (gl : Nat) (hg : Blk w gl 43 #[.slice A n c]) (hX : Below w.heap.size w X) (k : Nat) (q : PropD) (hq : l[k]? = some q) :
    Calls Tryz.prog 93 #[.int .i64 k, .agg #[.string q.name, .int .i64 q.typ], .pointer (some ⟨gl, 0, none⟩)] X (Ends X (propO l k q)) := by
  have hnc := h.2.1
  have hc := h.2.2.1
  have hln : l.length = n := by have := h.1; rw [flatN_len (f := pdC) (s := 2) (fun _ => rfl)] at this; omega
  have hk : k < n := by rw [← hln]; exact (List.getElem?_eq_some_iff.1 hq).1
  unfold maxLen at hc
  obtain ⟨b, o, rfl, _⟩ := h.at_ (by omega)
  have hkc : k ≤ c := by omega
  have HX0 : Hid (Below w.heap.size w (X.alloc (.cells #[.string q.name, .int .i64 q.typ] 85))) := Lib.hid (below_more hX _)
  have HN : Hid (∀ Y gw, Below w.heap.size w Y → Blk Y X.heap.size 85 #[.string q.name, .int .i64 q.typ] → Blk Y gw 9 #[.string q.name] → Calls Tryz.prog 94 #[.slice (some ⟨b, o, none⟩) k c, .func (.func 95) #[] #[.pointer (some ⟨X.heap.size, 0, none⟩)], .slice (some ⟨gw, 0, none⟩) 1 1] Y (Ret Y (.int .i64 (namedV [q.name] ((l.take k).any fun y => bEq y.name q.name))))) :=
    Lib.hid fun Y gw hY hb hw => ask_pd w Y hi _ n c l h hh k hk q X.heap.size gw hY hb hw
  unfold propO Ends
  simp only
  generalize namedV _ _ = e at HN
  have HSo : Hid (∀ Y : World, Below X.heap.size X Y → Blk Y X.heap.size 85 #[.string q.name, .int .i64 q.typ] → (Y.cell? ⟨gl, 0, none⟩ = some (.slice (some ⟨b, o, none⟩) n c) ∧ Y.cell? ⟨X.heap.size, 0, none⟩ = some (.string q.name))) := Lib.hid fun Y hY hb => ⟨(((hg.after hX).after hY).cell 0).trans rfl, (hb.cell 0).trans rfl⟩
  have HE1 : Hid (∀ Y Y1 : World, Below X.heap.size X Y → Blk Y X.heap.size 85 #[.string q.name, .int .i64 q.typ] → Below Y.heap.size Y Y1 → Below X.heap.size X Y1 ∧ Blk Y1 X.heap.size 85 #[.string q.name, .int .i64 q.typ] ∧ (Y1.cell? ⟨gl, 0, none⟩ = some (.slice (some ⟨b, o, none⟩) n c) ∧ Y1.cell? ⟨X.heap.size, 0, none⟩ = some (.string q.name))) := Lib.hid fun Y Y1 hY hb h1 =>
    have h2 := hY.trans (h1.mono hY.size)
    ⟨h2, hb.after h1, HSo.out Y1 h2 (hb.after h1)⟩
  clear h hq hln
  have hmf : ∀ (fn : Fn) (first cap : Array Value) (w : World), (Instr.makeFunc fn first cap).run Tryz.prog w = .ok (.func fn first cap) w := fun _ _ _ _ => rfl
  go_enter Tryz.func93, Tryz.ntmps93
  go_upto_region 1 with (fail)
  go_region_held3 (fun Y : World => Y.cell? ⟨gl, 0, none⟩ = some (.slice (some ⟨b, o, none⟩) n c) ∧ Y.cell? ⟨X.heap.size, 0, none⟩ = some (.string q.name)) (first | exact HY1.out.2.2 | exact HSo.out _ (by (repeat (first | exact Below.refl _ _ | refine below_more ?_ _ | refine below_drew ?_ | refine below_drewN ?_ _))) (by (repeat (first | exact Blk.new _ _ _ | refine Blk.alloc ?_ _ | refine Blk.drew ?_ | refine Blk.drewN ?_ _)))) ((go_at_call 94; (with_reducible refine (HN.out _ _ (by (repeat (first | exact HX0.out | refine below_more ?_ _ | refine below_drew ?_ | refine below_drewN ?_ _))) (by (repeat (first | exact Blk.new _ _ _ | refine Blk.alloc ?_ _ | refine Blk.drew ?_ | refine Blk.drewN ?_ _))) (by (repeat (first | exact Blk.new' (by first | rfl | (simp; done)) | refine Blk.drew ?_ | refine Blk.drewN ?_ _)))).mono ?_); rintro e1 Y1 ⟨rfl, hb1⟩; have HY1 := Lib.hid (HE1.out _ _ (by (repeat (first | exact Below.refl _ _ | refine below_more ?_ _ | refine below_drew ?_ | refine below_drewN ?_ _))) (by (repeat (first | exact Blk.new _ _ _ | refine Blk.alloc ?_ _ | refine Blk.drew ?_ | refine Blk.drewN ?_ _))) hb1); clear hb1))
  all_goals (
    by_cases he : e = 0
    · subst he
      have y1 := (HY1.out.2.1.cell 1).trans (show _ = some (.int .i64 q.typ) from rfl)
      cases ht : withinB q.typ 1 4 with
      | true =>
        have HT := Lib.hid ht
        go_wp2_with (go_at_call 96; go_must ((with_reducible refine (within_any _ _ _ _).mono ?_); rintro e2 Y2 ⟨rfl, hb2⟩; rw [HT.out]; have HB2 := Lib.hid (HY1.out.1.trans (hb2.mono HY1.out.1.size)); clear hb2))
        go_ret
        exact ret_i (by first | rfl | (simp [ht]; done)) rfl HB2.out
      | false =>
        have HT := Lib.hid ht
        go_wp2_with (go_at_call 96; go_must ((with_reducible refine (within_any _ _ _ _).mono ?_); rintro e2 Y2 ⟨rfl, hb2⟩; rw [HT.out]; have HB2 := Lib.hid (HY1.out.1.trans (hb2.mono HY1.out.1.size)); clear hb2))
        go_ret
        exact ret_i (by first | rfl | (simp [ht]; done)) rfl HB2.out
    · have d1 : (e == 0) = false := beq_eq_false_iff_ne.2 he
      go_wp2_with fail
      go_ret
      exact ret_i (by first | rfl | (rw [if_neg he]; done) | (simp [he]; done)) rfl HY1.out.1)
set_option maxHeartbeats 800000 in
theorem like_kd (X : World) (x q : KidD) (g : Nat) (h0 : X.cell? ⟨g, 0, none⟩ = some (.string q.role)) (hg : g < X.heap.size) :
    Calls Tryz.prog 101 #[.agg #[.string x.role, .string x.con, .int .i64 x.min, .int .i64 x.max], .pointer (some ⟨g, 0, none⟩)] X (Ret X (.bool (bEq x.role q.role))) := by
  unfold bEq
  have h0' := past_cell h0 hg
  go_enter Tryz.func101, Tryz.ntmps101
  go_wp2
  go_ret
  exact ret_b (by first | rfl | (simp; done)) rfl (by (repeat (first | exact Below.refl _ _ | refine below_more ?_ _ | refine Below.setCell' ?_ (Nat.le_refl _) _ | refine below_drew ?_ | refine below_drewN ?_ _)))
theorem tells_kd {w : World} {q : KidD} {g : Nat} (h : Blk w g 62 #[.string q.role, .string q.con, .int .i64 q.min, .int .i64 q.max]) (l : List KidD) : Tells w 101 #[.pointer (some ⟨g, 0, none⟩)] (fun q : KidD => .agg #[.string q.role, .string q.con, .int .i64 q.min, .int .i64 q.max]) l (fun y => bEq y.role q.role) :=
  ⟨enters_of Tryz.func101 (by kernel_rfl) rfl, fun X hX x _ => like_kd X x q g (((h.after hX).cell 0).trans rfl) (h.after hX).lt⟩
theorem ask_kd (w Y : World) (hi : Nat) (A : Option Addr) (n c : Nat) (l : List KidD) (h : Row w 0 hi 4 A n c (l.flatMap kdC)) (hh : hi ≤ w.heap.size) (k : Nat) (hk : k < n) (q : KidD) (g gw : Nat) (hY : Below w.heap.size w Y) (hb : Blk Y g 62 #[.string q.role, .string q.con, .int .i64 q.min, .int .i64 q.max]) (hw : Blk Y gw 9 #[.string q.role, .string q.con]) :
    Calls Tryz.prog 100 #[.slice A k c, .func (.func 101) #[] #[.pointer (some ⟨g, 0, none⟩)], .slice (some ⟨gw, 0, none⟩) 2 2] Y (Ret Y (.int .i64 (namedV [q.role, q.con] ((l.take k).any fun y => bEq y.role q.role)))) := by
  have hln : l.length = n := by have := h.1; rw [flatN_len (f := kdC) (s := 4) (fun _ => rfl)] at this; omega
  refine named_kd Y hi A k c (l.take k) (row_take (s := 4) (fun _ => rfl) (h.keep fun b o hb => hY.cell (p := ⟨b, o, none⟩) (Nat.lt_of_lt_of_le hb hh)) (by omega)) (Nat.le_trans hh hY.size) 101 _ _ (tells_kd hb _) Y.heap.size (some ⟨gw, 0, none⟩) 2 2 [q.role, q.con] ?_ (Nat.le_refl _)
  exact (Row.mono (row_blk (n := 2) (c := 2) (size := 1) hw rfl (Nat.le_refl _) (by decide)) (Nat.zero_le _) hw.lt)
set_option maxRecDepth 20000 in
set_option maxHeartbeats 1600000 in
theorem one_kd (w X : World) (hi : Nat) (A : Option Addr) (n c : Nat) (l : List KidD) (h : Row w 0 hi 4 A n c (l.flatMap kdC)) (hh : hi ≤ w.heap.size) (gl : Nat) (hg : Blk w gl 44 #[.slice A n c]) (hX : Below w.heap.size w X) (k : Nat) (q : KidD) (hq : l[k]? = some q) :
    Calls Tryz.prog 99 #[.int .i64 k, .agg #[.string q.role, .string q.con, .int .i64 q.min, .int .i64 q.max], .pointer (some ⟨gl, 0, none⟩)] X (Ends X (kidO l k q)) := by
  have hnc := h.2.1
  have hc := h.2.2.1
  have hln : l.length = n := by have := h.1; rw [flatN_len (f := kdC) (s := 4) (fun _ => rfl)] at this; omega
  have hk : k < n := by rw [← hln]; exact (List.getElem?_eq_some_iff.1 hq).1
  unfold maxLen at hc
  obtain ⟨b, o, rfl, _⟩ := h.at_ (by omega)
  have hkc : k ≤ c := by omega
  have HX0 : Hid (Below w.heap.size w (X.alloc (.cells #[.string q.role, .string q.con, .int .i64 q.min, .int .i64 q.max] 62))) := Lib.hid (below_more hX _)
  have HN : Hid (∀ Y gw, Below w.heap.size w Y → Blk Y X.heap.size 62 #[.string q.role, .string q.con, .int .i64 q.min, .int .i64 q.max] → Blk Y gw 9 #[.string q.role, .string q.con] → Calls Tryz.prog 100 #[.slice (some ⟨b, o, none⟩) k c, .func (.func 101) #[] #[.pointer (some ⟨X.heap.size, 0, none⟩)], .slice (some ⟨gw, 0, none⟩) 2 2] Y (Ret Y (.int .i64 (namedV [q.role, q.con] ((l.take k).any fun y => bEq y.role q.role))))) :=
    Lib.hid fun Y gw hY hb hw => ask_kd w Y hi _ n c l h hh k hk q X.heap.size gw hY hb hw
  unfold kidO Ends
  simp only
  generalize namedV _ _ = e at HN
  have HSo : Hid (∀ Y : World, Below X.heap.size X Y → Blk Y X.heap.size 62 #[.string q.role, .string q.con, .int .i64 q.min, .int .i64 q.max] → (Y.cell? ⟨gl, 0, none⟩ = some (.slice (some ⟨b, o, none⟩) n c) ∧ Y.cell? ⟨X.heap.size, 0, none⟩ = some (.string q.role) ∧ Y.cell? ⟨X.heap.size, 1, none⟩ = some (.string q.con))) := Lib.hid fun Y hY hb => ⟨(((hg.after hX).after hY).cell 0).trans rfl, (hb.cell 0).trans rfl, (hb.cell 1).trans rfl⟩
  have HE1 : Hid (∀ Y Y1 : World, Below X.heap.size X Y → Blk Y X.heap.size 62 #[.string q.role, .string q.con, .int .i64 q.min, .int .i64 q.max] → Below Y.heap.size Y Y1 → Below X.heap.size X Y1 ∧ Blk Y1 X.heap.size 62 #[.string q.role, .string q.con, .int .i64 q.min, .int .i64 q.max] ∧ (Y1.cell? ⟨gl, 0, none⟩ = some (.slice (some ⟨b, o, none⟩) n c) ∧ Y1.cell? ⟨X.heap.size, 0, none⟩ = some (.string q.role) ∧ Y1.cell? ⟨X.heap.size, 1, none⟩ = some (.string q.con))) := Lib.hid fun Y Y1 hY hb h1 =>
    have h2 := hY.trans (h1.mono hY.size)
    ⟨h2, hb.after h1, HSo.out Y1 h2 (hb.after h1)⟩
  clear h hq hln
  have hmf : ∀ (fn : Fn) (first cap : Array Value) (w : World), (Instr.makeFunc fn first cap).run Tryz.prog w = .ok (.func fn first cap) w := fun _ _ _ _ => rfl
  go_enter Tryz.func99, Tryz.ntmps99
  go_upto_region 1 with (fail)
  go_region_held3 (fun Y : World => Y.cell? ⟨gl, 0, none⟩ = some (.slice (some ⟨b, o, none⟩) n c) ∧ Y.cell? ⟨X.heap.size, 0, none⟩ = some (.string q.role) ∧ Y.cell? ⟨X.heap.size, 1, none⟩ = some (.string q.con)) (first | exact HY1.out.2.2 | exact HSo.out _ (by (repeat (first | exact Below.refl _ _ | refine below_more ?_ _ | refine below_drew ?_ | refine below_drewN ?_ _))) (by (repeat (first | exact Blk.new _ _ _ | refine Blk.alloc ?_ _ | refine Blk.drew ?_ | refine Blk.drewN ?_ _)))) ((go_at_call 100; (with_reducible refine (HN.out _ _ (by (repeat (first | exact HX0.out | refine below_more ?_ _ | refine below_drew ?_ | refine below_drewN ?_ _))) (by (repeat (first | exact Blk.new _ _ _ | refine Blk.alloc ?_ _ | refine Blk.drew ?_ | refine Blk.drewN ?_ _))) (by (repeat (first | exact Blk.new' (by first | rfl | (simp; done)) | refine Blk.drew ?_ | refine Blk.drewN ?_ _)))).mono ?_); rintro e1 Y1 ⟨rfl, hb1⟩; have HY1 := Lib.hid (HE1.out _ _ (by (repeat (first | exact Below.refl _ _ | refine below_more ?_ _ | refine below_drew ?_ | refine below_drewN ?_ _))) (by (repeat (first | exact Blk.new _ _ _ | refine Blk.alloc ?_ _ | refine Blk.drew ?_ | refine Blk.drewN ?_ _))) hb1); clear hb1))
  all_goals (
    by_cases he : e = 0
    · subst he
      have y1 := (HY1.out.2.1.cell 2).trans (show _ = some (.int .i64 q.min) from rfl)
      have y2 := (HY1.out.2.1.cell 3).trans (show _ = some (.int .i64 q.max) from rfl)
      cases ht : withinB q.min 0 1 with
      | false =>
        have HT := Lib.hid ht
        go_wp2_with (go_at_call 96; go_must ((with_reducible refine (within_any _ _ _ _).mono ?_); rintro e2 Y2 ⟨rfl, hb2⟩; rw [HT.out]; have HB2 := Lib.hid (HY1.out.1.trans (hb2.mono HY1.out.1.size)); clear hb2))
        go_ret
        exact ret_i (by first | rfl | (simp [ht]; done)) rfl HB2.out
      | true =>
        have HT := Lib.hid ht
        have HY2 : Hid (∀ Y, Below Y1.heap.size Y1 Y → Y.cell? ⟨X.heap.size, 3, none⟩ = some (.int .i64 q.max)) := Lib.hid fun Y hY => ((HY1.out.2.1.after hY).cell 3).trans rfl
        cases hu : withinB q.max 0 1 with
        | true =>
          have HU := Lib.hid hu
          go_wp2_with (first | (go_at_call 96; (with_reducible refine (within_any _ q.min _ _).mono ?_); go_must (rintro e2 Y2 ⟨rfl, hb2⟩; rw [HT.out]; have y3 := HY2.out _ hb2; have HB2 := Lib.hid (HY1.out.1.trans (hb2.mono HY1.out.1.size)); clear hb2)) | (go_at_call 96; (with_reducible refine (within_any _ q.max _ _).mono ?_); go_must (rintro e3 Y3 ⟨rfl, hb3⟩; rw [HU.out]; have HB3 := Lib.hid (HB2.out.trans (hb3.mono HB2.out.size)); clear hb3)))
          go_ret
          exact ret_i (by first | rfl | (simp [ht, hu]; done)) rfl HB3.out
        | false =>
          have HU := Lib.hid hu
          go_wp2_with (first | (go_at_call 96; (with_reducible refine (within_any _ q.min _ _).mono ?_); go_must (rintro e2 Y2 ⟨rfl, hb2⟩; rw [HT.out]; have y3 := HY2.out _ hb2; have HB2 := Lib.hid (HY1.out.1.trans (hb2.mono HY1.out.1.size)); clear hb2)) | (go_at_call 96; (with_reducible refine (within_any _ q.max _ _).mono ?_); go_must (rintro e3 Y3 ⟨rfl, hb3⟩; rw [HU.out]; have HB3 := Lib.hid (HB2.out.trans (hb3.mono HB2.out.size)); clear hb3)))
          go_ret
          exact ret_i (by first | rfl | (simp [ht, hu]; done)) rfl HB3.out
    · have d1 : (e == 0) = false := beq_eq_false_iff_ne.2 he
      go_wp2_with fail
      go_ret
      exact ret_i (by first | rfl | (rw [if_neg he]; done) | (simp [he]; done)) rfl HY1.out.1)
set_option maxHeartbeats 800000 in
theorem like_rd (X : World) (x q : RefD) (g : Nat) (h0 : X.cell? ⟨g, 0, none⟩ = some (.string q.role)) (hg : g < X.heap.size) :
    Calls Tryz.prog 105 #[.agg #[.string x.role, .string x.con, .bool x.need], .pointer (some ⟨g, 0, none⟩)] X (Ret X (.bool (bEq x.role q.role))) := by
  unfold bEq
  have h0' := past_cell h0 hg
  go_enter Tryz.func105, Tryz.ntmps105
  go_wp2
  go_ret
  exact ret_b (by first | rfl | (simp; done)) rfl (by (repeat (first | exact Below.refl _ _ | refine below_more ?_ _ | refine Below.setCell' ?_ (Nat.le_refl _) _ | refine below_drew ?_ | refine below_drewN ?_ _)))
theorem tells_rd {w : World} {q : RefD} {g : Nat} (h : Blk w g 87 #[.string q.role, .string q.con, .bool q.need]) (l : List RefD) : Tells w 105 #[.pointer (some ⟨g, 0, none⟩)] (fun q : RefD => .agg #[.string q.role, .string q.con, .bool q.need]) l (fun y => bEq y.role q.role) :=
  ⟨enters_of Tryz.func105 (by kernel_rfl) rfl, fun X hX x _ => like_rd X x q g (((h.after hX).cell 0).trans rfl) (h.after hX).lt⟩
theorem ask_rd (w Y : World) (hi : Nat) (A : Option Addr) (n c : Nat) (l : List RefD) (h : Row w 0 hi 3 A n c (l.flatMap rdC)) (hh : hi ≤ w.heap.size) (k : Nat) (hk : k < n) (q : RefD) (g gw : Nat) (hY : Below w.heap.size w Y) (hb : Blk Y g 87 #[.string q.role, .string q.con, .bool q.need]) (hw : Blk Y gw 9 #[.string q.role, .string q.con]) :
    Calls Tryz.prog 104 #[.slice A k c, .func (.func 105) #[] #[.pointer (some ⟨g, 0, none⟩)], .slice (some ⟨gw, 0, none⟩) 2 2] Y (Ret Y (.int .i64 (namedV [q.role, q.con] ((l.take k).any fun y => bEq y.role q.role)))) := by
  have hln : l.length = n := by have := h.1; rw [flatN_len (f := rdC) (s := 3) (fun _ => rfl)] at this; omega
  refine named_rd Y hi A k c (l.take k) (row_take (s := 3) (fun _ => rfl) (h.keep fun b o hb => hY.cell (p := ⟨b, o, none⟩) (Nat.lt_of_lt_of_le hb hh)) (by omega)) (Nat.le_trans hh hY.size) 105 _ _ (tells_rd hb _) Y.heap.size (some ⟨gw, 0, none⟩) 2 2 [q.role, q.con] ?_ (Nat.le_refl _)
  exact (Row.mono (row_blk (n := 2) (c := 2) (size := 1) hw rfl (Nat.le_refl _) (by decide)) (Nat.zero_le _) hw.lt)
set_option maxRecDepth 20000 in
set_option maxHeartbeats 1600000 in
theorem one_rd (w X : World) (hi : Nat) (A : Option Addr) (n c : Nat) (l : List RefD) (h : Row w 0 hi 3 A n c (l.flatMap rdC)) (hh : hi ≤ w.heap.size) (gl : Nat) (hg : Blk w gl 45 #[.slice A n c]) (hX : Below w.heap.size w X) (k : Nat) (q : RefD) (hq : l[k]? = some q) :
    Calls Tryz.prog 103 #[.int .i64 k, .agg #[.string q.role, .string q.con, .bool q.need], .pointer (some ⟨gl, 0, none⟩)] X (Ends X (refO l k q)) := by
  have hnc := h.2.1
  have hc := h.2.2.1
  have hln : l.length = n := by have := h.1; rw [flatN_len (f := rdC) (s := 3) (fun _ => rfl)] at this; omega
  have hk : k < n := by rw [← hln]; exact (List.getElem?_eq_some_iff.1 hq).1
  unfold maxLen at hc
  obtain ⟨b, o, rfl, _⟩ := h.at_ (by omega)
  have hkc : k ≤ c := by omega
  have HX0 : Hid (Below w.heap.size w (X.alloc (.cells #[.string q.role, .string q.con, .bool q.need] 87))) := Lib.hid (below_more hX _)
  have HN : Hid (∀ Y gw, Below w.heap.size w Y → Blk Y X.heap.size 87 #[.string q.role, .string q.con, .bool q.need] → Blk Y gw 9 #[.string q.role, .string q.con] → Calls Tryz.prog 104 #[.slice (some ⟨b, o, none⟩) k c, .func (.func 105) #[] #[.pointer (some ⟨X.heap.size, 0, none⟩)], .slice (some ⟨gw, 0, none⟩) 2 2] Y (Ret Y (.int .i64 (namedV [q.role, q.con] ((l.take k).any fun y => bEq y.role q.role))))) :=
    Lib.hid fun Y gw hY hb hw => ask_rd w Y hi _ n c l h hh k hk q X.heap.size gw hY hb hw
  unfold refO Ends
  simp only
  generalize namedV _ _ = e at HN
  have HSo : Hid (∀ Y : World, Below X.heap.size X Y → Blk Y X.heap.size 87 #[.string q.role, .string q.con, .bool q.need] → (Y.cell? ⟨gl, 0, none⟩ = some (.slice (some ⟨b, o, none⟩) n c) ∧ Y.cell? ⟨X.heap.size, 0, none⟩ = some (.string q.role) ∧ Y.cell? ⟨X.heap.size, 1, none⟩ = some (.string q.con))) := Lib.hid fun Y hY hb => ⟨(((hg.after hX).after hY).cell 0).trans rfl, (hb.cell 0).trans rfl, (hb.cell 1).trans rfl⟩
  have HE1 : Hid (∀ Y Y1 : World, Below X.heap.size X Y → Blk Y X.heap.size 87 #[.string q.role, .string q.con, .bool q.need] → Below Y.heap.size Y Y1 → Below X.heap.size X Y1 ∧ Blk Y1 X.heap.size 87 #[.string q.role, .string q.con, .bool q.need] ∧ (Y1.cell? ⟨gl, 0, none⟩ = some (.slice (some ⟨b, o, none⟩) n c) ∧ Y1.cell? ⟨X.heap.size, 0, none⟩ = some (.string q.role) ∧ Y1.cell? ⟨X.heap.size, 1, none⟩ = some (.string q.con))) := Lib.hid fun Y Y1 hY hb h1 =>
    have h2 := hY.trans (h1.mono hY.size)
    ⟨h2, hb.after h1, HSo.out Y1 h2 (hb.after h1)⟩
  clear h hq hln
  have hmf : ∀ (fn : Fn) (first cap : Array Value) (w : World), (Instr.makeFunc fn first cap).run Tryz.prog w = .ok (.func fn first cap) w := fun _ _ _ _ => rfl
  go_enter Tryz.func103, Tryz.ntmps103
  go_upto_region 1 with (fail)
  go_region_held3 (fun Y : World => Y.cell? ⟨gl, 0, none⟩ = some (.slice (some ⟨b, o, none⟩) n c) ∧ Y.cell? ⟨X.heap.size, 0, none⟩ = some (.string q.role) ∧ Y.cell? ⟨X.heap.size, 1, none⟩ = some (.string q.con)) (first | exact HY1.out.2.2 | exact HSo.out _ (by (repeat (first | exact Below.refl _ _ | refine below_more ?_ _ | refine below_drew ?_ | refine below_drewN ?_ _))) (by (repeat (first | exact Blk.new _ _ _ | refine Blk.alloc ?_ _ | refine Blk.drew ?_ | refine Blk.drewN ?_ _)))) ((go_at_call 104; (with_reducible refine (HN.out _ _ (by (repeat (first | exact HX0.out | refine below_more ?_ _ | refine below_drew ?_ | refine below_drewN ?_ _))) (by (repeat (first | exact Blk.new _ _ _ | refine Blk.alloc ?_ _ | refine Blk.drew ?_ | refine Blk.drewN ?_ _))) (by (repeat (first | exact Blk.new' (by first | rfl | (simp; done)) | refine Blk.drew ?_ | refine Blk.drewN ?_ _)))).mono ?_); rintro e1 Y1 ⟨rfl, hb1⟩; have HY1 := Lib.hid (HE1.out _ _ (by (repeat (first | exact Below.refl _ _ | refine below_more ?_ _ | refine below_drew ?_ | refine below_drewN ?_ _))) (by (repeat (first | exact Blk.new _ _ _ | refine Blk.alloc ?_ _ | refine Blk.drew ?_ | refine Blk.drewN ?_ _))) hb1); clear hb1))
  all_goals (
    by_cases he : e = 0
    · subst he
      go_wp2_with fail
      go_ret
      exact ret_i (by first | rfl | (simp; done)) rfl HY1.out.1
    · have d1 : (e == 0) = false := beq_eq_false_iff_ne.2 he
      go_wp2_with fail
      go_ret
      exact ret_i (by first | rfl | (rw [if_neg he]; done) | (simp [he]; done)) rfl HY1.out.1)
set_option maxHeartbeats 800000 in
theorem like_str (X : World) (x q : ByteArray) (g : Nat) (h0 : X.cell? ⟨g, 0, none⟩ = some (.string q)) (hg : g < X.heap.size) :
    Calls Tryz.prog 47 #[Value.string x, .pointer (some ⟨g, 0, none⟩)] X (Ret X (.bool (bEq x q))) := by
  unfold bEq
  have h0' := past_cell h0 hg
  go_enter Tryz.func47, Tryz.ntmps47
  go_wp2
  go_ret
  exact ret_b (by first | rfl | (simp; done)) rfl (by (repeat (first | exact Below.refl _ _ | refine below_more ?_ _ | refine Below.setCell' ?_ (Nat.le_refl _) _ | refine below_drew ?_ | refine below_drewN ?_ _)))
theorem tells_str {w : World} {q : ByteArray} {g : Nat} (h : Blk w g 9 #[.string q]) (l : List ByteArray) : Tells w 47 #[.pointer (some ⟨g, 0, none⟩)] (fun q : ByteArray => Value.string q) l (fun y => bEq y q) :=
  ⟨enters_of Tryz.func47 (by kernel_rfl) rfl, fun X hX x _ => like_str X x q g (((h.after hX).cell 0).trans rfl) (h.after hX).lt⟩
theorem ask_str (w Y : World) (hi : Nat) (A : Option Addr) (n c : Nat) (l : List ByteArray) (h : Row w 0 hi 1 A n c (l.flatMap strC)) (hh : hi ≤ w.heap.size) (k : Nat) (hk : k < n) (q : ByteArray) (g gw : Nat) (hY : Below w.heap.size w Y) (hb : Blk Y g 9 #[.string q]) (hw : Blk Y gw 9 #[.string q]) :
    Calls Tryz.prog 46 #[.slice A k c, .func (.func 47) #[] #[.pointer (some ⟨g, 0, none⟩)], .slice (some ⟨gw, 0, none⟩) 1 1] Y (Ret Y (.int .i64 (namedV [q] ((l.take k).any fun y => bEq y q)))) := by
  have hln : l.length = n := by have := h.1; rw [flatN_len (f := strC) (s := 1) (fun _ => rfl)] at this; omega
  refine named_str Y hi A k c (l.take k) (row_take (s := 1) (fun _ => rfl) (h.keep fun b o hb => hY.cell (p := ⟨b, o, none⟩) (Nat.lt_of_lt_of_le hb hh)) (by omega)) (Nat.le_trans hh hY.size) 47 _ _ (tells_str hb _) Y.heap.size (some ⟨gw, 0, none⟩) 1 1 [q] ?_ (Nat.le_refl _)
  exact (Row.mono (row_blk (n := 1) (c := 1) (size := 1) hw rfl (Nat.le_refl _) (by decide)) (Nat.zero_le _) hw.lt)
set_option maxRecDepth 20000 in
set_option maxHeartbeats 1600000 in
theorem one_str (w X : World) (hi : Nat) (A : Option Addr) (n c : Nat) (l : List ByteArray) (h : Row w 0 hi 1 A n c (l.flatMap strC)) (hh : hi ≤ w.heap.size) (gl : Nat) (nm : ByteArray) (v1 v3 v4 v5 v6 v7 : Value) (hg : Blk w gl 29 #[.string nm, v1, .slice A n c, v3, v4, v5, v6, v7]) (hX : Below w.heap.size w X) (k : Nat) (q : ByteArray) (hq : l[k]? = some q) :
    Calls Tryz.prog 45 #[.int .i64 k, Value.string q, .pointer (some ⟨gl, 0, none⟩)] X (Ends X (useO nm l k q)) := by
  have hnc := h.2.1
  have hc := h.2.2.1
  have hln : l.length = n := by have := h.1; rw [flatN_len (f := strC) (s := 1) (fun _ => rfl)] at this; omega
  have hk : k < n := by rw [← hln]; exact (List.getElem?_eq_some_iff.1 hq).1
  unfold maxLen at hc
  obtain ⟨b, o, rfl, _⟩ := h.at_ (by omega)
  have hkc : k ≤ c := by omega
  have HX0 : Hid (Below w.heap.size w (X.alloc (.cells #[.string q] 9))) := Lib.hid (below_more hX _)
  have HN : Hid (∀ Y gw, Below w.heap.size w Y → Blk Y X.heap.size 9 #[.string q] → Blk Y gw 9 #[.string q] → Calls Tryz.prog 46 #[.slice (some ⟨b, o, none⟩) k c, .func (.func 47) #[] #[.pointer (some ⟨X.heap.size, 0, none⟩)], .slice (some ⟨gw, 0, none⟩) 1 1] Y (Ret Y (.int .i64 (namedV [q] ((l.take k).any fun y => bEq y q))))) :=
    Lib.hid fun Y gw hY hb hw => ask_str w Y hi _ n c l h hh k hk q X.heap.size gw hY hb hw
  unfold useO Ends
  simp only
  generalize namedV _ _ = e at HN
  have HSo : Hid (∀ Y : World, Below X.heap.size X Y → Blk Y X.heap.size 9 #[.string q] → (Y.cell? ⟨gl, 2, none⟩ = some (.slice (some ⟨b, o, none⟩) n c) ∧ Y.cell? ⟨X.heap.size, 0, none⟩ = some (.string q))) := Lib.hid fun Y hY hb => ⟨(((hg.after hX).after hY).cell 2).trans rfl, (hb.cell 0).trans rfl⟩
  have HE1 : Hid (∀ Y Y1 : World, Below X.heap.size X Y → Blk Y X.heap.size 9 #[.string q] → Below Y.heap.size Y Y1 → Below X.heap.size X Y1 ∧ Blk Y1 X.heap.size 9 #[.string q] ∧ (Y1.cell? ⟨gl, 2, none⟩ = some (.slice (some ⟨b, o, none⟩) n c) ∧ Y1.cell? ⟨X.heap.size, 0, none⟩ = some (.string q))) := Lib.hid fun Y Y1 hY hb h1 =>
    have h2 := hY.trans (h1.mono hY.size)
    ⟨h2, hb.after h1, HSo.out Y1 h2 (hb.after h1)⟩
  clear h hq hln
  have hmf : ∀ (fn : Fn) (first cap : Array Value) (w : World), (Instr.makeFunc fn first cap).run Tryz.prog w = .ok (.func fn first cap) w := fun _ _ _ _ => rfl
  go_enter Tryz.func45, Tryz.ntmps45
  go_upto_region 1 with (fail)
  go_region_held3 (fun Y : World => Y.cell? ⟨gl, 2, none⟩ = some (.slice (some ⟨b, o, none⟩) n c) ∧ Y.cell? ⟨X.heap.size, 0, none⟩ = some (.string q)) (first | exact HY1.out.2.2 | exact HSo.out _ (by (repeat (first | exact Below.refl _ _ | refine below_more ?_ _ | refine below_drew ?_ | refine below_drewN ?_ _))) (by (repeat (first | exact Blk.new _ _ _ | refine Blk.alloc ?_ _ | refine Blk.drew ?_ | refine Blk.drewN ?_ _)))) ((go_at_call 46; (with_reducible refine (HN.out _ _ (by (repeat (first | exact HX0.out | refine below_more ?_ _ | refine below_drew ?_ | refine below_drewN ?_ _))) (by (repeat (first | exact Blk.new _ _ _ | refine Blk.alloc ?_ _ | refine Blk.drew ?_ | refine Blk.drewN ?_ _))) (by (repeat (first | exact Blk.new' (by first | rfl | (simp; done)) | refine Blk.drew ?_ | refine Blk.drewN ?_ _)))).mono ?_); rintro e1 Y1 ⟨rfl, hb1⟩; have HY1 := Lib.hid (HE1.out _ _ (by (repeat (first | exact Below.refl _ _ | refine below_more ?_ _ | refine below_drew ?_ | refine below_drewN ?_ _))) (by (repeat (first | exact Blk.new _ _ _ | refine Blk.alloc ?_ _ | refine Blk.drew ?_ | refine Blk.drewN ?_ _))) hb1); clear hb1))
  all_goals (
    by_cases he : e = 0
    · subst he
      have y1 := ((hg.after (hX.trans (HY1.out.1.mono hX.size))).cell 0).trans (show _ = some (.string nm) from rfl)
      have y2 := (HY1.out.2.1.cell 0).trans (show _ = some (.string q) from rfl)
      cases hbe : bEq q nm with
      | true =>
        have ht : (q.toList == nm.toList) = true := hbe
        go_wp2_with fail
        go_ret
        exact ret_i (by first | rfl | (simp [hbe]; done)) rfl HY1.out.1
      | false =>
        have ht : (q.toList == nm.toList) = false := hbe
        go_wp2_with fail
        go_ret
        exact ret_i (by first | rfl | (simp [hbe]; done)) rfl HY1.out.1
    · have d1 : (e == 0) = false := beq_eq_false_iff_ne.2 he
      go_wp2_with fail
      go_ret
      exact ret_i (by first | rfl | (rw [if_neg he]; done) | (simp [he]; done)) rfl HY1.out.1)
set_option maxHeartbeats 800000 in
theorem like_ru (X : World) (x q : RuleD) (g : Nat) (h0 : X.cell? ⟨g, 0, none⟩ = some (.string q.con)) (h1 : X.cell? ⟨g, 1, none⟩ = some (.string q.name)) (h2 : X.cell? ⟨g, 2, none⟩ = some (.bool q.scope)) (hg : g < X.heap.size) :
    Calls Tryz.prog 58 #[.agg #[.string x.con, .string x.name, .bool x.scope, .string x.expr], .pointer (some ⟨g, 0, none⟩)] X (Ret X (.bool (bEq x.con q.con && bEq x.name q.name && x.scope == q.scope))) := by
  unfold bEq
  have h0' := past_cell h0 hg
  have h1' := past_cell h1 hg
  have h2' := past_cell h2 hg
  cases d1 : (x.con.toList == q.con.toList) <;> cases d2 : (x.name.toList == q.name.toList)
  all_goals go_enter Tryz.func58, Tryz.ntmps58
  all_goals go_wp2
  all_goals go_ret
  all_goals exact ret_b (by first | rfl | (simp [d1, d2]; done)) rfl (by (repeat (first | exact Below.refl _ _ | refine below_more ?_ _ | refine Below.setCell' ?_ (Nat.le_refl _) _ | refine below_drew ?_ | refine below_drewN ?_ _)))
theorem tells_ru {w : World} {q : RuleD} {g : Nat} (h : Blk w g 49 #[.string q.con, .string q.name, .bool q.scope, .string q.expr]) (l : List RuleD) : Tells w 58 #[.pointer (some ⟨g, 0, none⟩)] (fun q : RuleD => .agg #[.string q.con, .string q.name, .bool q.scope, .string q.expr]) l (fun y => bEq y.con q.con && bEq y.name q.name && y.scope == q.scope) :=
  ⟨enters_of Tryz.func58 (by kernel_rfl) rfl, fun X hX x _ => like_ru X x q g (((h.after hX).cell 0).trans rfl) (((h.after hX).cell 1).trans rfl) (((h.after hX).cell 2).trans rfl) (h.after hX).lt⟩
theorem ask_ru (w Y : World) (hi : Nat) (A : Option Addr) (n c : Nat) (l : List RuleD) (h : Row w 0 hi 4 A n c (l.flatMap ruC)) (hh : hi ≤ w.heap.size) (k : Nat) (hk : k < n) (q : RuleD) (g gw : Nat) (hY : Below w.heap.size w Y) (hb : Blk Y g 49 #[.string q.con, .string q.name, .bool q.scope, .string q.expr]) (hw : Blk Y gw 9 #[.string q.con, .string q.name]) :
    Calls Tryz.prog 59 #[.slice A k c, .func (.func 58) #[] #[.pointer (some ⟨g, 0, none⟩)], .slice (some ⟨gw, 0, none⟩) 2 2] Y (Ret Y (.int .i64 (namedV [q.con, q.name] ((l.take k).any fun y => bEq y.con q.con && bEq y.name q.name && y.scope == q.scope)))) := by
  have hln : l.length = n := by have := h.1; rw [flatN_len (f := ruC) (s := 4) (fun _ => rfl)] at this; omega
  refine named_ru Y hi A k c (l.take k) (row_take (s := 4) (fun _ => rfl) (h.keep fun b o hb => hY.cell (p := ⟨b, o, none⟩) (Nat.lt_of_lt_of_le hb hh)) (by omega)) (Nat.le_trans hh hY.size) 58 _ _ (tells_ru hb _) Y.heap.size (some ⟨gw, 0, none⟩) 2 2 [q.con, q.name] ?_ (Nat.le_refl _)
  exact (Row.mono (row_blk (n := 2) (c := 2) (size := 1) hw rfl (Nat.le_refl _) (by decide)) (Nat.zero_le _) hw.lt)
set_option maxRecDepth 20000 in
set_option maxHeartbeats 1600000 in
theorem one_ru (w X : World) (hi : Nat) (A : Option Addr) (n c : Nat) (l : List RuleD) (h : Row w 0 hi 4 A n c (l.flatMap ruC)) (hh : hi ≤ w.heap.size) (gl : Nat) (hg : Blk w gl 24 #[.slice A n c]) (hX : Below w.heap.size w X) (k : Nat) (q : RuleD) (hq : l[k]? = some q) :
    Calls Tryz.prog 57 #[.int .i64 k, .agg #[.string q.con, .string q.name, .bool q.scope, .string q.expr], .pointer (some ⟨gl, 0, none⟩)] X (Ends X (ruleO l k q)) := by
  have hnc := h.2.1
  have hc := h.2.2.1
  have hln : l.length = n := by have := h.1; rw [flatN_len (f := ruC) (s := 4) (fun _ => rfl)] at this; omega
  have hk : k < n := by rw [← hln]; exact (List.getElem?_eq_some_iff.1 hq).1
  unfold maxLen at hc
  obtain ⟨b, o, rfl, _⟩ := h.at_ (by omega)
  have hkc : k ≤ c := by omega
  have HX0 : Hid (Below w.heap.size w (X.alloc (.cells #[.string q.con, .string q.name, .bool q.scope, .string q.expr] 49))) := Lib.hid (below_more hX _)
  have HN : Hid (∀ Y gw, Below w.heap.size w Y → Blk Y X.heap.size 49 #[.string q.con, .string q.name, .bool q.scope, .string q.expr] → Blk Y gw 9 #[.string q.con, .string q.name] → Calls Tryz.prog 59 #[.slice (some ⟨b, o, none⟩) k c, .func (.func 58) #[] #[.pointer (some ⟨X.heap.size, 0, none⟩)], .slice (some ⟨gw, 0, none⟩) 2 2] Y (Ret Y (.int .i64 (namedV [q.con, q.name] ((l.take k).any fun y => bEq y.con q.con && bEq y.name q.name && y.scope == q.scope))))) :=
    Lib.hid fun Y gw hY hb hw => ask_ru w Y hi _ n c l h hh k hk q X.heap.size gw hY hb hw
  unfold ruleO Ends
  simp only
  generalize namedV _ _ = e at HN
  have HSo : Hid (∀ Y : World, Below X.heap.size X Y → Blk Y X.heap.size 49 #[.string q.con, .string q.name, .bool q.scope, .string q.expr] → (Y.cell? ⟨gl, 0, none⟩ = some (.slice (some ⟨b, o, none⟩) n c) ∧ Y.cell? ⟨X.heap.size, 0, none⟩ = some (.string q.con) ∧ Y.cell? ⟨X.heap.size, 1, none⟩ = some (.string q.name))) := Lib.hid fun Y hY hb => ⟨(((hg.after hX).after hY).cell 0).trans rfl, (hb.cell 0).trans rfl, (hb.cell 1).trans rfl⟩
  have HE1 : Hid (∀ Y Y1 : World, Below X.heap.size X Y → Blk Y X.heap.size 49 #[.string q.con, .string q.name, .bool q.scope, .string q.expr] → Below Y.heap.size Y Y1 → Below X.heap.size X Y1 ∧ Blk Y1 X.heap.size 49 #[.string q.con, .string q.name, .bool q.scope, .string q.expr] ∧ (Y1.cell? ⟨gl, 0, none⟩ = some (.slice (some ⟨b, o, none⟩) n c) ∧ Y1.cell? ⟨X.heap.size, 0, none⟩ = some (.string q.con) ∧ Y1.cell? ⟨X.heap.size, 1, none⟩ = some (.string q.name))) := Lib.hid fun Y Y1 hY hb h1 =>
    have h2 := hY.trans (h1.mono hY.size)
    ⟨h2, hb.after h1, HSo.out Y1 h2 (hb.after h1)⟩
  clear h hq hln
  have hmf : ∀ (fn : Fn) (first cap : Array Value) (w : World), (Instr.makeFunc fn first cap).run Tryz.prog w = .ok (.func fn first cap) w := fun _ _ _ _ => rfl
  go_enter Tryz.func57, Tryz.ntmps57
  go_upto_region 2 with (fail)
  go_region_held3 (fun Y : World => Y.cell? ⟨gl, 0, none⟩ = some (.slice (some ⟨b, o, none⟩) n c) ∧ Y.cell? ⟨X.heap.size, 0, none⟩ = some (.string q.con) ∧ Y.cell? ⟨X.heap.size, 1, none⟩ = some (.string q.name)) (first | exact HY1.out.2.2 | exact HSo.out _ (by (repeat (first | exact Below.refl _ _ | refine below_more ?_ _ | refine below_drew ?_ | refine below_drewN ?_ _))) (by (repeat (first | exact Blk.new _ _ _ | refine Blk.alloc ?_ _ | refine Blk.drew ?_ | refine Blk.drewN ?_ _)))) ((go_at_call 59; (with_reducible refine (HN.out _ _ (by (repeat (first | exact HX0.out | refine below_more ?_ _ | refine below_drew ?_ | refine below_drewN ?_ _))) (by (repeat (first | exact Blk.new _ _ _ | refine Blk.alloc ?_ _ | refine Blk.drew ?_ | refine Blk.drewN ?_ _))) (by (repeat (first | exact Blk.new' (by first | rfl | (simp; done)) | refine Blk.drew ?_ | refine Blk.drewN ?_ _)))).mono ?_); rintro e1 Y1 ⟨rfl, hb1⟩; have HY1 := Lib.hid (HE1.out _ _ (by (repeat (first | exact Below.refl _ _ | refine below_more ?_ _ | refine below_drew ?_ | refine below_drewN ?_ _))) (by (repeat (first | exact Blk.new _ _ _ | refine Blk.alloc ?_ _ | refine Blk.drew ?_ | refine Blk.drewN ?_ _))) hb1); clear hb1))
  all_goals (
    by_cases he : e = 0
    · subst he
      have y1 := (HY1.out.2.1.cell 3).trans (show _ = some (.string q.expr) from rfl)
      by_cases ht : 4096 < q.expr.size
      · have d2 : decide ((4096 : Int) < (q.expr.size : Int)) = true := by simp; omega
        go_wp2_with fail
        go_ret
        exact ret_i (by first | rfl | (simp [ht]; done)) rfl HY1.out.1
      · have d2 : decide ((4096 : Int) < (q.expr.size : Int)) = false := by simp; omega
        go_wp2_with fail
        go_ret
        exact ret_i (by first | rfl | (simp [ht]; done)) rfl HY1.out.1
    · have d1 : (e == 0) = false := beq_eq_false_iff_ne.2 he
      go_wp2_with fail
      go_ret
      exact ret_i (by first | rfl | (rw [if_neg he]; done) | (simp [he]; done)) rfl HY1.out.1)
end Go.Proofs.YtilemieknfdjnaaGreat

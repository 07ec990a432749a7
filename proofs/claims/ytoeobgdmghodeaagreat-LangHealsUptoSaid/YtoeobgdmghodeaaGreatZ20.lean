/-
  WALKS: the law LangHeals.
-/
import Derived.Test.YtoeobgdmghodeaaGreatZ19
import Derived.Deep.RegionHeld3
namespace Go.Proofs.YtoeobgdmghodeaaGreat
open Go Go.RowKit Go.Sort
set_option linter.unusedVariables false
attribute [local go_sem ↓] Go.wp_at_zero Go.wp_at_succ
theorem fit4_of {x : LangM} (h : FitG x) (f : Fit x) : Fit4 x := by
  have := h.n
  exact ⟨by omega, by omega, by omega, by omega, by omega, by omega, h.cs, fun g hg => ⟨(h.qs g hg).1, (h.qs g hg).2, fun p hp => by have := (f.q g hg).1 p hp; omega, fun p hp => by have := (f.q g hg).2 p hp; omega⟩, h.es, h.ts⟩
theorem B2.far2 {w X : World} {t : TypeId} {cs ds : Array Value} {g i : Nat} (h : B2 w t cs ds X) (hg : w.heap.size + 1 < g) (u : Value) : B2 w t cs ds (X.setCell ⟨g, i, none⟩ u) :=
  ⟨h.a.far (p := ⟨g, i, none⟩) (by show _ ≠ g; omega) u, h.b.far (p := ⟨g, i, none⟩) (by show _ ≠ g; omega) u, h.bel.setCell (p := ⟨g, i, none⟩) (by show _ ≤ g; omega) u⟩
/-- appending to a list in own memory, and laying it into its box, leaves own memory of other types -/
structure Stp (Y Y' : World) (T : TypeId) : Prop where
  keep : ∀ {B : Nat} {e : TypeId} {size n : Nat} {v : Value} {xs : List Value}, Y.ownsRow B e size v n xs → e ≠ T → e ≠ 29 → Y'.ownsRow B e size v n xs
theorem con_step {Y Y' : World} {T : TypeId} (s : Stp Y Y' T) {B : Nat} {g : ConD × Leaf} (h : ConOwn Y B g) (h1 : 85 ≠ T) (h2 : 62 ≠ T) (h3 : 87 ≠ T) : ConOwn Y' B g :=
  ⟨h.pn, h.kn, h.rn, s.keep h.p h1 (by decide), s.keep h.k h2 (by decide), s.keep h.r h3 (by decide)⟩
theorem so_step {Y Y' : World} {T : TypeId} (s : Stp Y Y' T) {B : Nat} {S : Sl} {l : List (SideD × Sl)} (h : SO Y B S l) (h1 : 141 ≠ T) (h2 : 3 ≠ T) : SO Y' B S l :=
  ⟨h.n, s.keep h.own h1 (by decide), fun p hp => ⟨(h.leaf p hp).1, s.keep (h.leaf p hp).2 h2 (by decide)⟩⟩
theorem eq_step {Y Y' : World} {T : TypeId} (s : Stp Y Y' T) {B : Nat} {g : EqM} (h : EqOwn Y B g) (h1 : 141 ≠ T) (h2 : 3 ≠ T) : EqOwn Y' B g := ⟨so_step s h.l h1 h2, so_step s h.r h1 h2⟩
theorem row_step {Y Y' : World} {T T' : TypeId} (s : Stp Y Y' T) {B : Nat} {g : RowD × Sl} (h : RowOwn T' Y B g) (h1 : T' ≠ T) (h2 : T' ≠ 29) : RowOwn T' Y' B g := ⟨h.qn, s.keep h.q h1 h2⟩
/-- the boxes and the copy, between the copy and the lengthened list -/
structure HSt (w : World) (x z y : LangM) (gx g10 : Nat) (Y : World) : Prop where
  q : B2 w 29 #[.string x.name, .int .i64 x.ver, .slice x.U.A x.U.n x.U.c, .slice x.C.A x.C.n x.C.c, .slice x.N.A x.N.n x.N.c, .slice x.Q.A x.Q.n x.Q.c, .slice x.E.A x.E.n x.E.c, .slice x.T.A x.T.n x.T.c] #[.string z.name, .int .i64 z.ver, .slice z.U.A z.U.n z.U.c, .slice z.C.A z.C.n z.C.c, .slice z.N.A z.N.n z.N.c, .slice z.Q.A z.Q.n z.Q.c, .slice z.E.A z.E.n z.E.c, .slice z.T.A z.T.n z.T.c] Y
  bx : Blk Y gx 29 #[.string y.name, .int .i64 y.ver, .slice y.U.A y.U.n y.U.c, .slice y.C.A y.C.n y.C.c, .slice y.N.A y.N.n y.N.c, .slice y.Q.A y.Q.n y.Q.c, .slice y.E.A y.E.n y.E.c, .slice y.T.A y.T.n y.T.c]
  bs : Blk Y g10 40 #[.int .i64 2, .int .i64 x.U.n, .int .i64 x.C.n, .int .i64 x.N.n, .int .i64 x.Q.n, .int .i64 x.E.n, .int .i64 x.T.n]
  o : TwinOwn Y (w.heap.size + 2) y
  l : LangIn Y 0 Y.heap.size y
theorem TwinOwn.after {X X' : World} {B : Nat} {y : LangM} (h : TwinOwn X B y) (hb : Below X.heap.size X X') : TwinOwn X' B y := ⟨own_after h.u hb, own_after h.n hb, h.c.after conOK hb, h.q.after eqOK hb, h.e.after edOK hb, h.t.after teOK hb⟩
theorem HSt.after {w : World} {x z y : LangM} {gx g10 : Nat} {Y Y' : World} (h : HSt w x z y gx g10 Y) (hb : Below Y.heap.size Y Y') : HSt w x z y gx g10 Y' := ⟨h.q.after hb, h.bx.after hb, h.bs.after hb, h.o.after hb, langK.mono (langK.below h.l hb) (Nat.le_refl _) hb.size⟩
theorem TwinOwn.lower {X w w' : World} {y : LangM} (h : TwinOwn X (w'.heap.size + 2) y) (hs : w.heap.size ≤ w'.heap.size) : TwinOwn X (w.heap.size + 2) y :=
  ⟨own_mono h.u (by omega), own_mono h.n (by omega), GL.monoB h.c conOK (by omega), GL.monoB h.q eqOK (by omega), GL.monoB h.e edOK (by omega), GL.monoB h.t teOK (by omega)⟩
theorem own_len {X : World} {B size n m : Nat} {e : TypeId} {v : Value} {xs : List Value} (h : X.ownsRow B e size v m xs) (hn : n = m) : X.ownsRow B e size v n xs := by subst hn; exact h
theorem twin_nstr {x y : LangM} {X w : World} {hi : Nat} (hE : langEM x y = true) (hy : LangIn X 0 X.heap.size y) (hx : LangIn w 0 hi x) : y.U.n = x.U.n := by
  have h1 := congrArg (fun k : Cont => k.us.length) (cont_same hE)
  simp only [cont, List.length_map] at h1
  have h2 := hy.un
  have h3 := hx.un
  omega
theorem twin_ncon {x y : LangM} {X w : World} {hi : Nat} (hE : langEM x y = true) (hy : LangIn X 0 X.heap.size y) (hx : LangIn w 0 hi x) : y.C.n = x.C.n := by
  have h1 := congrArg (fun k : Cont => k.cs.length) (cont_same hE)
  simp only [cont, List.length_map] at h1
  have h2 := hy.c.n
  have h3 := hx.c.n
  omega
theorem twin_nru {x y : LangM} {X w : World} {hi : Nat} (hE : langEM x y = true) (hy : LangIn X 0 X.heap.size y) (hx : LangIn w 0 hi x) : y.N.n = x.N.n := by
  have h1 := congrArg (fun k : Cont => k.ru.length) (cont_same hE)
  simp only [cont, List.length_map] at h1
  have h2 := hy.nn
  have h3 := hx.nn
  omega
theorem twin_neq {x y : LangM} {X w : World} {hi : Nat} (hE : langEM x y = true) (hy : LangIn X 0 X.heap.size y) (hx : LangIn w 0 hi x) : y.Q.n = x.Q.n := by
  have h1 := congrArg (fun k : Cont => k.qs.length) (cont_same hE)
  simp only [cont, List.length_map] at h1
  have h2 := hy.q.n
  have h3 := hx.q.n
  omega
theorem twin_ned {x y : LangM} {X w : World} {hi : Nat} (hE : langEM x y = true) (hy : LangIn X 0 X.heap.size y) (hx : LangIn w 0 hi x) : y.E.n = x.E.n := by
  have h1 := congrArg (fun k : Cont => k.es.length) (cont_same hE)
  simp only [cont, List.length_map] at h1
  have h2 := hy.e.n
  have h3 := hx.e.n
  omega
theorem twin_nte {x y : LangM} {X w : World} {hi : Nat} (hE : langEM x y = true) (hy : LangIn X 0 X.heap.size y) (hx : LangIn w 0 hi x) : y.T.n = x.T.n := by
  have h1 := congrArg (fun k : Cont => k.ts.length) (cont_same hE)
  simp only [cont, List.length_map] at h1
  have h2 := hy.t.n
  have h3 := hx.t.n
  omega
theorem cont_str (y : LangM) (S : Sl) (q : ByteArray) : cont ({ y with U := S, us := y.us ++ [q] }) = { cont y with us := (cont y).us ++ [q] } := by
  simp [cont]
theorem fit_str {x y z : LangM} {S : Sl} {q : ByteArray} (hx : Fit x) (hz : Fit z) (hE : langEM x y = true) (hq : q ∈ z.us) : Fit ({ y with U := S, us := y.us ++ [q] }) := by
  rw [fit_iff, cont_str]
  have h1 := (fit_iff x).1 hx
  rw [cont_same hE] at h1
  have h2 := (fit_iff z).1 hz
  exact ⟨h1.q, h1.e, h1.t⟩
theorem at_str {x y : LangM} {S : Sl} {q : ByteArray} {w : World} {hi : Nat} (hv : langF x = none) (hE : langEM x y = true) (hx : LangIn w 0 hi x) : AtElem 1 x.U.n (langF ({ y with U := S, us := y.us ++ [q] })) := by
  rw [langG_eq, cont_str, ← cont_same hE]
  have h0 : langG (cont x) = none := by rw [← langG_eq]; exact hv
  have := heal_use (k := cont x) q h0
  have hl : (cont x).us.length = x.us.length := by simp [cont]
  rw [hl, ← hx.un] at this
  exact this
theorem cont_con (y : LangM) (S : Sl) (q : ConD × Leaf) : cont ({ y with C := S, cs := y.cs ++ [q] }) = { cont y with cs := (cont y).cs ++ [q.1] } := by
  simp [cont]
theorem fit_con {x y z : LangM} {S : Sl} {q : ConD × Leaf} (hx : Fit x) (hz : Fit z) (hE : langEM x y = true) (hq : q ∈ z.cs) : Fit ({ y with C := S, cs := y.cs ++ [q] }) := by
  rw [fit_iff, cont_con]
  have h1 := (fit_iff x).1 hx
  rw [cont_same hE] at h1
  have h2 := (fit_iff z).1 hz
  exact ⟨h1.q, h1.e, h1.t⟩
theorem at_con {x y : LangM} {S : Sl} {q : ConD × Leaf} {w : World} {hi : Nat} (hv : langF x = none) (hE : langEM x y = true) (hx : LangIn w 0 hi x) : AtElem 2 x.C.n (langF ({ y with C := S, cs := y.cs ++ [q] })) := by
  rw [langG_eq, cont_con, ← cont_same hE]
  have h0 : langG (cont x) = none := by rw [← langG_eq]; exact hv
  have := heal_con (k := cont x) q.1 h0
  have hl : (cont x).cs.length = x.cs.length := by simp [cont]
  rw [hl, ← hx.c.n] at this
  exact this
theorem cont_ru (y : LangM) (S : Sl) (q : RuleD) : cont ({ y with N := S, ru := y.ru ++ [q] }) = { cont y with ru := (cont y).ru ++ [q] } := by
  simp [cont]
theorem fit_ru {x y z : LangM} {S : Sl} {q : RuleD} (hx : Fit x) (hz : Fit z) (hE : langEM x y = true) (hq : q ∈ z.ru) : Fit ({ y with N := S, ru := y.ru ++ [q] }) := by
  rw [fit_iff, cont_ru]
  have h1 := (fit_iff x).1 hx
  rw [cont_same hE] at h1
  have h2 := (fit_iff z).1 hz
  exact ⟨h1.q, h1.e, h1.t⟩
theorem at_ru {x y : LangM} {S : Sl} {q : RuleD} {w : World} {hi : Nat} (hv : langF x = none) (hE : langEM x y = true) (hx : LangIn w 0 hi x) : AtElem 3 x.N.n (langF ({ y with N := S, ru := y.ru ++ [q] })) := by
  rw [langG_eq, cont_ru, ← cont_same hE]
  have h0 : langG (cont x) = none := by rw [← langG_eq]; exact hv
  have := heal_ru (k := cont x) q h0
  have hl : (cont x).ru.length = x.ru.length := by simp [cont]
  rw [hl, ← hx.nn] at this
  exact this
theorem cont_eq (y : LangM) (S : Sl) (q : EqM) : cont ({ y with Q := S, qs := y.qs ++ [q] }) = { cont y with qs := (cont y).qs ++ [(eqK' q)] } := by
  simp [cont]
theorem fit_eq {x y z : LangM} {S : Sl} {q : EqM} (hx : Fit x) (hz : Fit z) (hE : langEM x y = true) (hq : q ∈ z.qs) : Fit ({ y with Q := S, qs := y.qs ++ [q] }) := by
  rw [fit_iff, cont_eq]
  have h1 := (fit_iff x).1 hx
  rw [cont_same hE] at h1
  have h2 := (fit_iff z).1 hz
  exact ⟨fun g hg => by
    rcases List.mem_append.1 hg with hg | hg
    · exact h1.q g hg
    · obtain rfl := List.mem_singleton.1 hg
      exact h2.q _ (List.mem_map_of_mem hq), h1.e, h1.t⟩
theorem at_eq {x y : LangM} {S : Sl} {q : EqM} {w : World} {hi : Nat} (hv : langF x = none) (hE : langEM x y = true) (hx : LangIn w 0 hi x) : AtElem 4 x.Q.n (langF ({ y with Q := S, qs := y.qs ++ [q] })) := by
  rw [langG_eq, cont_eq, ← cont_same hE]
  have h0 : langG (cont x) = none := by rw [← langG_eq]; exact hv
  have := heal_eq (k := cont x) (eqK' q) h0
  have hl : (cont x).qs.length = x.qs.length := by simp [cont]
  rw [hl, ← hx.q.n] at this
  exact this
theorem cont_ed (y : LangM) (S : Sl) (q : RowD × Sl) : cont ({ y with E := S, es := y.es ++ [q] }) = { cont y with es := (cont y).es ++ [q.1] } := by
  simp [cont]
theorem fit_ed {x y z : LangM} {S : Sl} {q : RowD × Sl} (hx : Fit x) (hz : Fit z) (hE : langEM x y = true) (hq : q ∈ z.es) : Fit ({ y with E := S, es := y.es ++ [q] }) := by
  rw [fit_iff, cont_ed]
  have h1 := (fit_iff x).1 hx
  rw [cont_same hE] at h1
  have h2 := (fit_iff z).1 hz
  exact ⟨h1.q, fun g hg => by
    rcases List.mem_append.1 hg with hg | hg
    · exact h1.e g hg
    · obtain rfl := List.mem_singleton.1 hg
      exact h2.e _ (List.mem_map_of_mem (f := fun c : RowD × Sl => c.1) hq), h1.t⟩
theorem at_ed {x y : LangM} {S : Sl} {q : RowD × Sl} {w : World} {hi : Nat} (hv : langF x = none) (hE : langEM x y = true) (hx : LangIn w 0 hi x) : AtElem 5 x.E.n (langF ({ y with E := S, es := y.es ++ [q] })) := by
  rw [langG_eq, cont_ed, ← cont_same hE]
  have h0 : langG (cont x) = none := by rw [← langG_eq]; exact hv
  have := heal_ed (k := cont x) q.1 h0
  have hl : (cont x).es.length = x.es.length := by simp [cont]
  rw [hl, ← hx.e.n] at this
  exact this
theorem cont_te (y : LangM) (S : Sl) (q : RowD × Sl) : cont ({ y with T := S, ts := y.ts ++ [q] }) = { cont y with ts := (cont y).ts ++ [q.1] } := by
  simp [cont]
theorem fit_te {x y z : LangM} {S : Sl} {q : RowD × Sl} (hx : Fit x) (hz : Fit z) (hE : langEM x y = true) (hq : q ∈ z.ts) : Fit ({ y with T := S, ts := y.ts ++ [q] }) := by
  rw [fit_iff, cont_te]
  have h1 := (fit_iff x).1 hx
  rw [cont_same hE] at h1
  have h2 := (fit_iff z).1 hz
  exact ⟨h1.q, h1.e, fun g hg => by
    rcases List.mem_append.1 hg with hg | hg
    · exact h1.t g hg
    · obtain rfl := List.mem_singleton.1 hg
      exact h2.t _ (List.mem_map_of_mem (f := fun c : RowD × Sl => c.1) hq)⟩
theorem at_te {x y : LangM} {S : Sl} {q : RowD × Sl} {w : World} {hi : Nat} (hv : langF x = none) (hE : langEM x y = true) (hx : LangIn w 0 hi x) : AtElem 6 x.T.n (langF ({ y with T := S, ts := y.ts ++ [q] })) := by
  rw [langG_eq, cont_te, ← cont_same hE]
  have h0 : langG (cont x) = none := by rw [← langG_eq]; exact hv
  have := heal_te (k := cont x) q.1 h0
  have hl : (cont x).ts.length = x.ts.length := by simp [cont]
  rw [hl, ← hx.t.n] at this
  exact this
theorem mid_of {w : World} {x z y : LangM} {gx g10 : Nat} {Y Y' : World} (h : HSt w x z y gx g10 Y) {T : TypeId} {size n : Nat} {v : Value} {xs : List Value} (ho0 : Y.ownsRow (w.heap.size + 2) T size v n xs) (hT : T ≠ 29) (hg : Y.grownBy Y' v.ownBlock) : B2 w 29 #[.string x.name, .int .i64 x.ver, .slice x.U.A x.U.n x.U.c, .slice x.C.A x.C.n x.C.c, .slice x.N.A x.N.n x.N.c, .slice x.Q.A x.Q.n x.Q.c, .slice x.E.A x.E.n x.E.c, .slice x.T.A x.T.n x.T.c] #[.string z.name, .int .i64 z.ver, .slice z.U.A z.U.n z.U.c, .slice z.C.A z.C.n z.C.c, .slice z.N.A z.N.n z.N.c, .slice z.Q.A z.Q.n z.Q.c, .slice z.E.A z.E.n z.E.c, .slice z.T.A z.T.n z.T.c] Y' ∧ Blk Y' gx 29 #[.string y.name, .int .i64 y.ver, .slice y.U.A y.U.n y.U.c, .slice y.C.A y.C.n y.C.c, .slice y.N.A y.N.n y.N.c, .slice y.Q.A y.Q.n y.Q.c, .slice y.E.A y.E.n y.E.c, .slice y.T.A y.T.n y.T.c] :=
  ⟨h.q.kept (own_mono ho0 (Nat.le_add_right _ _)) hT hg, h.bx.grown hg (fun e => own_blk_ne ho0 h.bx hT e.symm)⟩
/-- behind the lengthened list: y is the copy with it -/
structure HEnd (w : World) (x z y : LangM) (gx g10 : Nat) (Y : World) : Prop where
  q : B2 w 29 #[.string x.name, .int .i64 x.ver, .slice x.U.A x.U.n x.U.c, .slice x.C.A x.C.n x.C.c, .slice x.N.A x.N.n x.N.c, .slice x.Q.A x.Q.n x.Q.c, .slice x.E.A x.E.n x.E.c, .slice x.T.A x.T.n x.T.c] #[.string z.name, .int .i64 z.ver, .slice z.U.A z.U.n z.U.c, .slice z.C.A z.C.n z.C.c, .slice z.N.A z.N.n z.N.c, .slice z.Q.A z.Q.n z.Q.c, .slice z.E.A z.E.n z.E.c, .slice z.T.A z.T.n z.T.c] Y
  bx : Blk Y gx 29 #[.string y.name, .int .i64 y.ver, .slice y.U.A y.U.n y.U.c, .slice y.C.A y.C.n y.C.c, .slice y.N.A y.N.n y.N.c, .slice y.Q.A y.Q.n y.Q.c, .slice y.E.A y.E.n y.E.c, .slice y.T.A y.T.n y.T.c]
  bs : Blk Y g10 40 #[.int .i64 2, .int .i64 x.U.n, .int .i64 x.C.n, .int .i64 x.N.n, .int .i64 x.Q.n, .int .i64 x.E.n, .int .i64 x.T.n]
  l : LangIn Y 0 Y.heap.size y
theorem HEnd.after {w : World} {x z y : LangM} {gx g10 : Nat} {Y Y' : World} (h : HEnd w x z y gx g10 Y) (hb : Below Y.heap.size Y Y') : HEnd w x z y gx g10 Y' := ⟨h.q.after hb, h.bx.after hb, h.bs.after hb, langK.mono (langK.below h.l hb) (Nat.le_refl _) hb.size⟩
section
variable {P : Program} {w : World}
end
set_option maxHeartbeats 800000 in
theorem push_str {w : World} {x z y : LangM} {gx g10 : Nat} {Y Y' : World} (h : HSt w x z y gx g10 Y) (hgx : w.heap.size + 1 < gx) (q : ByteArray) {A' : Option Addr} {c' : Nat} (hown : Y'.ownsRow (w.heap.size + 2) 9 1 (.slice A' (y.U.n + 1) c') (y.U.n + 1) (strCells y.us ++ [.string q])) (hg : Y.grownBy Y' (Value.ownBlock (.slice y.U.A y.U.n y.U.c))) :
    HEnd w x z ({ y with U := ⟨A', y.U.n + 1, c'⟩, us := y.us ++ [q] }) gx g10 (Y'.setCell ⟨gx, 2, none⟩ (.slice A' (y.U.n + 1) c')) := by
  have hn0 := h.l.un
  have ho0 : Y.ownsRow (w.heap.size + 2) 9 1 (.slice y.U.A y.U.n y.U.c) y.U.n (strCells y.us) := by
    exact h.o.u
  have hbx := h.bx.grown hg (fun e => own_blk_ne ho0 h.bx (by decide) e.symm)
  have hbs := h.bs.grown hg (fun e => own_blk_ne ho0 h.bs (by decide) e.symm)
  have hq2 := h.q.kept (own_mono ho0 (Nat.le_add_right _ _)) (by decide) hg
  have hbx2 := hbx.set_ 2 (.slice A' (y.U.n + 1) c')
  have hbs2 := hbs.far (p := ⟨gx, 2, none⟩) (fun e => (hbx.ne_ hbs (by decide)) e.symm) (.slice A' (y.U.n + 1) c')
  have hq3 := B2.far2 (i := 2) hq2 hgx (.slice A' (y.U.n + 1) c')
  have s : Stp Y (Y'.setCell ⟨gx, 2, none⟩ (.slice A' (y.U.n + 1) c')) 9 := ⟨fun h0 h1 h2 => own_other (own_kept h0 ho0 h1 hg) hbx h2 2 _⟩
  have hnew := own_other hown hbx (by decide) 2 (.slice A' (y.U.n + 1) c')
  refine ⟨hq3, by simpa using hbx2, hbs2, ?_⟩
  have hbel := hq3.bel
  refine ⟨?_, ?_, ?_, ?_, ?_, ?_, ?_, ?_⟩
  · show y.U.n + 1 = (y.us ++ [q]).length
    rw [List.length_append, ← hn0]; rfl
  · have := Row.mono (own_row hnew) (Nat.zero_le _) (Nat.le_refl _)
    show Row _ 0 _ 1 A' (y.U.n + 1) c' (strCells (y.us ++ [q]))
    rw [show strCells (y.us ++ [q]) = strCells y.us ++ [.string q] from by simp [strCells]]
    exact this
  · exact GRow.mono (GL.toG ⟨s.keep h.o.c.own (by decide) (by decide), fun g hg => con_step s (h.o.c.leaf g hg) (by decide) (by decide) (by decide)⟩ h.l.c.n (fun _ hg => hg.in_)) conK (Nat.zero_le _) (Nat.le_refl _)
  · exact h.l.nn
  · exact Row.mono (own_row (by have := s.keep h.o.n (by decide) (by decide); exact this)) (Nat.zero_le _) (Nat.le_refl _)
  · exact GRow.mono (GL.toG ⟨s.keep h.o.q.own (by decide) (by decide), fun g hg => eq_step s (h.o.q.leaf g hg) (by decide) (by decide)⟩ h.l.q.n (fun _ hg => hg.in_)) eqK (Nat.zero_le _) (Nat.le_refl _)
  · exact GRow.mono (GL.toG ⟨s.keep h.o.e.own (by decide) (by decide), fun g hg => row_step s (h.o.e.leaf g hg) (by decide) (by decide)⟩ h.l.e.n (fun _ hg => hg.in_)) rowK (Nat.zero_le _) (Nat.le_refl _)
  · exact GRow.mono (GL.toG ⟨s.keep h.o.t.own (by decide) (by decide), fun g hg => row_step s (h.o.t.leaf g hg) (by decide) (by decide)⟩ h.l.t.n (fun _ hg => hg.in_)) rowK (Nat.zero_le _) (Nat.le_refl _)
set_option maxHeartbeats 800000 in
theorem push_con {w : World} {x z y : LangM} {gx g10 : Nat} {Y Y' : World} (h : HSt w x z y gx g10 Y) (hgx : w.heap.size + 1 < gx) (q : ConD × Leaf) (hq : ConIn w 0 w.heap.size q) {A' : Option Addr} {c' : Nat} (hown : Y'.ownsRow (w.heap.size + 2) 47 6 (.slice A' (y.C.n + 1) c') (y.C.n + 1) (y.cs.flatMap conC ++ conC q)) (hg : Y.grownBy Y' (Value.ownBlock (.slice y.C.A y.C.n y.C.c))) :
    HEnd w x z ({ y with C := ⟨A', y.C.n + 1, c'⟩, cs := y.cs ++ [q] }) gx g10 (Y'.setCell ⟨gx, 3, none⟩ (.slice A' (y.C.n + 1) c')) := by
  have hn0 := h.l.c.n
  have ho0 : Y.ownsRow (w.heap.size + 2) 47 6 (.slice y.C.A y.C.n y.C.c) y.C.n (y.cs.flatMap conC) := by
    have := h.o.c.own; rw [← hn0] at this; exact this
  have hbx := h.bx.grown hg (fun e => own_blk_ne ho0 h.bx (by decide) e.symm)
  have hbs := h.bs.grown hg (fun e => own_blk_ne ho0 h.bs (by decide) e.symm)
  have hq2 := h.q.kept (own_mono ho0 (Nat.le_add_right _ _)) (by decide) hg
  have hbx2 := hbx.set_ 3 (.slice A' (y.C.n + 1) c')
  have hbs2 := hbs.far (p := ⟨gx, 3, none⟩) (fun e => (hbx.ne_ hbs (by decide)) e.symm) (.slice A' (y.C.n + 1) c')
  have hq3 := B2.far2 (i := 3) hq2 hgx (.slice A' (y.C.n + 1) c')
  have s : Stp Y (Y'.setCell ⟨gx, 3, none⟩ (.slice A' (y.C.n + 1) c')) 47 := ⟨fun h0 h1 h2 => own_other (own_kept h0 ho0 h1 hg) hbx h2 3 _⟩
  have hnew := own_other hown hbx (by decide) 3 (.slice A' (y.C.n + 1) c')
  refine ⟨hq3, by simpa using hbx2, hbs2, ?_⟩
  have hbel := hq3.bel
  refine ⟨?_, ?_, ?_, ?_, ?_, ?_, ?_, ?_⟩
  · exact h.l.un
  · exact Row.mono (own_row (by have := s.keep h.o.u (by decide) (by decide); exact this)) (Nat.zero_le _) (Nat.le_refl _)
  · refine ⟨?_, ?_, fun g hg => ?_⟩
    · show y.C.n + 1 = (y.cs ++ [q]).length
      rw [List.length_append, ← hn0]; rfl
    · have := Row.mono (own_row hnew) (Nat.zero_le _) (Nat.le_refl _)
      show Row _ 0 _ 6 A' (y.C.n + 1) c' ((y.cs ++ [q]).flatMap conC)
      rw [List.flatMap_append, List.flatMap_singleton]
      exact this
    · rcases List.mem_append.1 hg with hg | hg
      · exact conK.mono ((fun g hg => con_step s (h.o.c.leaf g hg) (by decide) (by decide) (by decide)) g hg).in_ (Nat.zero_le _) (Nat.le_refl _)
      · obtain rfl := List.mem_singleton.1 hg
        exact conK.mono (conK.below hq hbel) (Nat.le_refl _) hbel.size
  · exact h.l.nn
  · exact Row.mono (own_row (by have := s.keep h.o.n (by decide) (by decide); exact this)) (Nat.zero_le _) (Nat.le_refl _)
  · exact GRow.mono (GL.toG ⟨s.keep h.o.q.own (by decide) (by decide), fun g hg => eq_step s (h.o.q.leaf g hg) (by decide) (by decide)⟩ h.l.q.n (fun _ hg => hg.in_)) eqK (Nat.zero_le _) (Nat.le_refl _)
  · exact GRow.mono (GL.toG ⟨s.keep h.o.e.own (by decide) (by decide), fun g hg => row_step s (h.o.e.leaf g hg) (by decide) (by decide)⟩ h.l.e.n (fun _ hg => hg.in_)) rowK (Nat.zero_le _) (Nat.le_refl _)
  · exact GRow.mono (GL.toG ⟨s.keep h.o.t.own (by decide) (by decide), fun g hg => row_step s (h.o.t.leaf g hg) (by decide) (by decide)⟩ h.l.t.n (fun _ hg => hg.in_)) rowK (Nat.zero_le _) (Nat.le_refl _)
set_option maxHeartbeats 800000 in
theorem push_ru {w : World} {x z y : LangM} {gx g10 : Nat} {Y Y' : World} (h : HSt w x z y gx g10 Y) (hgx : w.heap.size + 1 < gx) (q : RuleD) {A' : Option Addr} {c' : Nat} (hown : Y'.ownsRow (w.heap.size + 2) 49 4 (.slice A' (y.N.n + 1) c') (y.N.n + 1) (ruCells y.ru ++ ruC q)) (hg : Y.grownBy Y' (Value.ownBlock (.slice y.N.A y.N.n y.N.c))) :
    HEnd w x z ({ y with N := ⟨A', y.N.n + 1, c'⟩, ru := y.ru ++ [q] }) gx g10 (Y'.setCell ⟨gx, 4, none⟩ (.slice A' (y.N.n + 1) c')) := by
  have hn0 := h.l.nn
  have ho0 : Y.ownsRow (w.heap.size + 2) 49 4 (.slice y.N.A y.N.n y.N.c) y.N.n (ruCells y.ru) := by
    exact h.o.n
  have hbx := h.bx.grown hg (fun e => own_blk_ne ho0 h.bx (by decide) e.symm)
  have hbs := h.bs.grown hg (fun e => own_blk_ne ho0 h.bs (by decide) e.symm)
  have hq2 := h.q.kept (own_mono ho0 (Nat.le_add_right _ _)) (by decide) hg
  have hbx2 := hbx.set_ 4 (.slice A' (y.N.n + 1) c')
  have hbs2 := hbs.far (p := ⟨gx, 4, none⟩) (fun e => (hbx.ne_ hbs (by decide)) e.symm) (.slice A' (y.N.n + 1) c')
  have hq3 := B2.far2 (i := 4) hq2 hgx (.slice A' (y.N.n + 1) c')
  have s : Stp Y (Y'.setCell ⟨gx, 4, none⟩ (.slice A' (y.N.n + 1) c')) 49 := ⟨fun h0 h1 h2 => own_other (own_kept h0 ho0 h1 hg) hbx h2 4 _⟩
  have hnew := own_other hown hbx (by decide) 4 (.slice A' (y.N.n + 1) c')
  refine ⟨hq3, by simpa using hbx2, hbs2, ?_⟩
  have hbel := hq3.bel
  refine ⟨?_, ?_, ?_, ?_, ?_, ?_, ?_, ?_⟩
  · exact h.l.un
  · exact Row.mono (own_row (by have := s.keep h.o.u (by decide) (by decide); exact this)) (Nat.zero_le _) (Nat.le_refl _)
  · exact GRow.mono (GL.toG ⟨s.keep h.o.c.own (by decide) (by decide), fun g hg => con_step s (h.o.c.leaf g hg) (by decide) (by decide) (by decide)⟩ h.l.c.n (fun _ hg => hg.in_)) conK (Nat.zero_le _) (Nat.le_refl _)
  · show y.N.n + 1 = (y.ru ++ [q]).length
    rw [List.length_append, ← hn0]; rfl
  · have := Row.mono (own_row hnew) (Nat.zero_le _) (Nat.le_refl _)
    show Row _ 0 _ 4 A' (y.N.n + 1) c' (ruCells (y.ru ++ [q]))
    rw [show ruCells (y.ru ++ [q]) = ruCells y.ru ++ ruC q from by simp [ruCells]]
    exact this
  · exact GRow.mono (GL.toG ⟨s.keep h.o.q.own (by decide) (by decide), fun g hg => eq_step s (h.o.q.leaf g hg) (by decide) (by decide)⟩ h.l.q.n (fun _ hg => hg.in_)) eqK (Nat.zero_le _) (Nat.le_refl _)
  · exact GRow.mono (GL.toG ⟨s.keep h.o.e.own (by decide) (by decide), fun g hg => row_step s (h.o.e.leaf g hg) (by decide) (by decide)⟩ h.l.e.n (fun _ hg => hg.in_)) rowK (Nat.zero_le _) (Nat.le_refl _)
  · exact GRow.mono (GL.toG ⟨s.keep h.o.t.own (by decide) (by decide), fun g hg => row_step s (h.o.t.leaf g hg) (by decide) (by decide)⟩ h.l.t.n (fun _ hg => hg.in_)) rowK (Nat.zero_le _) (Nat.le_refl _)
set_option maxHeartbeats 800000 in
theorem push_eq {w : World} {x z y : LangM} {gx g10 : Nat} {Y Y' : World} (h : HSt w x z y gx g10 Y) (hgx : w.heap.size + 1 < gx) (q : EqM) (hq : EqIn w 0 w.heap.size q) {A' : Option Addr} {c' : Nat} (hown : Y'.ownsRow (w.heap.size + 2) 52 3 (.slice A' (y.Q.n + 1) c') (y.Q.n + 1) (y.qs.flatMap eqC ++ eqC q)) (hg : Y.grownBy Y' (Value.ownBlock (.slice y.Q.A y.Q.n y.Q.c))) :
    HEnd w x z ({ y with Q := ⟨A', y.Q.n + 1, c'⟩, qs := y.qs ++ [q] }) gx g10 (Y'.setCell ⟨gx, 5, none⟩ (.slice A' (y.Q.n + 1) c')) := by
  have hn0 := h.l.q.n
  have ho0 : Y.ownsRow (w.heap.size + 2) 52 3 (.slice y.Q.A y.Q.n y.Q.c) y.Q.n (y.qs.flatMap eqC) := by
    have := h.o.q.own; rw [← hn0] at this; exact this
  have hbx := h.bx.grown hg (fun e => own_blk_ne ho0 h.bx (by decide) e.symm)
  have hbs := h.bs.grown hg (fun e => own_blk_ne ho0 h.bs (by decide) e.symm)
  have hq2 := h.q.kept (own_mono ho0 (Nat.le_add_right _ _)) (by decide) hg
  have hbx2 := hbx.set_ 5 (.slice A' (y.Q.n + 1) c')
  have hbs2 := hbs.far (p := ⟨gx, 5, none⟩) (fun e => (hbx.ne_ hbs (by decide)) e.symm) (.slice A' (y.Q.n + 1) c')
  have hq3 := B2.far2 (i := 5) hq2 hgx (.slice A' (y.Q.n + 1) c')
  have s : Stp Y (Y'.setCell ⟨gx, 5, none⟩ (.slice A' (y.Q.n + 1) c')) 52 := ⟨fun h0 h1 h2 => own_other (own_kept h0 ho0 h1 hg) hbx h2 5 _⟩
  have hnew := own_other hown hbx (by decide) 5 (.slice A' (y.Q.n + 1) c')
  refine ⟨hq3, by simpa using hbx2, hbs2, ?_⟩
  have hbel := hq3.bel
  refine ⟨?_, ?_, ?_, ?_, ?_, ?_, ?_, ?_⟩
  · exact h.l.un
  · exact Row.mono (own_row (by have := s.keep h.o.u (by decide) (by decide); exact this)) (Nat.zero_le _) (Nat.le_refl _)
  · exact GRow.mono (GL.toG ⟨s.keep h.o.c.own (by decide) (by decide), fun g hg => con_step s (h.o.c.leaf g hg) (by decide) (by decide) (by decide)⟩ h.l.c.n (fun _ hg => hg.in_)) conK (Nat.zero_le _) (Nat.le_refl _)
  · exact h.l.nn
  · exact Row.mono (own_row (by have := s.keep h.o.n (by decide) (by decide); exact this)) (Nat.zero_le _) (Nat.le_refl _)
  · refine ⟨?_, ?_, fun g hg => ?_⟩
    · show y.Q.n + 1 = (y.qs ++ [q]).length
      rw [List.length_append, ← hn0]; rfl
    · have := Row.mono (own_row hnew) (Nat.zero_le _) (Nat.le_refl _)
      show Row _ 0 _ 3 A' (y.Q.n + 1) c' ((y.qs ++ [q]).flatMap eqC)
      rw [List.flatMap_append, List.flatMap_singleton]
      exact this
    · rcases List.mem_append.1 hg with hg | hg
      · exact eqK.mono ((fun g hg => eq_step s (h.o.q.leaf g hg) (by decide) (by decide)) g hg).in_ (Nat.zero_le _) (Nat.le_refl _)
      · obtain rfl := List.mem_singleton.1 hg
        exact eqK.mono (eqK.below hq hbel) (Nat.le_refl _) hbel.size
  · exact GRow.mono (GL.toG ⟨s.keep h.o.e.own (by decide) (by decide), fun g hg => row_step s (h.o.e.leaf g hg) (by decide) (by decide)⟩ h.l.e.n (fun _ hg => hg.in_)) rowK (Nat.zero_le _) (Nat.le_refl _)
  · exact GRow.mono (GL.toG ⟨s.keep h.o.t.own (by decide) (by decide), fun g hg => row_step s (h.o.t.leaf g hg) (by decide) (by decide)⟩ h.l.t.n (fun _ hg => hg.in_)) rowK (Nat.zero_le _) (Nat.le_refl _)
set_option maxHeartbeats 800000 in
theorem push_ed {w : World} {x z y : LangM} {gx g10 : Nat} {Y Y' : World} (h : HSt w x z y gx g10 Y) (hgx : w.heap.size + 1 < gx) (q : RowD × Sl) (hq : RowIn w 0 w.heap.size q) {A' : Option Addr} {c' : Nat} (hown : Y'.ownsRow (w.heap.size + 2) 55 2 (.slice A' (y.E.n + 1) c') (y.E.n + 1) (y.es.flatMap rowC ++ rowC q)) (hg : Y.grownBy Y' (Value.ownBlock (.slice y.E.A y.E.n y.E.c))) :
    HEnd w x z ({ y with E := ⟨A', y.E.n + 1, c'⟩, es := y.es ++ [q] }) gx g10 (Y'.setCell ⟨gx, 6, none⟩ (.slice A' (y.E.n + 1) c')) := by
  have hn0 := h.l.e.n
  have ho0 : Y.ownsRow (w.heap.size + 2) 55 2 (.slice y.E.A y.E.n y.E.c) y.E.n (y.es.flatMap rowC) := by
    have := h.o.e.own; rw [← hn0] at this; exact this
  have hbx := h.bx.grown hg (fun e => own_blk_ne ho0 h.bx (by decide) e.symm)
  have hbs := h.bs.grown hg (fun e => own_blk_ne ho0 h.bs (by decide) e.symm)
  have hq2 := h.q.kept (own_mono ho0 (Nat.le_add_right _ _)) (by decide) hg
  have hbx2 := hbx.set_ 6 (.slice A' (y.E.n + 1) c')
  have hbs2 := hbs.far (p := ⟨gx, 6, none⟩) (fun e => (hbx.ne_ hbs (by decide)) e.symm) (.slice A' (y.E.n + 1) c')
  have hq3 := B2.far2 (i := 6) hq2 hgx (.slice A' (y.E.n + 1) c')
  have s : Stp Y (Y'.setCell ⟨gx, 6, none⟩ (.slice A' (y.E.n + 1) c')) 55 := ⟨fun h0 h1 h2 => own_other (own_kept h0 ho0 h1 hg) hbx h2 6 _⟩
  have hnew := own_other hown hbx (by decide) 6 (.slice A' (y.E.n + 1) c')
  refine ⟨hq3, by simpa using hbx2, hbs2, ?_⟩
  have hbel := hq3.bel
  refine ⟨?_, ?_, ?_, ?_, ?_, ?_, ?_, ?_⟩
  · exact h.l.un
  · exact Row.mono (own_row (by have := s.keep h.o.u (by decide) (by decide); exact this)) (Nat.zero_le _) (Nat.le_refl _)
  · exact GRow.mono (GL.toG ⟨s.keep h.o.c.own (by decide) (by decide), fun g hg => con_step s (h.o.c.leaf g hg) (by decide) (by decide) (by decide)⟩ h.l.c.n (fun _ hg => hg.in_)) conK (Nat.zero_le _) (Nat.le_refl _)
  · exact h.l.nn
  · exact Row.mono (own_row (by have := s.keep h.o.n (by decide) (by decide); exact this)) (Nat.zero_le _) (Nat.le_refl _)
  · exact GRow.mono (GL.toG ⟨s.keep h.o.q.own (by decide) (by decide), fun g hg => eq_step s (h.o.q.leaf g hg) (by decide) (by decide)⟩ h.l.q.n (fun _ hg => hg.in_)) eqK (Nat.zero_le _) (Nat.le_refl _)
  · refine ⟨?_, ?_, fun g hg => ?_⟩
    · show y.E.n + 1 = (y.es ++ [q]).length
      rw [List.length_append, ← hn0]; rfl
    · have := Row.mono (own_row hnew) (Nat.zero_le _) (Nat.le_refl _)
      show Row _ 0 _ 2 A' (y.E.n + 1) c' ((y.es ++ [q]).flatMap rowC)
      rw [List.flatMap_append, List.flatMap_singleton]
      exact this
    · rcases List.mem_append.1 hg with hg | hg
      · exact rowK.mono ((fun g hg => row_step s (h.o.e.leaf g hg) (by decide) (by decide)) g hg).in_ (Nat.zero_le _) (Nat.le_refl _)
      · obtain rfl := List.mem_singleton.1 hg
        exact rowK.mono (rowK.below hq hbel) (Nat.le_refl _) hbel.size
  · exact GRow.mono (GL.toG ⟨s.keep h.o.t.own (by decide) (by decide), fun g hg => row_step s (h.o.t.leaf g hg) (by decide) (by decide)⟩ h.l.t.n (fun _ hg => hg.in_)) rowK (Nat.zero_le _) (Nat.le_refl _)
set_option maxHeartbeats 800000 in
theorem push_te {w : World} {x z y : LangM} {gx g10 : Nat} {Y Y' : World} (h : HSt w x z y gx g10 Y) (hgx : w.heap.size + 1 < gx) (q : RowD × Sl) (hq : RowIn w 0 w.heap.size q) {A' : Option Addr} {c' : Nat} (hown : Y'.ownsRow (w.heap.size + 2) 58 2 (.slice A' (y.T.n + 1) c') (y.T.n + 1) (y.ts.flatMap rowC ++ rowC q)) (hg : Y.grownBy Y' (Value.ownBlock (.slice y.T.A y.T.n y.T.c))) :
    HEnd w x z ({ y with T := ⟨A', y.T.n + 1, c'⟩, ts := y.ts ++ [q] }) gx g10 (Y'.setCell ⟨gx, 7, none⟩ (.slice A' (y.T.n + 1) c')) := by
  have hn0 := h.l.t.n
  have ho0 : Y.ownsRow (w.heap.size + 2) 58 2 (.slice y.T.A y.T.n y.T.c) y.T.n (y.ts.flatMap rowC) := by
    have := h.o.t.own; rw [← hn0] at this; exact this
  have hbx := h.bx.grown hg (fun e => own_blk_ne ho0 h.bx (by decide) e.symm)
  have hbs := h.bs.grown hg (fun e => own_blk_ne ho0 h.bs (by decide) e.symm)
  have hq2 := h.q.kept (own_mono ho0 (Nat.le_add_right _ _)) (by decide) hg
  have hbx2 := hbx.set_ 7 (.slice A' (y.T.n + 1) c')
  have hbs2 := hbs.far (p := ⟨gx, 7, none⟩) (fun e => (hbx.ne_ hbs (by decide)) e.symm) (.slice A' (y.T.n + 1) c')
  have hq3 := B2.far2 (i := 7) hq2 hgx (.slice A' (y.T.n + 1) c')
  have s : Stp Y (Y'.setCell ⟨gx, 7, none⟩ (.slice A' (y.T.n + 1) c')) 58 := ⟨fun h0 h1 h2 => own_other (own_kept h0 ho0 h1 hg) hbx h2 7 _⟩
  have hnew := own_other hown hbx (by decide) 7 (.slice A' (y.T.n + 1) c')
  refine ⟨hq3, by simpa using hbx2, hbs2, ?_⟩
  have hbel := hq3.bel
  refine ⟨?_, ?_, ?_, ?_, ?_, ?_, ?_, ?_⟩
  · exact h.l.un
  · exact Row.mono (own_row (by have := s.keep h.o.u (by decide) (by decide); exact this)) (Nat.zero_le _) (Nat.le_refl _)
  · exact GRow.mono (GL.toG ⟨s.keep h.o.c.own (by decide) (by decide), fun g hg => con_step s (h.o.c.leaf g hg) (by decide) (by decide) (by decide)⟩ h.l.c.n (fun _ hg => hg.in_)) conK (Nat.zero_le _) (Nat.le_refl _)
  · exact h.l.nn
  · exact Row.mono (own_row (by have := s.keep h.o.n (by decide) (by decide); exact this)) (Nat.zero_le _) (Nat.le_refl _)
  · exact GRow.mono (GL.toG ⟨s.keep h.o.q.own (by decide) (by decide), fun g hg => eq_step s (h.o.q.leaf g hg) (by decide) (by decide)⟩ h.l.q.n (fun _ hg => hg.in_)) eqK (Nat.zero_le _) (Nat.le_refl _)
  · exact GRow.mono (GL.toG ⟨s.keep h.o.e.own (by decide) (by decide), fun g hg => row_step s (h.o.e.leaf g hg) (by decide) (by decide)⟩ h.l.e.n (fun _ hg => hg.in_)) rowK (Nat.zero_le _) (Nat.le_refl _)
  · refine ⟨?_, ?_, fun g hg => ?_⟩
    · show y.T.n + 1 = (y.ts ++ [q]).length
      rw [List.length_append, ← hn0]; rfl
    · have := Row.mono (own_row hnew) (Nat.zero_le _) (Nat.le_refl _)
      show Row _ 0 _ 2 A' (y.T.n + 1) c' ((y.ts ++ [q]).flatMap rowC)
      rw [List.flatMap_append, List.flatMap_singleton]
      exact this
    · rcases List.mem_append.1 hg with hg | hg
      · exact rowK.mono ((fun g hg => row_step s (h.o.t.leaf g hg) (by decide) (by decide)) g hg).in_ (Nat.zero_le _) (Nat.le_refl _)
      · obtain rfl := List.mem_singleton.1 hg
        exact rowK.mono (rowK.below hq hbel) (Nat.le_refl _) hbel.size
end Go.Proofs.YtoeobgdmghodeaaGreat

/-
  A PART OF THE COPY LOSES AN ELEMENT: the copy's other parts stay.
  WALKS: the law LangLess, less being given.
-/
import Derived.Test.YtilemieknfdjnaaGreatZ21
namespace Go.Proofs.YtilemieknfdjnaaGreat
open Go Go.RowKit Go.Sort
set_option linter.unusedVariables false
def setAll (xs : List Value) : Nat → List Value → List Value
  | _, [] => xs
  | o, u :: us => setAll (xs.set o u) (o + 1) us
theorem setAll_mid : ∀ (us A X Z : List Value), X.length = us.length → setAll (A ++ X ++ Z) A.length us = A ++ us ++ Z
  | [], A, X, Z, h => by
    obtain rfl : X = [] := List.length_eq_zero_iff.1 h
    rfl
  | u :: us, A, [], Z, h => by simp at h
  | u :: us, A, x :: X, Z, h => by
    have e : (A ++ x :: X ++ Z).set A.length u = (A ++ [u]) ++ X ++ Z := by
      rw [List.append_assoc, List.set_append_right _ _ (Nat.le_refl _), Nat.sub_self, List.cons_append, List.set_cons_zero]
      simp
    have h2 : X.length = us.length := by simpa using h
    have := setAll_mid us (A ++ [u]) X Z h2
    rw [List.length_append, List.length_singleton] at this
    rw [setAll, e, this]
    simp
theorem flat_setAll {α : Type} {C : α → List Value} {s : Nat} (hs : ∀ a, (C a).length = s) : ∀ (l : List α) (i : Nat) (a' : α), i < l.length → setAll (l.flatMap C) (i * s) (C a') = (l.set i a').flatMap C := by
  intro l i a' hi
  have e1 : l = l.take i ++ l[i] :: l.drop (i + 1) := by rw [List.getElem_cons_drop, List.take_append_drop]
  have e2 : (l.take i).length = i := by rw [List.length_take]; omega
  have e3 : ((l.take i).flatMap C).length = i * s := by
    have : ∀ m : List α, (m.flatMap C).length = m.length * s := by
      intro m
      induction m with
      | nil => simp
      | cons x m ih => rw [List.flatMap_cons, List.length_append, hs, ih, List.length_cons, Nat.add_mul, Nat.one_mul, Nat.add_comm]
    rw [this, e2]
  have e4 : l.flatMap C = (l.take i).flatMap C ++ C l[i] ++ (l.drop (i + 1)).flatMap C := by
    conv => lhs; rw [e1]
    rw [List.flatMap_append, List.flatMap_cons, List.append_assoc]
  have e5 : (l.set i a').flatMap C = (l.take i).flatMap C ++ C a' ++ (l.drop (i + 1)).flatMap C := by
    rw [List.set_eq_take_append_cons_drop, if_pos hi, List.flatMap_append, List.flatMap_cons, List.append_assoc]
  rw [e4, e5]
  have := setAll_mid (C a') ((l.take i).flatMap C) (C l[i]) ((l.drop (i + 1)).flatMap C) (by rw [hs, hs])
  rw [e3] at this
  exact this
theorem own_setAll {B e size n c g : Nat} : ∀ (us : List Value) (o : Nat) (w : World) (xs : List Value), w.ownsRow B e size (.slice (some ⟨g, 0, none⟩) n c) n xs → (w.setCells g o us).ownsRow B e size (.slice (some ⟨g, 0, none⟩) n c) n (setAll xs o us) ∧ w.grownBy (w.setCells g o us) (some g)
  | [], o, w, xs, h => ⟨h, ⟨rfl, rfl, rfl, Nat.le_refl _, fun _ _ _ => rfl⟩⟩
  | u :: us, o, w, xs, h => by
    have h1 := World.ownsRow.stored h o u
    have h2 := own_setAll us (o + 1) _ _ h1.1
    exact ⟨h2.1, h1.2.trans h2.2⟩
theorem row_set {l : List (RowD × Sl)} {i : Nat} {q : RowD × Sl} (hq : l[i]? = some q) (cells : List CellD) (S : Sl) : (l.flatMap rowC).set (i * 2 + 1) (.slice S.A S.n S.c) = (l.set i (⟨q.1.con, cells⟩, S)).flatMap rowC := by
  have hi := (List.getElem?_eq_some_iff.1 hq).1
  rw [← flat_setAll (C := rowC) (s := 2) (fun _ => rfl) l i (⟨q.1.con, cells⟩, S) hi]
  show _ = ((l.flatMap rowC).set (i * 2) (.string q.1.con)).set (i * 2 + 1) (.slice S.A S.n S.c)
  congr 1
  apply List.ext_getElem?
  intro j
  rw [List.getElem?_set]
  by_cases e : i * 2 = j
  · subst e
    have h0 := flatN_get (f := rowC) (s := 2) (fun _ => rfl) l i q hq 0 (by omega)
    rw [Nat.add_zero] at h0
    have hl : i * 2 < (l.flatMap rowC).length := (List.getElem?_eq_some_iff.1 (h0.trans (show _ = some (.string q.1.con) from rfl))).1
    rw [if_pos rfl, if_pos hl, h0]; rfl
  · rw [if_neg e]
/-- the append as a step of a region that draws its order: the list without its i-th element -/
theorem step_cut {α : Type} {C : α → List Value} {s : Nat} (hs : ∀ a, (C a).length = s) (h1c : ∀ (l : List α), ∀ u ∈ l.flatMap C, u.oneCell' = true) {X : World} {ops : Array Oper} {o : Oper} {a : Act} {K : Act → World → Prop} {Q : Exit → Act → World → Prop} {E : Prop} (hgd : o.guard = none) (sl x : Operand) (t : TypeId)
    (ho : o.op = .call { callee := .builtin .append, args := #[sl, x], argTypes := #[t, t] })
    (B : Nat) (e : TypeId) (i : TypeInfo) (z : Value) (bytes : Nat) (ht : Tryz.prog.underlying t = some (.slice e)) (hi : Tryz.prog.info? e = some i) (hz : i.zero = some z)
    (hsize : i.size = s) (hby : i.bytes = bytes) (hzs : z.cells.size = s) (hsz : 0 < s) (hb64 : bytes ≤ 128)
    {l : List α} {n c g : Nat} (hown : X.ownsRow B e s (.slice (some ⟨g, 0, none⟩) n c) n (l.flatMap C)) (hn : n ≤ 1048576) (k p : Nat) (hk : k < n) (hp : n = k + 1 ∨ p = (k + 1) * s)
    (hsl : a.eval sl = .slice (some ⟨g, 0, none⟩) k c) (hx : a.eval x = .slice (some ⟨g, p, none⟩) (n - (k + 1)) (c - (k + 1))) (hB : B ≤ X.heap.size)
    (h : ∀ A' c' w', w'.ownsRow B e s (.slice A' (n - 1) c') (n - 1) ((l.eraseIdx k).flatMap C) → X.grownBy w' (Value.ownBlock (.slice (some ⟨g, 0, none⟩) n c)) → K (a.put o.dst (.slice A' (n - 1) c')) w') : if Region.wanted o (yielded ops a.tmps) = true then Oper.wp Tryz.prog o a X K Q else E := by
  have hr := own_behind hown (a := k + 1) (by omega) (o := p) hp
  have hN : k + (n - (k + 1)) = n - 1 := by omega
  refine step_app X hgd sl x t ho B e i z s bytes ht hi hz hsize hby hzs hsz _ k _ hsl (own_ahead hown (Nat.le_of_lt hk)) B X.heap.size _ _ _ _ hx hr (fun u hu => h1c l u (List.mem_of_mem_drop hu)) (by unfold maxLen; omega) ?_ hB ?_
  · rw [hN]
    exact Nat.le_trans (Nat.mul_le_mul (Nat.le_trans (Nat.sub_le _ _) hn) hb64) (by decide)
  · intro v' w' hown' hg _
    rw [hN, ← flat_erase hs] at hown'
    obtain ⟨A', c', rfl⟩ := own_form hown'
    exact h A' c' w' hown' hg
theorem one_ceC (a : CellD) : (ceC a).all (·.oneCell') = true := by simp [ceC, Value.oneCell']
theorem con_le {x y : LangM} (fg : FitG x) (hE : langEM x y = true) {q : ConD × Leaf} (hq : q ∈ y.cs) : q.1.props.length ≤ 20000 ∧ q.1.kids.length ≤ 20000 ∧ q.1.refs.length ≤ 20000 := by
  have h : q.1 ∈ (cont y).cs := List.mem_map.2 ⟨q, hq, rfl⟩
  rw [← cont_same hE] at h
  obtain ⟨p, hp, e⟩ := List.mem_map.1 h
  rw [← e]; exact fg.cs p hp
theorem own_thereN {w : World} {B g n c k s : Nat} {e : TypeId} {xs : List Value} (h : w.ownsRow B e s (.slice (some ⟨g, 0, none⟩) n c) n xs) (hk : k < n) : w.there g (k * s) s := fun j hj => by
  have hle : (k + 1) * s ≤ n * s := Nat.mul_le_mul_right _ hk
  rw [Nat.add_mul, Nat.one_mul] at hle
  exact ⟨by rw [World.ownsRow.cellAt h (k * s + j) (by omega), List.getElem?_eq_getElem (by rw [h.1]; omega)]; rfl, World.ownsRow.frozenAt h _⟩
/-- own memory of other types stays when a part's list grows and the part is laid anew -/
def Kp2 (Y Y' : World) (T T' : TypeId) : Prop := ∀ {B : Nat} {e : TypeId} {size n : Nat} {v : Value} {xs : List Value}, Y.ownsRow B e size v n xs → e ≠ T → e ≠ T' → Y'.ownsRow B e size v n xs
theorem kp2_of {Y Y' Y2 : World} {B B' sq nq s n c b : Nat} {T T' : TypeId} {vq : Value} {xq xs : List Value} (hoq : Y.ownsRow B T' sq vq nq xq) (hg : Y.grownBy Y' vq.ownBlock) (hor : Y'.ownsRow B' T s (.slice (some ⟨b, 0, none⟩) n c) n xs) (hg2 : Y'.grownBy Y2 (some b)) : Kp2 Y Y2 T T' :=
  fun h h1 h2 => own_kept (own_kept h hoq h2 hg) hor h1 hg2
theorem kcon {Y Y' : World} {T T' : TypeId} (k : Kp2 Y Y' T T') {B : Nat} {g : ConD × Leaf} (h : ConOwn Y B g) (h1 : 85 ≠ T ∧ 85 ≠ T') (h2 : 62 ≠ T ∧ 62 ≠ T') (h3 : 87 ≠ T ∧ 87 ≠ T') : ConOwn Y' B g :=
  ⟨h.pn, h.kn, h.rn, k h.p h1.1 h1.2, k h.k h2.1 h2.2, k h.r h3.1 h3.2⟩
theorem kso {Y Y' : World} {T T' : TypeId} (k : Kp2 Y Y' T T') {B : Nat} {S : Sl} {l : List (SideD × Sl)} (h : SO Y B S l) (h1 : 141 ≠ T ∧ 141 ≠ T') (h2 : 3 ≠ T ∧ 3 ≠ T') : SO Y' B S l :=
  ⟨h.n, k h.own h1.1 h1.2, fun p hp => ⟨(h.leaf p hp).1, k (h.leaf p hp).2 h2.1 h2.2⟩⟩
theorem keq {Y Y' : World} {T T' : TypeId} (k : Kp2 Y Y' T T') {B : Nat} {g : EqM} (h : EqOwn Y B g) (h1 : 141 ≠ T ∧ 141 ≠ T') (h2 : 3 ≠ T ∧ 3 ≠ T') : EqOwn Y' B g := ⟨kso k h.l h1 h2, kso k h.r h1 h2⟩
theorem krow {Y Y' : World} {T T' Tq : TypeId} (k : Kp2 Y Y' T T') {B : Nat} {g : RowD × Sl} (h : RowOwn Tq Y B g) (h1 : Tq ≠ T ∧ Tq ≠ T') : RowOwn Tq Y' B g := ⟨h.qn, k h.q h1.1 h1.2⟩
theorem own_here {X : World} {B e size m n c : Nat} {A : Option Addr} {a : Addr} {xs : List Value} (h : X.ownsRow B e size (.slice A n c) m xs) (hA : A = some a) (hn : m = n) : X.ownsRow B e size (.slice (some a) n c) n xs := by subst hA; subst hn; exact h
theorem blk_setCells {g b : Nat} {t : TypeId} {cs : Array Value} (hne : g ≠ b) : ∀ (us : List Value) (o : Nat) (w : World), Blk w g t cs → Blk (w.setCells b o us) g t cs
  | [], o, w, h => h
  | u :: us, o, w, h => blk_setCells hne us (o + 1) _ (h.far (p := ⟨b, o, none⟩) hne u)
theorem b2_setCells {w : World} {t : TypeId} {cs ds : Array Value} {b : Nat} (hg : w.heap.size + 1 < b) : ∀ (us : List Value) (o : Nat) (X : World), B2 w t cs ds X → B2 w t cs ds (X.setCells b o us)
  | [], o, X, h => h
  | u :: us, o, X, h => b2_setCells hg us (o + 1) _ (B2.far2 h hg u)
set_option maxHeartbeats 1600000 in
theorem part_ed {w : World} {x y : LangM} {ds : Array Value} {gx : Nat} {Y Y' : World} (h : LSt w x ds y gx Y) (hgx : w.heap.size + 1 < gx) {i m b : Nat} {q : RowD × Sl} (hq : y.es[i]? = some q) (hA : y.E.A = some ⟨b, 0, none⟩) {A' : Option Addr} {m' c' : Nat} (hm : m' = (q.1.cells.eraseIdx m).length)
    (hown : Y'.ownsRow (w.heap.size + 2) 74 3 (.slice A' m' c') m' (ceCells (q.1.cells.eraseIdx m))) (hg : Y.grownBy Y' (Value.ownBlock (.slice q.2.A q.2.n q.2.c))) :
    LEnd w x ds ({ y with es := y.es.set i (⟨q.1.con, q.1.cells.eraseIdx m⟩, ⟨A', m', c'⟩) }) gx (Y'.setCell ⟨b, i * 2 + 1, none⟩ (.slice A' m' c')) := by
  have hi := (List.getElem?_eq_some_iff.1 hq).1
  have hoq := (h.o.e.leaf q (List.mem_of_getElem? hq)).q
  have hor0 := own_here (own_kept h.o.e.own hoq (by decide) hg) hA h.l.e.n.symm
  have hor := own_here h.o.e.own hA h.l.e.n.symm
  have hb := (World.ownsRow.lt hor b rfl).1
  have hne : gx ≠ b := fun e => own_blk_ne hor h.bx (by decide) (by rw [e]; rfl)
  have hbx := h.bx.grown hg (fun e => own_blk_ne hoq h.bx (by decide) e.symm)
  have hq2 := h.q.kept (own_mono hoq (Nat.le_add_right _ _)) (by decide) hg
  have hst := World.ownsRow.stored hor0 (i * 2 + 1) (.slice A' m' c')
  have k : Kp2 Y (Y'.setCell ⟨b, i * 2 + 1, none⟩ (.slice A' m' c')) 55 74 := kp2_of hoq hg hor0 hst.2
  rw [row_set hq (q.1.cells.eraseIdx m) ⟨A', m', c'⟩] at hst
  refine ⟨B2.far2 hq2 (by omega) _, hbx.far (p := ⟨b, _, none⟩) hne _, ?_⟩
  refine ⟨?_, ?_, ?_, ?_, ?_, ?_, ?_, ?_⟩
  · exact h.l.un
  · exact Row.mono (own_row (by have := k h.o.u (by decide) (by decide); exact this)) (Nat.le_refl _) (Nat.le_refl _)
  · exact GRow.mono (GL0.toG ⟨k h.o.c.own (by decide) (by decide), fun g hg => kcon k (h.o.c.leaf g hg) (by decide) (by decide) (by decide)⟩ h.l.c.n (fun _ hg => hg.in_)) conK (Nat.le_refl _) (Nat.le_refl _)
  · exact h.l.nn
  · exact Row.mono (own_row (by have := k h.o.n (by decide) (by decide); exact this)) (Nat.le_refl _) (Nat.le_refl _)
  · exact GRow.mono (GL0.toG ⟨k h.o.q.own (by decide) (by decide), fun g hg => keq k (h.o.q.leaf g hg) (by decide) (by decide)⟩ h.l.q.n (fun _ hg => hg.in_)) eqK (Nat.le_refl _) (Nat.le_refl _)
  · refine ⟨by show _ = (List.set _ _ _).length; rw [List.length_set]; exact h.l.e.n, Row.mono (own_row (hA ▸ hst.1)) (Nat.le_refl _) (Nat.le_refl _), fun g hg' => ?_⟩
    obtain ⟨j, hj⟩ := List.mem_iff_getElem?.1 hg'
    by_cases hji : j = i
    · subst hji
      rw [List.getElem?_set_self hi] at hj
      injection hj with hj
      subst hj
      exact ⟨hm, Row.mono (own_row (own_kept hown hor0 (by decide) hst.2)) (Nat.le_refl _) (Nat.le_refl _)⟩
    · rw [List.getElem?_set_ne (Ne.symm hji)] at hj
      have hl := h.o.e.leaf g (List.mem_of_getElem? hj)
      have hn := row_apart h.o.e.ap hq hj hji
      exact ⟨hl.qn, Row.mono (own_row (own_kept (own_grown hl.q hn hg) hor0 (by decide) hst.2)) (Nat.le_refl _) (Nat.le_refl _)⟩
  · exact GRow.mono (GL0.toG ⟨k h.o.t.own (by decide) (by decide), fun g hg => krow k (h.o.t.leaf g hg) (by decide)⟩ h.l.t.n (fun _ hg => hg.in_)) rowK (Nat.le_refl _) (Nat.le_refl _)
theorem cse_ed (y : LangM) (i : Nat) (g : RowD × Sl) : cont ({ y with es := y.es.set i g }) = { cont y with es := (cont y).es.set i g.1 } := by
  simp only [cont, List.map_set]
theorem lessp_ed {w X : World} {hi i m : Nat} {x y : LangM} {q : RowD × Sl} {S : Sl} (hx : LangIn w 0 hi x) (hy : LangIn X 0 X.heap.size y) (fx : Fit x) (hE : langEM x y = true) (hq : y.es[i]? = some q) : Lesser x ({ y with es := y.es.set i (⟨q.1.con, q.1.cells.eraseIdx m⟩, S) }) := by
  have h1 := (fit_iff x).1 fx
  rw [cont_same hE] at h1
  have hq' : (cont y).es[i]? = some q.1 := by simp only [cont, List.getElem?_map, hq, Option.map_some]
  refine ⟨fun h => ?_, ?_, ?_⟩
  · rw [cse_ed]
    rw [cont_same hE] at h
    exact h.fewE hq' (List.eraseIdx_sublist _ _)
  · rw [cse_ed]
    refine ⟨h1.q, ?_, ?_⟩
    all_goals intro g hg c hc
    · rcases List.mem_or_eq_of_mem_set hg with hg | rfl
      · exact h1.e g hg c hc
      · exact h1.e q.1 (List.mem_of_getElem? hq') c ((List.eraseIdx_sublist _ _).subset hc)
    · exact h1.t g hg c hc
  · have h2 := twin_ncon hE hy hx
    show y.C.n ≤ x.C.n; omega
set_option maxHeartbeats 1600000 in
theorem part_te {w : World} {x y : LangM} {ds : Array Value} {gx : Nat} {Y Y' : World} (h : LSt w x ds y gx Y) (hgx : w.heap.size + 1 < gx) {i m b : Nat} {q : RowD × Sl} (hq : y.ts[i]? = some q) (hA : y.T.A = some ⟨b, 0, none⟩) {A' : Option Addr} {m' c' : Nat} (hm : m' = (q.1.cells.eraseIdx m).length)
    (hown : Y'.ownsRow (w.heap.size + 2) 77 3 (.slice A' m' c') m' (ceCells (q.1.cells.eraseIdx m))) (hg : Y.grownBy Y' (Value.ownBlock (.slice q.2.A q.2.n q.2.c))) :
    LEnd w x ds ({ y with ts := y.ts.set i (⟨q.1.con, q.1.cells.eraseIdx m⟩, ⟨A', m', c'⟩) }) gx (Y'.setCell ⟨b, i * 2 + 1, none⟩ (.slice A' m' c')) := by
  have hi := (List.getElem?_eq_some_iff.1 hq).1
  have hoq := (h.o.t.leaf q (List.mem_of_getElem? hq)).q
  have hor0 := own_here (own_kept h.o.t.own hoq (by decide) hg) hA h.l.t.n.symm
  have hor := own_here h.o.t.own hA h.l.t.n.symm
  have hb := (World.ownsRow.lt hor b rfl).1
  have hne : gx ≠ b := fun e => own_blk_ne hor h.bx (by decide) (by rw [e]; rfl)
  have hbx := h.bx.grown hg (fun e => own_blk_ne hoq h.bx (by decide) e.symm)
  have hq2 := h.q.kept (own_mono hoq (Nat.le_add_right _ _)) (by decide) hg
  have hst := World.ownsRow.stored hor0 (i * 2 + 1) (.slice A' m' c')
  have k : Kp2 Y (Y'.setCell ⟨b, i * 2 + 1, none⟩ (.slice A' m' c')) 58 77 := kp2_of hoq hg hor0 hst.2
  rw [row_set hq (q.1.cells.eraseIdx m) ⟨A', m', c'⟩] at hst
  refine ⟨B2.far2 hq2 (by omega) _, hbx.far (p := ⟨b, _, none⟩) hne _, ?_⟩
  refine ⟨?_, ?_, ?_, ?_, ?_, ?_, ?_, ?_⟩
  · exact h.l.un
  · exact Row.mono (own_row (by have := k h.o.u (by decide) (by decide); exact this)) (Nat.le_refl _) (Nat.le_refl _)
  · exact GRow.mono (GL0.toG ⟨k h.o.c.own (by decide) (by decide), fun g hg => kcon k (h.o.c.leaf g hg) (by decide) (by decide) (by decide)⟩ h.l.c.n (fun _ hg => hg.in_)) conK (Nat.le_refl _) (Nat.le_refl _)
  · exact h.l.nn
  · exact Row.mono (own_row (by have := k h.o.n (by decide) (by decide); exact this)) (Nat.le_refl _) (Nat.le_refl _)
  · exact GRow.mono (GL0.toG ⟨k h.o.q.own (by decide) (by decide), fun g hg => keq k (h.o.q.leaf g hg) (by decide) (by decide)⟩ h.l.q.n (fun _ hg => hg.in_)) eqK (Nat.le_refl _) (Nat.le_refl _)
  · exact GRow.mono (GL0.toG ⟨k h.o.e.own (by decide) (by decide), fun g hg => krow k (h.o.e.leaf g hg) (by decide)⟩ h.l.e.n (fun _ hg => hg.in_)) rowK (Nat.le_refl _) (Nat.le_refl _)
  · refine ⟨by show _ = (List.set _ _ _).length; rw [List.length_set]; exact h.l.t.n, Row.mono (own_row (hA ▸ hst.1)) (Nat.le_refl _) (Nat.le_refl _), fun g hg' => ?_⟩
    obtain ⟨j, hj⟩ := List.mem_iff_getElem?.1 hg'
    by_cases hji : j = i
    · subst hji
      rw [List.getElem?_set_self hi] at hj
      injection hj with hj
      subst hj
      exact ⟨hm, Row.mono (own_row (own_kept hown hor0 (by decide) hst.2)) (Nat.le_refl _) (Nat.le_refl _)⟩
    · rw [List.getElem?_set_ne (Ne.symm hji)] at hj
      have hl := h.o.t.leaf g (List.mem_of_getElem? hj)
      have hn := row_apart h.o.t.ap hq hj hji
      exact ⟨hl.qn, Row.mono (own_row (own_kept (own_grown hl.q hn hg) hor0 (by decide) hst.2)) (Nat.le_refl _) (Nat.le_refl _)⟩
theorem cse_te (y : LangM) (i : Nat) (g : RowD × Sl) : cont ({ y with ts := y.ts.set i g }) = { cont y with ts := (cont y).ts.set i g.1 } := by
  simp only [cont, List.map_set]
theorem lessp_te {w X : World} {hi i m : Nat} {x y : LangM} {q : RowD × Sl} {S : Sl} (hx : LangIn w 0 hi x) (hy : LangIn X 0 X.heap.size y) (fx : Fit x) (hE : langEM x y = true) (hq : y.ts[i]? = some q) : Lesser x ({ y with ts := y.ts.set i (⟨q.1.con, q.1.cells.eraseIdx m⟩, S) }) := by
  have h1 := (fit_iff x).1 fx
  rw [cont_same hE] at h1
  have hq' : (cont y).ts[i]? = some q.1 := by simp only [cont, List.getElem?_map, hq, Option.map_some]
  refine ⟨fun h => ?_, ?_, ?_⟩
  · rw [cse_te]
    rw [cont_same hE] at h
    exact h.fewT hq' (List.eraseIdx_sublist _ _)
  · rw [cse_te]
    refine ⟨h1.q, ?_, ?_⟩
    all_goals intro g hg c hc
    · exact h1.e g hg c hc
    · rcases List.mem_or_eq_of_mem_set hg with hg | rfl
      · exact h1.t g hg c hc
      · exact h1.t q.1 (List.mem_of_getElem? hq') c ((List.eraseIdx_sublist _ _).subset hc)
  · have h2 := twin_ncon hE hy hx
    show y.C.n ≤ x.C.n; omega
theorem con_apart {X : World} {B : Nat} {l : List (ConD × Leaf)} (h : Ap conC ConOwn B l X) {i j : Nat} {a b : ConD × Leaf} (ha : l[i]? = some a) (hb : l[j]? = some b) (hne : j ≠ i) {va vb : Value} (hva : PartBlk a va) (hvb : PartBlk b vb) : vb.ownBlock = none ∨ vb.ownBlock ≠ va.ownBlock := by
  have hm : ∀ {g : ConD × Leaf} {v : Value}, PartBlk g v → v ∈ conC g := by
    intro g v hv
    rcases hv with rfl | rfl | rfl <;> simp [conC]
  have hl : ∀ {g : ConD × Leaf} {v : Value}, PartBlk g v → ∀ k, ConOwn X k g → ∀ j, v.ownBlock = some j → k ≤ j := by
    intro g v hv k ho j hj
    rcases hv with rfl | rfl | rfl
    · exact (World.ownsRow.lt ho.p j hj).1
    · exact (World.ownsRow.lt ho.k j hj).1
    · exact (World.ownsRow.lt ho.r j hj).1
  exact ap_ne h ha hb hne (hm hva) (hm hvb) (hl hva) (hl hvb)
/-- the type of a part's list -/
theorem part_row {X : World} {B : Nat} {g : ConD × Leaf} {v : Value} (h : ConOwn X B g) (hv : PartBlk g v) : ∃ e size n xs, (e = 85 ∨ e = 62 ∨ e = 87) ∧ X.ownsRow B e size v n xs := by
  rcases hv with rfl | rfl | rfl
  · exact ⟨_, _, _, _, .inl rfl, h.p⟩
  · exact ⟨_, _, _, _, .inr (.inl rfl), h.k⟩
  · exact ⟨_, _, _, _, .inr (.inr rfl), h.r⟩
theorem con_kept {X X' : World} {B : Nat} {b : ConD × Leaf} (h : ConOwn X B b) {v : Value} (hn : ∀ vb, PartBlk b vb → vb.ownBlock = none ∨ vb.ownBlock ≠ v.ownBlock) (hg : X.grownBy X' v.ownBlock) : ConOwn X' B b :=
  ⟨h.pn, h.kn, h.rn, own_grown h.p (hn _ (.inl rfl)) hg, own_grown h.k (hn _ (.inr (.inl rfl))) hg, own_grown h.r (hn _ (.inr (.inr rfl))) hg⟩
set_option maxHeartbeats 1600000 in
theorem part_con {w : World} {x y : LangM} {ds : Array Value} {gx : Nat} {Y Y' : World} (h : LSt w x ds y gx Y) (hgx : w.heap.size + 1 < gx) {i b : Nat} {q q' : ConD × Leaf} (hq : y.cs[i]? = some q) (hA : y.C.A = some ⟨b, 0, none⟩) (ho : ConOwn Y' (w.heap.size + 2) q') {vq : Value} (hv : PartBlk q vq) (hg : Y.grownBy Y' vq.ownBlock) :
    LEnd w x ds ({ y with cs := y.cs.set i q' }) gx (Y'.setCells b (i * 6) (conC q')) := by
  have hi := (List.getElem?_eq_some_iff.1 hq).1
  obtain ⟨T', sq, nq, xq, hT, hoq⟩ := part_row (h.o.c.leaf q (List.mem_of_getElem? hq)) hv
  have t1 : 47 ≠ T' := by rcases hT with rfl | rfl | rfl <;> decide
  have t2 : T' ≠ 29 := by rcases hT with rfl | rfl | rfl <;> decide
  have t3 : ∀ e, e = 9 ∨ e = 49 ∨ e = 52 ∨ e = 141 ∨ e = 3 ∨ e = 55 ∨ e = 74 ∨ e = 58 ∨ e = 77 → e ≠ 47 ∧ e ≠ T' := by
    intro e he
    rcases he with rfl | rfl | rfl | rfl | rfl | rfl | rfl | rfl | rfl <;> rcases hT with rfl | rfl | rfl <;> decide
  have hor0 := own_here (own_kept h.o.c.own hoq t1 hg) hA h.l.c.n.symm
  have hor := own_here h.o.c.own hA h.l.c.n.symm
  have hb := (World.ownsRow.lt hor b rfl).1
  have hne : gx ≠ b := fun e => own_blk_ne hor h.bx (by decide) (by rw [e]; rfl)
  have hbx := h.bx.grown hg (fun e => own_blk_ne hoq h.bx t2 e.symm)
  have hq2 := h.q.kept (own_mono hoq (Nat.le_add_right _ _)) t2 hg
  have hst := own_setAll (conC q') (i * 6) _ _ hor0
  have k : Kp2 Y (Y'.setCells b (i * 6) (conC q')) 47 T' := kp2_of hoq hg hor0 hst.2
  rw [flat_setAll (C := conC) (s := 6) (fun _ => rfl) _ _ _ hi] at hst
  have s1 : ∀ {g : ConD × Leaf}, ConOwn Y' (w.heap.size + 2) g → ConOwn (Y'.setCells b (i * 6) (conC q')) (w.heap.size + 2) g := fun f => ⟨f.pn, f.kn, f.rn, own_kept f.p hor0 (by decide) hst.2, own_kept f.k hor0 (by decide) hst.2, own_kept f.r hor0 (by decide) hst.2⟩
  refine ⟨b2_setCells (by omega) _ _ _ hq2, blk_setCells hne _ _ _ hbx, ?_⟩
  refine ⟨?_, ?_, ?_, ?_, ?_, ?_, ?_, ?_⟩
  · exact h.l.un
  · exact Row.mono (own_row (by have := k h.o.u (t3 _ (.inl rfl)).1 (t3 _ (.inl rfl)).2; exact this)) (Nat.le_refl _) (Nat.le_refl _)
  · refine ⟨by show _ = (List.set _ _ _).length; rw [List.length_set]; exact h.l.c.n, Row.mono (own_row (hA ▸ hst.1)) (Nat.le_refl _) (Nat.le_refl _), fun g hg' => ?_⟩
    obtain ⟨j, hj⟩ := List.mem_iff_getElem?.1 hg'
    by_cases hji : j = i
    · subst hji
      rw [List.getElem?_set_self hi] at hj
      injection hj with hj
      subst hj
      exact conK.mono (s1 ho).in_ (Nat.le_refl _) (Nat.le_refl _)
    · rw [List.getElem?_set_ne (Ne.symm hji)] at hj
      exact conK.mono (s1 (con_kept (h.o.c.leaf g (List.mem_of_getElem? hj)) (fun vb hvb => con_apart h.o.c.ap hq hj hji hv hvb) hg)).in_ (Nat.le_refl _) (Nat.le_refl _)
  · exact h.l.nn
  · exact Row.mono (own_row (by have := k h.o.n (t3 _ (by decide)).1 (t3 _ (by decide)).2; exact this)) (Nat.le_refl _) (Nat.le_refl _)
  · exact GRow.mono (GL0.toG ⟨k h.o.q.own (t3 _ (by decide)).1 (t3 _ (by decide)).2, fun g hg => keq k (h.o.q.leaf g hg) (t3 _ (by decide)) (t3 _ (by decide))⟩ h.l.q.n (fun _ hg => hg.in_)) eqK (Nat.le_refl _) (Nat.le_refl _)
  · exact GRow.mono (GL0.toG ⟨k h.o.e.own (t3 _ (by decide)).1 (t3 _ (by decide)).2, fun g hg => krow k (h.o.e.leaf g hg) (t3 _ (by decide))⟩ h.l.e.n (fun _ hg => hg.in_)) rowK (Nat.le_refl _) (Nat.le_refl _)
  · exact GRow.mono (GL0.toG ⟨k h.o.t.own (t3 _ (by decide)).1 (t3 _ (by decide)).2, fun g hg => krow k (h.o.t.leaf g hg) (t3 _ (by decide))⟩ h.l.t.n (fun _ hg => hg.in_)) rowK (Nat.le_refl _) (Nat.le_refl _)
theorem cse_con (y : LangM) (i : Nat) (g : ConD × Leaf) : cont ({ y with cs := y.cs.set i g }) = { cont y with cs := (cont y).cs.set i g.1 } := by
  simp only [cont, List.map_set]
theorem lessp_con {w X : World} {hi i : Nat} {x y : LangM} {q q' : ConD × Leaf} (hx : LangIn w 0 hi x) (hy : LangIn X 0 X.heap.size y) (fx : Fit x) (hE : langEM x y = true) (hq : y.cs[i]? = some q) (hf : Fewer q.1 q'.1) : Lesser x ({ y with cs := y.cs.set i q' }) := by
  have h1 := (fit_iff x).1 fx
  rw [cont_same hE] at h1
  have hq' : (cont y).cs[i]? = some q.1 := by simp only [cont, List.getElem?_map, hq, Option.map_some]
  refine ⟨fun h => ?_, ?_, ?_⟩
  · rw [cse_con]
    rw [cont_same hE] at h
    exact h.fewC hq' hf
  · rw [cse_con]
    exact ⟨h1.q, h1.e, h1.t⟩
  · have h2 := twin_ncon hE hy hx
    show y.C.n ≤ x.C.n; omega
end Go.Proofs.YtilemieknfdjnaaGreat
namespace Go.Proofs.YtilemieknfdjnaaGreat
open Go Go.RowKit Go.Sort
set_option linter.unusedVariables false
attribute [local go_sem ↓] Go.wp_at_zero Go.wp_at_succ
set_option maxRecDepth 40000 in
set_option maxHeartbeats 6400000 in
theorem lessLaw_any (w : World) (hi : Nat) (x : LangM) (which at_ part : Int) (hx : LangIn w 0 hi x) (hh : hi ≤ w.heap.size) (rx : Room4 x) (fx : Fit x)
    (hl : ∀ Y, FitG x → Below w.heap.size w Y → Calls Tryz.prog 8 #[.agg #[.string x.name, .int .i64 x.ver, .slice x.U.A x.U.n x.U.c, .slice x.C.A x.C.n x.C.c, .slice x.N.A x.N.n x.N.c, .slice x.Q.A x.Q.n x.Q.c, .slice x.E.A x.E.n x.E.c, .slice x.T.A x.T.n x.T.c], .int .i64 which, .int .i64 at_, .int .i64 part] Y (LessPost Y x)) :
    Calls Tryz.prog 3 #[.agg #[.string x.name, .int .i64 x.ver, .slice x.U.A x.U.n x.U.c, .slice x.C.A x.C.n x.C.c, .slice x.N.A x.N.n x.N.c, .slice x.Q.A x.Q.n x.Q.c, .slice x.E.A x.E.n x.E.c, .slice x.T.A x.T.n x.T.c], .int .i64 which, .int .i64 at_, .int .i64 part] w (Ret w (.bool true)) := by
  have HAw : Hid (∀ Y, Calls Tryz.prog 5 #[] Y (Ret Y (.bool true))) := Lib.hid awake_any
  have HGx : Hid (∀ Y, Below w.heap.size w Y → Calls Tryz.prog 6 #[.agg #[.string x.name, .int .i64 x.ver, .slice x.U.A x.U.n x.U.c, .slice x.C.A x.C.n x.C.c, .slice x.N.A x.N.n x.N.c, .slice x.Q.A x.Q.n x.Q.c, .slice x.E.A x.E.n x.E.c, .slice x.T.A x.T.n x.T.c]] Y (GreatPost Y x)) := Lib.hid fun Y hY => great_any Y hi x (langK.below hx (hY.mono hh)) (Nat.le_trans hh hY.size) rx
  have HCx : Hid (∀ Y, Below w.heap.size w Y → Calls Tryz.prog 7 #[.agg #[.string x.name, .int .i64 x.ver, .slice x.U.A x.U.n x.U.c, .slice x.C.A x.C.n x.C.c, .slice x.N.A x.N.n x.N.c, .slice x.Q.A x.Q.n x.Q.c, .slice x.E.A x.E.n x.E.c, .slice x.T.A x.T.n x.T.c]] Y (Told Y (langF x))) := Lib.hid fun Y hY => check_any Y hi x (langK.below hx (hY.mono hh)) (Nat.le_trans hh hY.size) fx
  have HL := Lib.hid hl
  have HQ0 : Hid (Blk (w.alloc (.cells #[.string x.name, .int .i64 x.ver, .slice x.U.A x.U.n x.U.c, .slice x.C.A x.C.n x.C.c, .slice x.N.A x.N.n x.N.c, .slice x.Q.A x.Q.n x.Q.c, .slice x.E.A x.E.n x.E.c, .slice x.T.A x.T.n x.T.c] 29)) w.heap.size 29 #[.string x.name, .int .i64 x.ver, .slice x.U.A x.U.n x.U.c, .slice x.C.A x.C.n x.C.c, .slice x.N.A x.N.n x.N.c, .slice x.Q.A x.Q.n x.Q.c, .slice x.E.A x.E.n x.E.c, .slice x.T.A x.T.n x.T.c] ∧ Below w.heap.size w (w.alloc (.cells #[.string x.name, .int .i64 x.ver, .slice x.U.A x.U.n x.U.c, .slice x.C.A x.C.n x.C.c, .slice x.N.A x.N.n x.N.c, .slice x.Q.A x.Q.n x.Q.c, .slice x.E.A x.E.n x.E.c, .slice x.T.A x.T.n x.T.c] 29))) := Lib.hid ⟨Blk.new _ _ _, below_box _ _⟩
  clear hx rx fx hl
  go_enter Tryz.func3, Tryz.ntmps3
  go_wp2_with fail
  refine (HAw.out _).mono ?_
  rintro e w1 ⟨rfl, hb1⟩
  have HQ1 : Hid (Blk w1 w.heap.size 29 #[.string x.name, .int .i64 x.ver, .slice x.U.A x.U.n x.U.c, .slice x.C.A x.C.n x.C.c, .slice x.N.A x.N.n x.N.c, .slice x.Q.A x.Q.n x.Q.c, .slice x.E.A x.E.n x.E.c, .slice x.T.A x.T.n x.T.c] ∧ Below w.heap.size w w1) := Lib.hid ⟨HQ0.out.1.after hb1, HQ0.out.2.trans (hb1.mono HQ0.out.2.size)⟩
  clear hb1
  have a0 := (HQ1.out.1.cell 0).trans (show _ = some (.string x.name) from rfl)
  have a1 := (HQ1.out.1.cell 1).trans (show _ = some (.int .i64 x.ver) from rfl)
  have a2 := (HQ1.out.1.cell 2).trans (show _ = some (.slice x.U.A x.U.n x.U.c) from rfl)
  have a3 := (HQ1.out.1.cell 3).trans (show _ = some (.slice x.C.A x.C.n x.C.c) from rfl)
  have a4 := (HQ1.out.1.cell 4).trans (show _ = some (.slice x.N.A x.N.n x.N.c) from rfl)
  have a5 := (HQ1.out.1.cell 5).trans (show _ = some (.slice x.Q.A x.Q.n x.Q.c) from rfl)
  have a6 := (HQ1.out.1.cell 6).trans (show _ = some (.slice x.E.A x.E.n x.E.c) from rfl)
  have a7 := (HQ1.out.1.cell 7).trans (show _ = some (.slice x.T.A x.T.n x.T.c) from rfl)
  go_wp2_with fail
  clear a0 a1 a2 a3 a4 a5 a6 a7
  refine (HGx.out _ HQ1.out.2).mono ?_
  rintro e w2 ⟨b1, rfl, hb2, hf1⟩
  have HQ2 : Hid (Blk w2 w.heap.size 29 #[.string x.name, .int .i64 x.ver, .slice x.U.A x.U.n x.U.c, .slice x.C.A x.C.n x.C.c, .slice x.N.A x.N.n x.N.c, .slice x.Q.A x.Q.n x.Q.c, .slice x.E.A x.E.n x.E.c, .slice x.T.A x.T.n x.T.c] ∧ Below w.heap.size w w2) := Lib.hid ⟨HQ1.out.1.after hb2, HQ1.out.2.trans (hb2.mono HQ1.out.2.size)⟩
  clear hb2
  cases b1 with
  | true =>
    go_wp2_with fail
    go_ret
    exact ⟨rfl, HQ2.out.2⟩
  | false =>
    have HFG := Lib.hid (hf1 (by simp))
    clear hf1
    have a0 := (HQ2.out.1.cell 0).trans (show _ = some (.string x.name) from rfl)
    have a1 := (HQ2.out.1.cell 1).trans (show _ = some (.int .i64 x.ver) from rfl)
    have a2 := (HQ2.out.1.cell 2).trans (show _ = some (.slice x.U.A x.U.n x.U.c) from rfl)
    have a3 := (HQ2.out.1.cell 3).trans (show _ = some (.slice x.C.A x.C.n x.C.c) from rfl)
    have a4 := (HQ2.out.1.cell 4).trans (show _ = some (.slice x.N.A x.N.n x.N.c) from rfl)
    have a5 := (HQ2.out.1.cell 5).trans (show _ = some (.slice x.Q.A x.Q.n x.Q.c) from rfl)
    have a6 := (HQ2.out.1.cell 6).trans (show _ = some (.slice x.E.A x.E.n x.E.c) from rfl)
    have a7 := (HQ2.out.1.cell 7).trans (show _ = some (.slice x.T.A x.T.n x.T.c) from rfl)
    go_wp2_with fail
    clear a0 a1 a2 a3 a4 a5 a6 a7
    refine (HCx.out _ HQ2.out.2).mono ?_
    rintro e w4 ⟨rfl, hb4⟩
    have HQ4 : Hid (Blk w4 w.heap.size 29 #[.string x.name, .int .i64 x.ver, .slice x.U.A x.U.n x.U.c, .slice x.C.A x.C.n x.C.c, .slice x.N.A x.N.n x.N.c, .slice x.Q.A x.Q.n x.Q.c, .slice x.E.A x.E.n x.E.c, .slice x.T.A x.T.n x.T.c] ∧ Below w.heap.size w w4) := Lib.hid ⟨HQ2.out.1.after hb4, HQ2.out.2.trans (hb4.mono HQ2.out.2.size)⟩
    clear hb4
    cases hv : langF x with
    | some f =>
      have he : (f.err == 0) = false := beq_eq_false_iff_ne.2 (langG_err (k := cont x) (by rw [← langG_eq]; exact hv))
      simp only [tellF, faV]
      clear hv
      go_wp2_with fail
      go_ret
      exact ⟨rfl, HQ4.out.2⟩
    | none =>
      simp only [tellF, faV]
      have HV : Hid (ContOk (cont x)) := Lib.hid ((contOk_iff _).1 (by rw [← langG_eq]; exact hv))
      clear hv
      have a0 := (HQ4.out.1.cell 0).trans (show _ = some (.string x.name) from rfl)
      have a1 := (HQ4.out.1.cell 1).trans (show _ = some (.int .i64 x.ver) from rfl)
      have a2 := (HQ4.out.1.cell 2).trans (show _ = some (.slice x.U.A x.U.n x.U.c) from rfl)
      have a3 := (HQ4.out.1.cell 3).trans (show _ = some (.slice x.C.A x.C.n x.C.c) from rfl)
      have a4 := (HQ4.out.1.cell 4).trans (show _ = some (.slice x.N.A x.N.n x.N.c) from rfl)
      have a5 := (HQ4.out.1.cell 5).trans (show _ = some (.slice x.Q.A x.Q.n x.Q.c) from rfl)
      have a6 := (HQ4.out.1.cell 6).trans (show _ = some (.slice x.E.A x.E.n x.E.c) from rfl)
      have a7 := (HQ4.out.1.cell 7).trans (show _ = some (.slice x.T.A x.T.n x.T.c) from rfl)
      go_wp2_with fail
      clear a0 a1 a2 a3 a4 a5 a6 a7
      refine (HL.out _ HFG.out HQ4.out.2).mono ?_
      rintro e w5 ⟨hb5, y, ok, rfl, hy, hL⟩
      have HQ5 : Hid (Blk w5 w.heap.size 29 #[.string x.name, .int .i64 x.ver, .slice x.U.A x.U.n x.U.c, .slice x.C.A x.C.n x.C.c, .slice x.N.A x.N.n x.N.c, .slice x.Q.A x.Q.n x.Q.c, .slice x.E.A x.E.n x.E.c, .slice x.T.A x.T.n x.T.c] ∧ Below w.heap.size w w5) := Lib.hid ⟨HQ4.out.1.after hb5, HQ4.out.2.trans (hb5.mono HQ4.out.2.size)⟩
      have hyv : langF y = none := by rw [langG_eq]; exact (contOk_iff _).2 (hL.ok HV.out)
      have HCy : Hid (∀ Y, Below w5.heap.size w5 Y → Calls Tryz.prog 7 #[.agg #[.string y.name, .int .i64 y.ver, .slice y.U.A y.U.n y.U.c, .slice y.C.A y.C.n y.C.c, .slice y.N.A y.N.n y.N.c, .slice y.Q.A y.Q.n y.Q.c, .slice y.E.A y.E.n y.E.c, .slice y.T.A y.T.n y.T.c]] Y (Told Y (langF y))) := Lib.hid fun Y hY => check_any Y _ y (langK.below hy hY) hY.size ((fit_iff y).2 hL.fit)
      have hcn := hL.n
      clear hy hL hb5
      have HY6 : Hid (Blk (w5.alloc (.cells #[.string y.name, .int .i64 y.ver, .slice y.U.A y.U.n y.U.c, .slice y.C.A y.C.n y.C.c, .slice y.N.A y.N.n y.N.c, .slice y.Q.A y.Q.n y.Q.c, .slice y.E.A y.E.n y.E.c, .slice y.T.A y.T.n y.T.c] 29)) w5.heap.size 29 #[.string y.name, .int .i64 y.ver, .slice y.U.A y.U.n y.U.c, .slice y.C.A y.C.n y.C.c, .slice y.N.A y.N.n y.N.c, .slice y.Q.A y.Q.n y.Q.c, .slice y.E.A y.E.n y.E.c, .slice y.T.A y.T.n y.T.c]) := Lib.hid (Blk.new _ _ _)
      have HQ6 : Hid (Blk (w5.alloc (.cells #[.string y.name, .int .i64 y.ver, .slice y.U.A y.U.n y.U.c, .slice y.C.A y.C.n y.C.c, .slice y.N.A y.N.n y.N.c, .slice y.Q.A y.Q.n y.Q.c, .slice y.E.A y.E.n y.E.c, .slice y.T.A y.T.n y.T.c] 29)) w.heap.size 29 #[.string x.name, .int .i64 x.ver, .slice x.U.A x.U.n x.U.c, .slice x.C.A x.C.n x.C.c, .slice x.N.A x.N.n x.N.c, .slice x.Q.A x.Q.n x.Q.c, .slice x.E.A x.E.n x.E.c, .slice x.T.A x.T.n x.T.c] ∧ Below w.heap.size w (w5.alloc (.cells #[.string y.name, .int .i64 y.ver, .slice y.U.A y.U.n y.U.c, .slice y.C.A y.C.n y.C.c, .slice y.N.A y.N.n y.N.c, .slice y.Q.A y.Q.n y.Q.c, .slice y.E.A y.E.n y.E.c, .slice y.T.A y.T.n y.T.c] 29))) := Lib.hid ⟨HQ5.out.1.alloc _, HQ5.out.2.alloc HQ5.out.2.size _⟩
      have HB6 : Hid (Below w5.heap.size w5 (w5.alloc (.cells #[.string y.name, .int .i64 y.ver, .slice y.U.A y.U.n y.U.c, .slice y.C.A y.C.n y.C.c, .slice y.N.A y.N.n y.N.c, .slice y.Q.A y.Q.n y.Q.c, .slice y.E.A y.E.n y.E.c, .slice y.T.A y.T.n y.T.c] 29))) := Lib.hid (below_of_alloc _)
      have b0 := (HY6.out.cell 0).trans (show _ = some (.string y.name) from rfl)
      have b1 := (HY6.out.cell 1).trans (show _ = some (.int .i64 y.ver) from rfl)
      have b2 := (HY6.out.cell 2).trans (show _ = some (.slice y.U.A y.U.n y.U.c) from rfl)
      have b3 := (HY6.out.cell 3).trans (show _ = some (.slice y.C.A y.C.n y.C.c) from rfl)
      have b4 := (HY6.out.cell 4).trans (show _ = some (.slice y.N.A y.N.n y.N.c) from rfl)
      have b5 := (HY6.out.cell 5).trans (show _ = some (.slice y.Q.A y.Q.n y.Q.c) from rfl)
      have b6 := (HY6.out.cell 6).trans (show _ = some (.slice y.E.A y.E.n y.E.c) from rfl)
      have b7 := (HY6.out.cell 7).trans (show _ = some (.slice y.T.A y.T.n y.T.c) from rfl)
      go_wp2_with fail
      clear b0 b1 b2 b3 b4 b5 b6 b7
      refine (HCy.out _ HB6.out).mono ?_
      rw [hyv]
      rintro e w9 ⟨rfl, hb9⟩
      have HQ9 : Hid (Blk w9 w.heap.size 29 #[.string x.name, .int .i64 x.ver, .slice x.U.A x.U.n x.U.c, .slice x.C.A x.C.n x.C.c, .slice x.N.A x.N.n x.N.c, .slice x.Q.A x.Q.n x.Q.c, .slice x.E.A x.E.n x.E.c, .slice x.T.A x.T.n x.T.c] ∧ Below w.heap.size w w9) := Lib.hid ⟨HQ6.out.1.after hb9, HQ6.out.2.trans (hb9.mono HQ6.out.2.size)⟩
      have HY9 := Lib.hid (HY6.out.after hb9)
      clear hb9 hyv
      have c3 := (HQ9.out.1.cell 3).trans (show _ = some (.slice x.C.A x.C.n x.C.c) from rfl)
      have d3 := (HY9.out.cell 3).trans (show _ = some (.slice y.C.A y.C.n y.C.c) from rfl)
      simp only [tellF, faV]
      cases ok
      all_goals (
        go_wp2_with fail
        all_goals (
          go_ret
          exact ⟨by first | rfl | (simp; done) | (simp; omega), (by (repeat (first | exact HQ9.out.2 | refine below_more ?_ _ | refine below_drew ?_ | refine below_drewN ?_ _)))⟩))
end Go.Proofs.YtilemieknfdjnaaGreat

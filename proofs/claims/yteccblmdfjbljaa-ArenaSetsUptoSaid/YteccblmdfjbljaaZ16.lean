/-
  MEMORY: what holds while the document's Put, Drop, Aim, Loose lay a list: the boxes, the twin, the list that grows.
  WALKS: the document's Drop and Loose, where a list is laid.
-/
import Derived.Test.YteccblmdfjbljaaZ15
namespace Go.Proofs.Yteccblmdfjbljaa
open Go Go.RowKit Go.Sort
set_option linter.unusedVariables false
/-- the boxes, the twin in its box, which came into being in the world X5, and a list of the call's own behind it -/
structure DL (w X5 : World) (next : Int) (A : Option Addr) (n c : Nat) (ov : Value) (l : List (Nd × Leaf)) (e : TypeId) (v : Value) (m : Nat) (xs : List Value) (X : World) : Prop where
  cb : CB w next A n c X
  om : OwnM X w.heap.size ov l
  b : Below X5.heap.size X5 X
  o : Blk X X5.heap.size 24 #[.int .i64 next, ov]
  own : X.ownsRow (X5.heap.size + 1) e 2 v m xs
section
variable {w X5 X X' : World} {next : Int} {A : Option Addr} {n c m : Nat} {ov v : Value} {l : List (Nd × Leaf)} {e : TypeId} {xs : List Value}
theorem DL.start (h5 : CB w next A n c X5) (o5 : OwnM X5 w.heap.size ov l) (e : TypeId) : DL w X5 next A n c ov l e (.slice none 0 0) 0 [] (X5.alloc (.cells #[.int .i64 next, ov] 24)) :=
  ⟨h5.after (below_more (Below.refl _ _) _), o5.after (below_more (Below.refl _ _) _), below_more (Below.refl _ _) _, Blk.new _ _ _, ⟨by simp, .inl ⟨rfl, rfl⟩⟩⟩
theorem DL.after (h : DL w X5 next A n c ov l e v m xs X) (hb : Below X.heap.size X X') : DL w X5 next A n c ov l e v m xs X' :=
  ⟨h.cb.after hb, h.om.after hb, h.b.trans (hb.mono h.b.size), h.o.after hb, own_after h.own hb⟩
theorem DL.push {v' : Value} {m' : Nat} {ys : List Value} (h5 : CB w next A n c X5) (o5 : OwnM X5 w.heap.size ov l) (h : DL w X5 next A n c ov l e v m xs X) (he : e ≠ 24) (hg : X.grownBy X' v.ownBlock)
    (hown : X'.ownsRow (X5.heap.size + 1) e 2 v' m' ys) : DL w X5 next A n c ov l e v' m' ys X' := by
  have hb := below_grows h.b hg h.own (Nat.le_succ _)
  exact ⟨h5.after hb, o5.after hb, hb, h.o.grown hg (Ne.symm (own_blk_ne h.own h.o he)), hown⟩
/-- the end of a props' list: it is laid into its node, and all is answered -/
theorem DL.endP {g i m : Nat} {q : List (ByteArray × ByteArray)} {nd : Nd} {M : Leaf} {A' : Option Addr} {c' : Nat} {co : Nat} (h : DL w X5 next A n c (.slice (some ⟨g, 0, none⟩) n co) l 83 (.slice A' m c') m (propCells q) X) (hB : w.heap.size ≤ X5.heap.size)
    (hn : l.length = n) (hp : l[i]? = some (nd, M)) (hq : q.length = m) (hs : ∀ p ∈ q, p.1.size ≤ maxLen ∧ p.2.size ≤ maxLen) :
    CB w next A n c (X.setCell ⟨g, i * 7 + 4, none⟩ (.slice A' m c')) ∧ Blk (X.setCell ⟨g, i * 7 + 4, none⟩ (.slice A' m c')) X5.heap.size 24 #[.int .i64 next, .slice (some ⟨g, 0, none⟩) n co] ∧
    OwnM (X.setCell ⟨g, i * 7 + 4, none⟩ (.slice A' m c')) w.heap.size (.slice (some ⟨g, 0, none⟩) n co) (l.set i ({ nd with props := q }, ⟨⟨A', m, c'⟩, M.k, M.r⟩)) := by
  have hlf := h.om.leaf _ (List.mem_of_getElem? hp)
  subst hn
  obtain ⟨cs, hg, hBg, _⟩ := own_blk (n := l.length) (xs := allCells l) h.om.own
  refine ⟨⟨h.cb.m.far (p := ⟨g, _, none⟩) (h.cb.m.ne_ hg (by decide)) _, h.cb.r.far (p := ⟨g, _, none⟩) (h.cb.r.ne_ hg (by decide)) _, h.cb.bel.setCell (p := ⟨g, _, none⟩) hBg _⟩, h.o.far (p := ⟨g, _, none⟩) (h.o.ne_ hg (by decide)) _, ?_⟩
  refine h.om.store (j := 4) rfl hp (by omega) rfl ?_
  exact ⟨hq.symm, hlf.kn, hlf.rn, own_mono h.own (by omega), hlf.k, hlf.r, ⟨hlf.sz.con, hlf.sz.role, hs, hlf.sz.refs⟩⟩
/-- .. of a refs' list -/
theorem DL.endR {g i m : Nat} {q : List (ByteArray × Int)} {nd : Nd} {M : Leaf} {A' : Option Addr} {c' : Nat} {co : Nat} (h : DL w X5 next A n c (.slice (some ⟨g, 0, none⟩) n co) l 85 (.slice A' m c') m (refCells q) X) (hB : w.heap.size ≤ X5.heap.size)
    (hn : l.length = n) (hp : l[i]? = some (nd, M)) (hq : q.length = m) (hs : ∀ p ∈ q, p.1.size ≤ maxLen) :
    CB w next A n c (X.setCell ⟨g, i * 7 + 6, none⟩ (.slice A' m c')) ∧ Blk (X.setCell ⟨g, i * 7 + 6, none⟩ (.slice A' m c')) X5.heap.size 24 #[.int .i64 next, .slice (some ⟨g, 0, none⟩) n co] ∧
    OwnM (X.setCell ⟨g, i * 7 + 6, none⟩ (.slice A' m c')) w.heap.size (.slice (some ⟨g, 0, none⟩) n co) (l.set i ({ nd with refs := q }, ⟨M.p, M.k, ⟨A', m, c'⟩⟩)) := by
  have hlf := h.om.leaf _ (List.mem_of_getElem? hp)
  subst hn
  obtain ⟨cs, hg, hBg, _⟩ := own_blk (n := l.length) (xs := allCells l) h.om.own
  refine ⟨⟨h.cb.m.far (p := ⟨g, _, none⟩) (h.cb.m.ne_ hg (by decide)) _, h.cb.r.far (p := ⟨g, _, none⟩) (h.cb.r.ne_ hg (by decide)) _, h.cb.bel.setCell (p := ⟨g, _, none⟩) hBg _⟩, h.o.far (p := ⟨g, _, none⟩) (h.o.ne_ hg (by decide)) _, ?_⟩
  refine h.om.store (j := 6) rfl hp (by omega) rfl ?_
  exact ⟨hlf.pn, hlf.kn, hq.symm, hlf.p, hlf.k, own_mono h.own (by omega), ⟨hlf.sz.con, hlf.sz.role, hlf.sz.props, hs⟩⟩
theorem own_some {X : World} {B n c : Nat} {A : Option Addr} {l : List (Nd × Leaf)} (h : OwnM X B (.slice A n c) l) (hn : l.length = n) (h0 : 0 < n) : ∃ g, A = some ⟨g, 0, none⟩ := by
  have h1 := h.own
  unfold OwnN at h1
  rcases h1.2 with ⟨_, h2⟩ | ⟨g, cap, cur, hv, _⟩
  · omega
  · injection hv with h3
    exact ⟨g, h3⟩
theorem OwnM.cellIs {X : World} {B n c g i j : Nat} {l : List (Nd × Leaf)} {p : Nd × Leaf} {u : Value} (h : OwnM X B (.slice (some ⟨g, 0, none⟩) n c) l) (hn : l.length = n) (hp : l[i]? = some p) (hj : j < 7) (hu : (ndCells p)[j]? = some u) : X.cell? ⟨g, i * 7 + j, none⟩ = some u ∧ X.frozen? ⟨g, i * 7 + j, none⟩ = false := by
  subst hn
  have hi := (List.getElem?_eq_some_iff.1 hp).1
  have h1 := World.ownsRow.cellAt (n := l.length) (xs := allCells l) h.own (i * 7 + j) (by omega)
  refine ⟨?_, World.ownsRow.frozenAt (n := l.length) (xs := allCells l) h.own _⟩
  rw [h1]
  unfold allCells
  rw [flatN_get ndCells_len l i p hp j hj]
  exact hu
theorem CB.laid (h : CB w next A n c X) {l' : List (Nd × Leaf)} {o : Value} (ho : OwnM X w.heap.size o l') (u v : Value) : OwnM ((X.setCell ⟨w.heap.size + 1, 0, none⟩ u).setCell ⟨w.heap.size + 1, 1, none⟩ v) w.heap.size o l' :=
  (ho.other h.r 0 _).other (h.r.set_ 0 _) 1 _
theorem DL.pushP {v' : Value} {fo : List (ByteArray × ByteArray)} {a c' : ByteArray} (h5 : CB w next A n c X5) (o5 : OwnM X5 w.heap.size ov l) (h : DL w X5 next A n c ov l 83 v fo.length (propCells fo) X) (hg : X.grownBy X' v.ownBlock)
    (hown : X'.ownsRow (X5.heap.size + 1) 83 2 v' (fo.length + 1) (propCells fo ++ [.string a, .string c'])) : DL w X5 next A n c ov l 83 v' (fo ++ [(a, c')]).length (propCells (fo ++ [(a, c')])) X' := by
  have := h.push h5 o5 (by decide) hg hown
  rw [List.length_append, List.length_singleton, show propCells (fo ++ [(a, c')]) = propCells fo ++ [.string a, .string c'] from by simp [propCells]]
  exact this
theorem DL.pushR {v' : Value} {fo : List (ByteArray × Int)} {a : ByteArray} {c' : Int} (h5 : CB w next A n c X5) (o5 : OwnM X5 w.heap.size ov l) (h : DL w X5 next A n c ov l 85 v fo.length (refCells fo) X) (hg : X.grownBy X' v.ownBlock)
    (hown : X'.ownsRow (X5.heap.size + 1) 85 2 v' (fo.length + 1) (refCells fo ++ [.string a, .int .i64 c'])) : DL w X5 next A n c ov l 85 v' (fo ++ [(a, c')]).length (refCells (fo ++ [(a, c')])) X' := by
  have := h.push h5 o5 (by decide) hg hown
  rw [List.length_append, List.length_singleton, show refCells (fo ++ [(a, c')]) = refCells fo ++ [.string a, .int .i64 c'] from by simp [refCells]]
  exact this
/-- a box that came behind the list keeps what it holds while the list grows -/
theorem DL.box {t : TypeId} {cs : Array Value} (h : DL w X5 next A n c ov l e v m xs X) (ob : Obj) (hg : ((X.alloc (.cells cs t)).alloc ob).grownBy X' v.ownBlock) : Blk X' X.heap.size t cs :=
  ((Blk.new X t cs).alloc ob).grown hg fun he => absurd (World.ownsRow.lt h.own X.heap.size he.symm).2 (Nat.lt_irrefl _)
/-- the k-th element's two cells -/
theorem row2_at {W : World} {hi np cp : Nat} {Ap : Option Addr} {xs : List Value} (h : Row W 0 hi 2 Ap np cp xs) (hh : hi ≤ W.heap.size) (h0 : 0 < np) : ∃ bp op, Ap = some ⟨bp, op, none⟩ ∧ bp < hi ∧ ∀ j u, xs[j]? = some u → ∀ X, Below W.heap.size W X → X.cell? ⟨bp, op + j, none⟩ = some u := by
  obtain ⟨bp, op, hA, _, hb, hc⟩ := h.2.2.2 h0
  exact ⟨bp, op, hA, hb, fun j u hj X hX => (hX.cell (p := ⟨bp, _, none⟩) (Nat.lt_of_lt_of_le hb hh)).trans (hc j u hj)⟩
end
section
variable {β : Type}
theorem leaveV_succ (name : ByteArray) (l : List (ByteArray × β)) {k : Nat} {p : ByteArray × β} (h : l[k]? = some p) : leaveV name (l.take (k + 1)) = leaveV name (l.take k) ++ if (p.1.toList == name.toList) = true then [] else [p] := by
  unfold leaveV
  rw [List.take_add_one, h, List.filter_append]
  cases hx : (p.1.toList == name.toList) <;> simp [hx]
theorem layV_mem (name : ByteArray) (v : β) : ∀ (l : List (ByteArray × β)) (b : Bool) (x : ByteArray × β), x ∈ layV name v b l → x ∈ l ∨ x = (name, v) := by
  intro l
  induction l with
  | nil =>
    intro b x hx
    cases b with
    | true => simp [layV] at hx
    | false => right; simpa [layV] using hx
  | cons p r ih =>
    intro b x hx
    simp only [layV, List.mem_append] at hx
    rcases hx with hx | hx | hx
    · split at hx
      · right; simpa using hx
      · cases hx
    · split at hx
      · cases hx
      · left; obtain rfl : x = p := by simpa using hx
        exact List.mem_cons_self ..
    · rcases ih _ _ hx with h | h
      · exact .inl (List.mem_cons_of_mem _ h)
      · exact .inr h
theorem layV_step (name : ByteArray) (v : β) (b : Bool) (l : List (ByteArray × β)) {k : Nat} {p : ByteArray × β} (h : l[k]? = some p) :
    layV name v b (l.drop k) = (if b = false ∧ ltS p.1 name = false then [(name, v)] else []) ++ ((if (p.1.toList == name.toList) = true then [] else [p]) ++ layV name v (b || !ltS p.1 name) (l.drop (k + 1))) := by
  obtain ⟨hk, he⟩ := List.getElem?_eq_some_iff.1 h
  rw [List.drop_eq_getElem_cons hk, he]
  rfl
theorem leaveV_len (name : ByteArray) (l : List (ByteArray × β)) : (leaveV name l).length ≤ l.length := List.length_filter_le _ _
end
end Go.Proofs.Yteccblmdfjbljaa
namespace Go.Proofs.Yteccblmdfjbljaa
open Go Go.RowKit Go.Sort
set_option linter.unusedVariables false
attribute [local go_sem ↓] Go.wp_at_zero Go.wp_at_succ
set_option maxRecDepth 20000 in
set_option maxHeartbeats 3200000 in
theorem refDrop_yes (w : World) (hi : Nat) (next id : Int) (A : Option Addr) (n c : Nat) (nds : List Nd) (name : ByteArray) (h : NodesIn w 0 hi A n c nds) (hh : hi ≤ w.heap.size) (hsn : name.size ≤ maxLen) (hrt : rightB next nds = true) (hwd : wordB name = true) (hr : Rise nds) (hn : n ≤ 4096) (hf : ∀ nd ∈ nds, Fits 1 nd)
    (i : Nat) (nd : Nd) (hav : atV nds id = (i : Int)) (hnd : nds[i]? = some nd) :
    Calls Try.prog 20 #[.agg #[.int .i64 next, .slice A n c], .int .i64 id, .string name] w (SetPost w next 0 (nds.set i { nd with props := leaveV name nd.props })) := by
  have hc := h.2.2.1
  have hnc := h.2.1
  unfold maxLen at hc
  have HL := Lib.hid h.1
  have hin : i < n := by rw [← h.1]; exact (List.getElem?_eq_some_iff.1 hnd).1
  obtain ⟨b, o, hA, _, hb, V, hV⟩ := h.all (by omega)
  subst hA
  have hat0 := (hV i nd hnd).1.c4
  have hlf := (hV i nd hnd).2
  generalize V i = L at hat0 hlf
  have hpn := hlf.pn
  have hrow := hlf.p
  have HSZ := Lib.hid hlf.sz.props
  obtain ⟨⟨Ap, np, cp⟩, ⟨Ak, nk, ck⟩, ⟨Ar, nr, cr⟩⟩ := L
  simp only at hat0 hpn hrow
  have hck := hrow.2.2.1
  have hcn := hrow.2.1
  unfold maxLen at hck
  have hfit := (hf nd (List.mem_of_getElem? hnd)).p
  have HAV := Lib.hid hav
  have HM0 := Lib.hid (CB.start w next (some ⟨b, o, none⟩) n c)
  have HRg := Lib.hid (refRight_any _ hi next (some ⟨b, o, none⟩) n c nds (h.below (HM0.out.bel.mono hh)) (Nat.le_trans hh HM0.out.bel.size))
  have HWd := Lib.hid fun (X : World) => refWord_any name X hsn
  have HAt : Hid (∀ X, CB w next (some ⟨b, o, none⟩) n c X → Calls Try.prog 49 #[.agg #[.int .i64 next, .slice (some ⟨b, o, none⟩) n c], .int .i64 id] X (Ret X (.int .i64 i))) := Lib.hid fun X hX => by
    have := refAt_any X hi next id _ n c nds (h.below (hX.bel.mono hh)) (Nat.le_trans hh hX.bel.size) hr hn
    rw [HAV.out] at this
    exact this
  have HTw := Lib.hid fun (X : World) (hX : Below w.heap.size w X) => twin_any X hi next (some ⟨b, o, none⟩) n c nds (h.below (hX.mono hh)) (Nat.le_trans hh hX.size) hn hf
  have a0 := (HM0.out.m.cell 0).trans (show _ = some (.int .i64 next) from rfl)
  have a1 := (HM0.out.m.cell 1).trans (show _ = some (.slice (some ⟨b, o, none⟩) n c) from rfl)
  have HRT := Lib.hid hrt
  have HWT := Lib.hid hwd
  have HND := Lib.hid hnd
  have HPN := Lib.hid hpn
  have HROW := Lib.hid hrow
  have HC4 : Hid (∀ X, Below w.heap.size w X → X.cell? ⟨b, o + i * 7 + 4, none⟩ = some (.slice Ap np cp)) := Lib.hid fun X hX => (hX.cell (p := ⟨b, _, none⟩) (Nat.lt_of_lt_of_le hb hh)).trans hat0
  have hi0' : ¬ (i : Int) < 0 := by omega
  obtain ⟨i0, hi0, hz0, hz1, hz2⟩ := info_parts propInfo
  clear h hrt hwd hr hf hnd hav hV hlf hat0 hpn hrow hsn
  go_enter Try.func20, Try.ntmps20
  go_upto_region 8 with (first | (go_at_call 47; go_must (refine HRg.out.mono ?_; rintro e w2 ⟨rfl, hb2⟩; rw [HRT.out]; have HM2 := Lib.hid (HM0.out.after hb2); have b0 := (HM2.out.m.cell 0).trans (show _ = some (.int .i64 next) from rfl); have b1 := (HM2.out.m.cell 1).trans (show _ = some (.slice (some ⟨b, o, none⟩) n c) from rfl); clear hb2)) | (go_at_call 48; go_must (refine (HWd.out _).mono ?_; rintro e w3 ⟨rfl, rfl⟩; rw [HWT.out])) | (go_at_call 49; (with_reducible refine (HAt.out _ HM2.out).mono ?_); go_must (rintro e w4 ⟨rfl, hb4⟩; have HM4 := Lib.hid (HM2.out.after hb4); have m40 := (HM4.out.m.cell 0).trans (show _ = some (.int .i64 next) from rfl); have m41 := (HM4.out.m.cell 1).trans (show _ = some (.slice (some ⟨b, o, none⟩) n c) from rfl); clear hb4)) | (go_at_call 53; (with_reducible refine (HTw.out _ HM4.out.bel).mono ?_); go_must (rintro e w5 ⟨ov, l, rfl, hown5, hmap5, hb5⟩; obtain ⟨Ao, co, hov⟩ := own_form hown5.own; have hln5 : l.length = n := (by have := congrArg List.length hmap5; rw [List.length_map, HL.out] at this; exact this); rw [hln5] at hov; subst hov; have HLN := Lib.hid hln5; have HM5 := Lib.hid (HM4.out.after hb5); have HO5 := Lib.hid (hown5.mono HM4.out.bel.size); have HMP := Lib.hid hmap5; clear hown5 hmap5 hb5 hln5)))
  obtain ⟨g, hgA⟩ := own_some HO5.out HLN.out (by omega)
  subst hgA
  have HD6 := Lib.hid (DL.start HM5.out HO5.out 83)
  have HZ5 := Lib.hid HM5.out.bel.size
  generalize w5.alloc (.cells #[.int .i64 next, .slice (some ⟨g, 0, none⟩) n co] 24) = X6 at HD6 ⊢
  have m60 := (HD6.out.cb.m.cell 0).trans (show _ = some (.int .i64 next) from rfl)
  have m61 := (HD6.out.cb.m.cell 1).trans (show _ = some (.slice (some ⟨b, o, none⟩) n c) from rfl)
  go_wp2_with ((go_at_call 49; (with_reducible refine (HAt.out _ HD6.out.cb).mono ?_); go_must (rintro e w7 ⟨rfl, hb7⟩; have HD7 := Lib.hid (HD6.out.after hb7); clear hb7)))
  go_loopw [10, 11] (fun v s11 wr => ∃ (k : Nat), k ≤ np ∧ s11 = .int .i64 k ∧ DL w w5 next (some ⟨b, o, none⟩) n c (.slice (some ⟨g, 0, none⟩) n co) l 83 v (leaveV name (nd.props.take k)).length (propCells (leaveV name (nd.props.take k))) wr) (fun _ v _ => np - (intOf v).toNat)
  case atStart => exact ⟨0, Nat.zero_le _, rfl, HD7.out⟩
  case round =>
    obtain ⟨k, hk, rfl, W⟩ := hrel
    obtain ⟨fo, hfo⟩ : ∃ fo, leaveV name (nd.props.take k) = fo := ⟨_, rfl⟩
    rw [hfo] at W
    have hfl : fo.length ≤ k := by
      rw [← hfo]
      have := leaveV_len name (nd.props.take k)
      rw [List.length_take] at this
      omega
    have HFO := Lib.hid hfo
    have HW := Lib.hid W
    clear W hfo
    rename World => wr
    by_cases hlt : k < np
    · obtain ⟨p, hp⟩ : ∃ p, nd.props[k]? = some p := ⟨nd.props[k]'(by have := HPN.out; omega), List.getElem?_eq_getElem _⟩
      obtain ⟨bp, op, hAp, hbp, hcp⟩ := row2_at HROW.out hh (by omega)
      subst hAp
      have hg2 := propCells_get hp
      have HSof : Hid (∀ X, CB w next (some ⟨b, o, none⟩) n c X → Below w.heap.size w X ∧ X.cell? ⟨w.heap.size, 1, none⟩ = some (.slice (some ⟨b, o, none⟩) n c) ∧ X.cell? ⟨b, o + i * 7 + 4, none⟩ = some (.slice (some ⟨bp, op, none⟩) np cp) ∧ X.cell? ⟨bp, op + k * 2, none⟩ = some (.string p.1) ∧ X.cell? ⟨bp, op + k * 2 + 1, none⟩ = some (.string p.2)) := Lib.hid fun X hX => ⟨hX.bel, (hX.m.cell 1).trans rfl, HC4.out X hX.bel, hcp _ _ hg2.1 X hX.bel, hcp _ _ hg2.2 X hX.bel⟩
      have HPK := Lib.hid hp
      clear hcp hg2 hp
      obtain ⟨_, q1, q2, q3, q4⟩ := HSof.out _ HW.out.cb
      cases hne : (p.1.toList == name.toList) with
      | true =>
        have hnb : (p.1.toList != name.toList) = false := by unfold bne; rw [hne]; rfl
        go_wp2_with fail
        go_roundw
        case rel =>
          refine ⟨k + 1, by omega, rfl, ?_⟩
          rw [leaveV_succ name nd.props HPK.out, hne, if_pos rfl, List.append_nil, HFO.out]
          exact HW.out
        case measure => simp [intOf]; omega
      | false =>
        have hnb : (p.1.toList != name.toList) = true := by unfold bne; rw [hne]; rfl
        have HNE := Lib.hid hne
        go_wp2_with (at_builtin; (with_reducible show wpList _ _ _ (⟨some 64, _, _, _, _, _⟩ :: _) _ _); go_must (refine wpList_app _ rfl (.tmp 53) (.tmp 63) _ rfl (w5.heap.size + 1) 83 i0 _ 2 32 Try.underlying77 hi0 hz0 hz1 hz2 rfl (by omega) u10 fo.length (propCells fo) rfl (own_after HW.out.own (below_more (Below.refl _ _) _)) wr.heap.size (wr.heap.size + 1) (some ⟨wr.heap.size, 0, none⟩) 1 1 [.string p.1, .string p.2] rfl (row_blk (n := 1) (Blk.new' rfl) rfl (Nat.le_refl _) (by unfold maxLen; omega)) (by simp [Value.oneCell']) (by unfold maxLen; omega) (by have := HPN.out; omega) (by have := HW.out.o.lt; simp; omega) ?_); go_must (intro v8 w8 hown8 hg8 _; have HX8 := Lib.hid ((HW.out.after (below_more (Below.refl _ _) _)).push HM5.out HO5.out (by decide) hg8 hown8); clear hown8 hg8))
        go_roundw
        case rel =>
          refine ⟨k + 1, by omega, rfl, ?_⟩
          rw [leaveV_succ name nd.props HPK.out, HNE.out, if_neg (by decide), HFO.out, List.length_append, List.length_singleton, show propCells (fo ++ [p]) = propCells fo ++ [.string p.1, .string p.2] from by simp [propCells]]
          exact HX8.out
        case measure => simp [intOf]; omega
    · have hkn : k = np := by omega
      subst hkn
      have hfe : fo = leaveV name nd.props := by rw [← HFO.out, List.take_of_length_le (by have := HPN.out; omega)]
      have HFE := Lib.hid hfe
      obtain ⟨Av, cv, hv⟩ := own_form HW.out.own
      subst hv
      obtain ⟨q, hq, hqn⟩ : ∃ q, l[i]? = some q ∧ q.1 = nd := by
        have h1 : (l.map (·.1))[i]? = some nd := by rw [HMP.out]; exact HND.out
        rw [List.getElem?_map] at h1
        cases hx : l[i]? with
        | none => rw [hx] at h1; cases h1
        | some q => rw [hx] at h1; exact ⟨q, rfl, by simpa using h1⟩
      obtain ⟨nd', M⟩ := q
      obtain rfl : nd' = nd := hqn
      have hcl := HW.out.om.cellIs HLN.out hq (j := 4) (by omega) rfl
      have k9 := hcl.1
      have f9 := hcl.2
      simp only at k9
      have m91 := (HW.out.cb.m.cell 1).trans (show _ = some (.slice (some ⟨b, o, none⟩) n c) from rfl)
      have q2 := HC4.out _ HW.out.cb.bel
      have o90 := (HW.out.o.cell 0).trans (show _ = some (.int .i64 next) from rfl)
      have o91 := (HW.out.o.cell 1).trans (show _ = some (.slice (some ⟨g, 0, none⟩) n co) from rfl)
      obtain ⟨e1, e2, e3⟩ := HW.out.endP HM5.out.bel.size HLN.out hq rfl (fun p hp => HSZ.out p (by rw [hfe] at hp; exact (List.mem_filter.1 hp).1))
      have m92 := (e1.r.frozen 0)
      have m93 := (e1.r.frozen 1)
      have m94 := (e1.r.cell 0).trans (show _ = some (.int .i64 0) from rfl)
      have m95 := (e1.r.cell 1).trans (show _ = some (.slice none 0 0) from rfl)
      have o92 := (e2.cell 0).trans (show _ = some (.int .i64 next) from rfl)
      have o93 := (e2.cell 1).trans (show _ = some (.slice (some ⟨g, 0, none⟩) n co) from rfl)
      have HE1 := Lib.hid e1
      have HE3 := Lib.hid e3
      have HQ := Lib.hid hq
      have HNC := Lib.hid (HO5.out.nodesIn HLN.out)
      clear e1 e2 e3 hcl hq hfe
      go_wp2_with fail
      (try rw [Exit.noGoto_ret])
      (try simp only [Exit.inBlock, Exit.then])
      have hres : Try.f20.results = #[.cell 6 24, .tmp 7] := by kernel_rfl
      refine bodyPost_ret (v := .tuple #[.agg #[.int .i64 next, .slice (some ⟨g, 0, none⟩) n co], .int .i64 0]) ?hr rfl ?_
      case hr =>
        simp only [results, hres]
        go_simp
      refine ⟨next, some ⟨g, 0, none⟩, n, co, rfl, HE1.out.lay _ _, fun h => absurd rfl h, fun _ => ⟨rfl, _, HE1.out.laid HE3.out _ _, by rw [List.length_set]; exact HLN.out, ?_⟩⟩
      rw [List.map_set, HMP.out, HFE.out]
set_option maxRecDepth 20000 in
set_option maxHeartbeats 3200000 in
theorem refLoose_yes (w : World) (hi : Nat) (next id : Int) (A : Option Addr) (n c : Nat) (nds : List Nd) (name : ByteArray) (h : NodesIn w 0 hi A n c nds) (hh : hi ≤ w.heap.size) (hsn : name.size ≤ maxLen) (hrt : rightB next nds = true) (hwd : wordB name = true) (hr : Rise nds) (hn : n ≤ 4096) (hf : ∀ nd ∈ nds, Fits 1 nd)
    (i : Nat) (nd : Nd) (hav : atV nds id = (i : Int)) (hnd : nds[i]? = some nd) :
    Calls Try.prog 24 #[.agg #[.int .i64 next, .slice A n c], .int .i64 id, .string name] w (SetPost w next 0 (nds.set i { nd with refs := leaveV name nd.refs })) := by
  have hc := h.2.2.1
  have hnc := h.2.1
  unfold maxLen at hc
  have HL := Lib.hid h.1
  have hin : i < n := by rw [← h.1]; exact (List.getElem?_eq_some_iff.1 hnd).1
  obtain ⟨b, o, hA, _, hb, V, hV⟩ := h.all (by omega)
  subst hA
  have hat0 := (hV i nd hnd).1.c6
  have hlf := (hV i nd hnd).2
  generalize V i = L at hat0 hlf
  have hpn := hlf.rn
  have hrow := hlf.r
  have HSZ := Lib.hid hlf.sz.refs
  obtain ⟨⟨Ar, nr, cr⟩, ⟨Ak, nk, ck⟩, ⟨Ap, np, cp⟩⟩ := L
  simp only at hat0 hpn hrow
  have hck := hrow.2.2.1
  have hcn := hrow.2.1
  unfold maxLen at hck
  have hfit := (hf nd (List.mem_of_getElem? hnd)).r
  have HAV := Lib.hid hav
  have HM0 := Lib.hid (CB.start w next (some ⟨b, o, none⟩) n c)
  have HRg := Lib.hid (refRight_any _ hi next (some ⟨b, o, none⟩) n c nds (h.below (HM0.out.bel.mono hh)) (Nat.le_trans hh HM0.out.bel.size))
  have HWd := Lib.hid fun (X : World) => refWord_any name X hsn
  have HAt : Hid (∀ X, CB w next (some ⟨b, o, none⟩) n c X → Calls Try.prog 49 #[.agg #[.int .i64 next, .slice (some ⟨b, o, none⟩) n c], .int .i64 id] X (Ret X (.int .i64 i))) := Lib.hid fun X hX => by
    have := refAt_any X hi next id _ n c nds (h.below (hX.bel.mono hh)) (Nat.le_trans hh hX.bel.size) hr hn
    rw [HAV.out] at this
    exact this
  have HTw := Lib.hid fun (X : World) (hX : Below w.heap.size w X) => twin_any X hi next (some ⟨b, o, none⟩) n c nds (h.below (hX.mono hh)) (Nat.le_trans hh hX.size) hn hf
  have a0 := (HM0.out.m.cell 0).trans (show _ = some (.int .i64 next) from rfl)
  have a1 := (HM0.out.m.cell 1).trans (show _ = some (.slice (some ⟨b, o, none⟩) n c) from rfl)
  have HRT := Lib.hid hrt
  have HWT := Lib.hid hwd
  have HND := Lib.hid hnd
  have HPN := Lib.hid hpn
  have HROW := Lib.hid hrow
  have HC4 : Hid (∀ X, Below w.heap.size w X → X.cell? ⟨b, o + i * 7 + 6, none⟩ = some (.slice Ap np cp)) := Lib.hid fun X hX => (hX.cell (p := ⟨b, _, none⟩) (Nat.lt_of_lt_of_le hb hh)).trans hat0
  have hi0' : ¬ (i : Int) < 0 := by omega
  obtain ⟨i0, hi0, hz0, hz1, hz2⟩ := info_parts refInfo
  clear h hrt hwd hr hf hnd hav hV hlf hat0 hpn hrow hsn
  go_enter Try.func24, Try.ntmps24
  go_upto_region 8 with (first | (go_at_call 47; go_must (refine HRg.out.mono ?_; rintro e w2 ⟨rfl, hb2⟩; rw [HRT.out]; have HM2 := Lib.hid (HM0.out.after hb2); have b0 := (HM2.out.m.cell 0).trans (show _ = some (.int .i64 next) from rfl); have b1 := (HM2.out.m.cell 1).trans (show _ = some (.slice (some ⟨b, o, none⟩) n c) from rfl); clear hb2)) | (go_at_call 48; go_must (refine (HWd.out _).mono ?_; rintro e w3 ⟨rfl, rfl⟩; rw [HWT.out])) | (go_at_call 49; (with_reducible refine (HAt.out _ HM2.out).mono ?_); go_must (rintro e w4 ⟨rfl, hb4⟩; have HM4 := Lib.hid (HM2.out.after hb4); have m40 := (HM4.out.m.cell 0).trans (show _ = some (.int .i64 next) from rfl); have m41 := (HM4.out.m.cell 1).trans (show _ = some (.slice (some ⟨b, o, none⟩) n c) from rfl); clear hb4)) | (go_at_call 53; (with_reducible refine (HTw.out _ HM4.out.bel).mono ?_); go_must (rintro e w5 ⟨ov, l, rfl, hown5, hmap5, hb5⟩; obtain ⟨Ao, co, hov⟩ := own_form hown5.own; have hln5 : l.length = n := (by have := congrArg List.length hmap5; rw [List.length_map, HL.out] at this; exact this); rw [hln5] at hov; subst hov; have HLN := Lib.hid hln5; have HM5 := Lib.hid (HM4.out.after hb5); have HO5 := Lib.hid (hown5.mono HM4.out.bel.size); have HMP := Lib.hid hmap5; clear hown5 hmap5 hb5 hln5)))
  obtain ⟨g, hgA⟩ := own_some HO5.out HLN.out (by omega)
  subst hgA
  have HD6 := Lib.hid (DL.start HM5.out HO5.out 85)
  have HZ5 := Lib.hid HM5.out.bel.size
  generalize w5.alloc (.cells #[.int .i64 next, .slice (some ⟨g, 0, none⟩) n co] 24) = X6 at HD6 ⊢
  have m60 := (HD6.out.cb.m.cell 0).trans (show _ = some (.int .i64 next) from rfl)
  have m61 := (HD6.out.cb.m.cell 1).trans (show _ = some (.slice (some ⟨b, o, none⟩) n c) from rfl)
  go_wp2_with ((go_at_call 49; (with_reducible refine (HAt.out _ HD6.out.cb).mono ?_); go_must (rintro e w7 ⟨rfl, hb7⟩; have HD7 := Lib.hid (HD6.out.after hb7); clear hb7)))
  go_loopw [10, 11] (fun v s11 wr => ∃ (k : Nat), k ≤ np ∧ s11 = .int .i64 k ∧ DL w w5 next (some ⟨b, o, none⟩) n c (.slice (some ⟨g, 0, none⟩) n co) l 85 v (leaveV name (nd.refs.take k)).length (refCells (leaveV name (nd.refs.take k))) wr) (fun _ v _ => np - (intOf v).toNat)
  case atStart => exact ⟨0, Nat.zero_le _, rfl, HD7.out⟩
  case round =>
    obtain ⟨k, hk, rfl, W⟩ := hrel
    obtain ⟨fo, hfo⟩ : ∃ fo, leaveV name (nd.refs.take k) = fo := ⟨_, rfl⟩
    rw [hfo] at W
    have hfl : fo.length ≤ k := by
      rw [← hfo]
      have := leaveV_len name (nd.refs.take k)
      rw [List.length_take] at this
      omega
    have HFO := Lib.hid hfo
    have HW := Lib.hid W
    clear W hfo
    rename World => wr
    by_cases hlt : k < np
    · obtain ⟨p, hp⟩ : ∃ p, nd.refs[k]? = some p := ⟨nd.refs[k]'(by have := HPN.out; omega), List.getElem?_eq_getElem _⟩
      obtain ⟨bp, op, hAp, hbp, hcp⟩ := row2_at HROW.out hh (by omega)
      subst hAp
      have hg2 := refCells_get hp
      have HSof : Hid (∀ X, CB w next (some ⟨b, o, none⟩) n c X → Below w.heap.size w X ∧ X.cell? ⟨w.heap.size, 1, none⟩ = some (.slice (some ⟨b, o, none⟩) n c) ∧ X.cell? ⟨b, o + i * 7 + 6, none⟩ = some (.slice (some ⟨bp, op, none⟩) np cp) ∧ X.cell? ⟨bp, op + k * 2, none⟩ = some (.string p.1) ∧ X.cell? ⟨bp, op + k * 2 + 1, none⟩ = some (.int .i64 p.2)) := Lib.hid fun X hX => ⟨hX.bel, (hX.m.cell 1).trans rfl, HC4.out X hX.bel, hcp _ _ hg2.1 X hX.bel, hcp _ _ hg2.2 X hX.bel⟩
      have HPK := Lib.hid hp
      clear hcp hg2 hp
      obtain ⟨_, q1, q2, q3, q4⟩ := HSof.out _ HW.out.cb
      cases hne : (p.1.toList == name.toList) with
      | true =>
        have hnb : (p.1.toList != name.toList) = false := by unfold bne; rw [hne]; rfl
        go_wp2_with fail
        go_roundw
        case rel =>
          refine ⟨k + 1, by omega, rfl, ?_⟩
          rw [leaveV_succ name nd.refs HPK.out, hne, if_pos rfl, List.append_nil, HFO.out]
          exact HW.out
        case measure => simp [intOf]; omega
      | false =>
        have hnb : (p.1.toList != name.toList) = true := by unfold bne; rw [hne]; rfl
        have HNE := Lib.hid hne
        go_wp2_with (at_builtin; (with_reducible show wpList _ _ _ (⟨some 64, _, _, _, _, _⟩ :: _) _ _); go_must (refine wpList_app _ rfl (.tmp 53) (.tmp 63) _ rfl (w5.heap.size + 1) 85 i0 _ 2 24 Try.underlying79 hi0 hz0 hz1 hz2 rfl (by omega) u10 fo.length (refCells fo) rfl (own_after HW.out.own (below_more (Below.refl _ _) _)) wr.heap.size (wr.heap.size + 1) (some ⟨wr.heap.size, 0, none⟩) 1 1 [.string p.1, .int .i64 p.2] rfl (row_blk (n := 1) (Blk.new' rfl) rfl (Nat.le_refl _) (by unfold maxLen; omega)) (by simp [Value.oneCell']) (by unfold maxLen; omega) (by have := HPN.out; omega) (by have := HW.out.o.lt; simp; omega) ?_); go_must (intro v8 w8 hown8 hg8 _; have HX8 := Lib.hid ((HW.out.after (below_more (Below.refl _ _) _)).push HM5.out HO5.out (by decide) hg8 hown8); clear hown8 hg8))
        go_roundw
        case rel =>
          refine ⟨k + 1, by omega, rfl, ?_⟩
          rw [leaveV_succ name nd.refs HPK.out, HNE.out, if_neg (by decide), HFO.out, List.length_append, List.length_singleton, show refCells (fo ++ [p]) = refCells fo ++ [.string p.1, .int .i64 p.2] from by simp [refCells]]
          exact HX8.out
        case measure => simp [intOf]; omega
    · have hkn : k = np := by omega
      subst hkn
      have hfe : fo = leaveV name nd.refs := by rw [← HFO.out, List.take_of_length_le (by have := HPN.out; omega)]
      have HFE := Lib.hid hfe
      obtain ⟨Av, cv, hv⟩ := own_form HW.out.own
      subst hv
      obtain ⟨q, hq, hqn⟩ : ∃ q, l[i]? = some q ∧ q.1 = nd := by
        have h1 : (l.map (·.1))[i]? = some nd := by rw [HMP.out]; exact HND.out
        rw [List.getElem?_map] at h1
        cases hx : l[i]? with
        | none => rw [hx] at h1; cases h1
        | some q => rw [hx] at h1; exact ⟨q, rfl, by simpa using h1⟩
      obtain ⟨nd', M⟩ := q
      obtain rfl : nd' = nd := hqn
      have hcl := HW.out.om.cellIs HLN.out hq (j := 6) (by omega) rfl
      have k9 := hcl.1
      have f9 := hcl.2
      simp only at k9
      have m91 := (HW.out.cb.m.cell 1).trans (show _ = some (.slice (some ⟨b, o, none⟩) n c) from rfl)
      have q2 := HC4.out _ HW.out.cb.bel
      have o90 := (HW.out.o.cell 0).trans (show _ = some (.int .i64 next) from rfl)
      have o91 := (HW.out.o.cell 1).trans (show _ = some (.slice (some ⟨g, 0, none⟩) n co) from rfl)
      obtain ⟨e1, e2, e3⟩ := HW.out.endR HM5.out.bel.size HLN.out hq rfl (fun p hp => HSZ.out p (by rw [hfe] at hp; exact (List.mem_filter.1 hp).1))
      have m92 := (e1.r.frozen 0)
      have m93 := (e1.r.frozen 1)
      have m94 := (e1.r.cell 0).trans (show _ = some (.int .i64 0) from rfl)
      have m95 := (e1.r.cell 1).trans (show _ = some (.slice none 0 0) from rfl)
      have o92 := (e2.cell 0).trans (show _ = some (.int .i64 next) from rfl)
      have o93 := (e2.cell 1).trans (show _ = some (.slice (some ⟨g, 0, none⟩) n co) from rfl)
      have HE1 := Lib.hid e1
      have HE3 := Lib.hid e3
      have HQ := Lib.hid hq
      have HNC := Lib.hid (HO5.out.nodesIn HLN.out)
      clear e1 e2 e3 hcl hq hfe
      go_wp2_with fail
      (try rw [Exit.noGoto_ret])
      (try simp only [Exit.inBlock, Exit.then])
      have hres : Try.f24.results = #[.cell 6 24, .tmp 7] := by kernel_rfl
      refine bodyPost_ret (v := .tuple #[.agg #[.int .i64 next, .slice (some ⟨g, 0, none⟩) n co], .int .i64 0]) ?hr rfl ?_
      case hr =>
        simp only [results, hres]
        go_simp
      refine ⟨next, some ⟨g, 0, none⟩, n, co, rfl, HE1.out.lay _ _, fun h => absurd rfl h, fun _ => ⟨rfl, _, HE1.out.laid HE3.out _ _, by rw [List.length_set]; exact HLN.out, ?_⟩⟩
      rw [List.map_set, HMP.out, HFE.out]
end Go.Proofs.Yteccblmdfjbljaa

/-
  WALKS over package kinds: Free.
-/
import Derived.Test.YtjlpoigcalfdlaaDoorZB20
namespace Go.Proofs.YtjlpoigcalfdlaaDoor
open Go Go.Proofs Go.RowKit Go.Sort
attribute [local go_sem] Oper.semAt_some
set_option linter.unusedVariables false
theorem clone_any (w : World) (s : ByteArray) (h : s.size ≤ 140737488355328) : Calls Tryd.prog 21 #[.string s] w fun e w' => e = .returned (.string s) ∧ Below w.heap.size w w' := by
  have HS : Hid (Calls Tryd.prog 34 #[.string s] w fun e w' => e = .returned (.string s) ∧ Below w.heap.size w w') := Lib.hid (Tryd.stringslite_Clone s w (by omega))
  go_enter Tryd.func21, Tryd.ntmps21
  go_wp2_with (go_at_call 34; refine HS.out.mono ?_; rintro e w2 ⟨rfl, hb2⟩; have HB2 := Lib.hid hb2; clear hb2)
  go_ret
  exact ⟨rfl, HB2.out⟩
/-- the end of such a region as a plain list -/
theorem round_tail {P : Program} {Q : Exit → Act → World → Prop} {m lp : Nat} {ops : Array Oper} (hno : ¬ LetsOut Q) : ∀ (l : List Oper) (a : Act) (w : World), (l.all fun o => match o.op with | .defer _ => false | _ => true) = true → wpList P ops Q l a w → wpListIn (Fence.wide.inRound lp) m P ops Q l a w
  | [], _, _, _, h => h
  | o :: l, a, w, hd, h => by
    rw [List.all_cons, Bool.and_eq_true] at hd
    unfold wpList at h
    unfold wpListIn
    split
    · rename_i hw
      rw [if_pos hw] at h
      rcases h with h | h
      · exact round_oper (fun c hc => by have := hd.1; rw [hc] at this; cases this) (Oper.wp_mono (fun a w h => round_tail hno l a w hd.2 h) h)
      · exact absurd h.2 hno
    · rename_i hw
      rw [if_neg hw] at h
      exact ⟨fun _ _ => trivial, round_tail hno l _ _ hd.2 h⟩
/-- a call that makes memory, ready alone -/
theorem wpAnyH_make {P : Program} {md : Region.Mode} {ops : Array Oper} {Q : Exit → Act → World → Prop} {S R : World → Prop} {fuel : Nat} {listed : Array Bool} {a : Act} {w : World} {i : Nat} {o : Oper} (hr : Region.ready md ops listed = [i]) (ho : ops[i]? = some o)
    (hw : Region.wanted o (yielded ops a.tmps) = true) (f : FuncId) (vs : Array Value) (u : Value) (hrun : (execOp a.eval o).run P w = .ok (.enter f vs) w) (h : Calls P f vs w fun e w' => e = .returned u ∧ R w') (hS : ∀ Y, R Y → S Y)
    (hn : ∀ Y, R Y → wpAnyH P md ops Q S fuel (listed.setIfInBounds i true) (a.put o.dst u) Y) : wpAnyH P md ops Q S (fuel + 1) listed a w :=
  wpAnyH_all hr (by simp) fun j hj => by
    obtain rfl : j = i := by simpa using hj
    unfold wpOp
    simp only [ho]
    rw [if_pos hw]
    left
    unfold Oper.wp
    rw [hrun]
    refine h.mono ?_
    rintro e w' ⟨rfl, h2⟩
    exact ⟨hS _ h2, hn _ h2⟩
/-- an operation that makes memory, ready alone -/
theorem wpAnyH_op {P : Program} {md : Region.Mode} {ops : Array Oper} {Q : Exit → Act → World → Prop} {S : World → Prop} {fuel : Nat} {listed : Array Bool} {a : Act} {w : World} {i : Nat} {o : Oper} (hr : Region.ready md ops listed = [i]) (ho : ops[i]? = some o)
    (hw : Region.wanted o (yielded ops a.tmps) = true) (u : Value) (w' : World) (hrun : (execOp a.eval o).run P w = .ok (.value u) w') (hS : S w')
    (hn : wpAnyH P md ops Q S fuel (listed.setIfInBounds i true) (a.put o.dst u) w') : wpAnyH P md ops Q S (fuel + 1) listed a w :=
  wpAnyH_all hr (by simp) fun j hj => by
    obtain rfl : j = i := by simpa using hj
    unfold wpOp
    simp only [ho]
    rw [if_pos hw]
    left
    unfold Oper.wp
    rw [hrun]
    exact ⟨hS, hn⟩
/-- the boxes of Free: the expression, the names so far -/
structure FB (w : World) (A : Option Addr) (n c gl : Nat) (L : List Bys) (v : Value) (X : World) : Prop where
  bel : Below w.heap.size w X
  gt : w.heap.size < gl
  e : Blk X w.heap.size 24 #[.slice A n c]
  t : Blk X gl 39 #[v]
  o : OwnS X (gl + 1) v L
section
variable {w : World} {A : Option Addr} {n c gl : Nat} {L : List Bys} {v : Value} {X X' : World}
theorem FB.after (h : FB w A n c gl L v X) (hb : Below X.heap.size X X') : FB w A n c gl L v X' := ⟨h.bel.trans (hb.mono h.bel.size), h.gt, h.e.after hb, h.t.after hb, h.o.after hb⟩
theorem ownS_cells (h : OwnS X (gl + 1) v L) : ∀ k, v.ownBlock = some k → gl + 1 ≤ k ∧ ∃ cs fr, X.heap[k]? = some (.cells cs 9 fr) := by
  intro k hk
  rcases h.2 with ⟨rfl, _⟩ | ⟨g, cap, cur, rfl, hb, hg, _⟩
  · cases hk
  · obtain rfl : g = k := Option.some.inj hk
    exact ⟨hb, cur, _, hg⟩
theorem FB.own (h : FB w A n c gl L v X) {row : Option Nat} (hg : X.grownBy X' row) (hr : ∀ r, row = some r → w.heap.size ≤ r ∧ ∃ o : Obj, X.heap[r]? = some o ∧ o.isCells = false) : FB w A n c gl L v X' :=
  ⟨h.bel.grown hg h.bel.size (fun k hk => (hr k hk).1), h.gt, h.e.own hg fun r e => (hr r e).2, h.t.own hg fun r e => (hr r e).2, World.ownsRow.kept h.o hg (by
    cases hv : v.ownBlock with
    | none => exact .inl rfl
    | some k =>
      refine .inr fun he => ?_
      obtain ⟨_, cs, fr, hk⟩ := ownS_cells h.o k hv
      obtain ⟨_, o, ho, hc⟩ := hr k he.symm
      rw [hk] at ho
      obtain rfl := Option.some.inj ho
      cases hc)⟩
theorem FB.box (h : FB w A n c gl L v X) (hg : X.grownBy X' v.ownBlock) : Blk X' gl 39 #[v] := h.t.grown hg (by intro he; have := (ownS_cells h.o _ he.symm).1; omega)
theorem blk_text (Y : World) (T : ByteArray) : Blk (Y.alloc (.cells #[.string T] 9)) Y.heap.size 9 #[.string ⟨T.data.toList.toArray⟩] := by
  have h : (⟨T.data.toList.toArray⟩ : ByteArray) = T := by simp
  rw [h]
  exact Blk.new _ _ _
/-- a name more, laid -/
theorem FB.app (h : FB w A n c gl L v X) {L' : List Bys} {v' : Value} (hg : X.grownBy X' v.ownBlock) (ho : OwnS X' (gl + 1) v' L') : FB w A n c gl L' v' (X'.setCell ⟨gl, 0, none⟩ v') := by
  have hgt := h.gt
  have hlt := h.t.lt
  have e1 : Blk X' w.heap.size 24 #[.slice A n c] := h.e.grown hg (by intro he; have := (ownS_cells h.o _ he.symm).1; omega)
  have t1 : Blk X' gl 39 #[v] := h.t.grown hg (by intro he; have := (ownS_cells h.o _ he.symm).1; omega)
  refine ⟨(h.bel.grown hg h.bel.size (fun k hk => by have := (ownS_cells h.o k hk).1; omega)).setCell (p := ⟨gl, 0, none⟩) (by show w.heap.size ≤ gl; omega) _, hgt, e1.far (p := ⟨gl, 0, none⟩) (by show w.heap.size ≠ gl; omega) _, ?_, ?_⟩
  · have := t1.set_ 0 v'
    simpa using this
  · exact own_sameB ho (SameB.of_set (by show gl < gl + 1; omega))
theorem FB.app_keeps (h : FB w A n c gl L v X) {L' : List Bys} {v' : Value} (hg : X.grownBy X' v.ownBlock) (n₁ : Nat) (h1 : gl < n₁) : KeepsOthers X (X'.setCell ⟨gl, 0, none⟩ v') ∧ KpE w.heap.size n₁ X (X'.setCell ⟨gl, 0, none⟩ v') := by
  have hgt := h.gt
  have hO := ownS_cells h.o
  refine ⟨(KeepsOthers.of_grownBy hg fun j o hj ho => ?_).trans (KeepsOthers.setCell _ _ _), KpE.trans ⟨(Below.refl _ X).grown hg h.bel.size (fun k hk => by have := (hO k hk).1; omega), fun g o hge ho hp => ?_⟩ (KpE.cell (by omega) h1)⟩
  · obtain ⟨_, cs, fr, hk⟩ := hO j hj
    rw [hk] at ho
    obtain rfl := Option.some.inj ho
    rfl
  · refine (hg.block g (Array.getElem?_eq_some_iff.1 ho).1 fun he => ?_).trans ho
    obtain ⟨_, cs, fr, hk⟩ := hO g he.symm
    rw [hk] at ho
    obtain rfl := Option.some.inj ho
    rcases hp with hp | hp
    · simp [plainO] at hp
    · cases hp
theorem FB.turn (h : FB w A n c gl L v X) {L' : List Bys} (hg : X.grownBy X' v.ownBlock) (ho : OwnS X' (gl + 1) v L') : FB w A n c gl L' v X' := by
  have hgt := h.gt
  exact ⟨h.bel.grown hg h.bel.size (fun k hk => by have := (ownS_cells h.o k hk).1; omega), hgt, h.e.grown hg (by intro he; have := (ownS_cells h.o _ he.symm).1; omega), h.t.grown hg (by intro he; have := (ownS_cells h.o _ he.symm).1; omega), ho⟩
theorem FB.defer (h : FB w A n c gl L v X) (hg : X.grownBy X' v.ownBlock) {D : Nat} {o : Obj} (hD : X.heap[D]? = some o) (ho : o.isCells = false) : X'.heap[D]? = some o := by
  refine (hg.block D (Array.getElem?_eq_some_iff.1 hD).1 fun he => ?_).trans hD
  obtain ⟨_, cs, fr, hk⟩ := ownS_cells h.o D he.symm
  rw [hk] at hD
  obtain rfl := Option.some.inj hD
  cases ho
end
theorem free_res (fn : Func) (hres : fn.results = #[.tmp 2, .tmp 3]) (tmps : Array Value) (X : World) (v u : Value) (h2 : tmps[2]?.getD undef = v) (h3 : tmps[3]?.getD undef = u) : (results fn tmps).run Tryd.prog X = .ok (.tuple #[v, u]) X := by
  subst h2 h3
  simp only [results, hres]
  go_simp
/-- what Free leaves -/
def FreeIs (w : World) (r : List Bys × Int) (e : Ending) (w' : World) : Prop := ∃ v, e = .returned (.tuple #[v, .int .i64 r.2]) ∧ OwnS w' w.heap.size v r.1 ∧ Below w.heap.size w w'
theorem freeIs {w w' : World} {r : List Bys × Int} {v : Value} {l : List Bys} {x : Int} (hr : r = (l, x)) (ho : OwnS w' w.heap.size v l) (hb : Below w.heap.size w w') : FreeIs w r (.returned (.tuple #[v, .int .i64 x])) w' := by
  subst hr
  exact ⟨v, rfl, ho, hb⟩
theorem ownS_nil (X : World) (B : Nat) : OwnS X B (.slice none 0 0) [] := ⟨rfl, .inl ⟨rfl, rfl⟩⟩
def FI (w : World) (A : Option Addr) (n c gl : Nat) (l : List EN) (pre : List (Nat × Bool)) (W : World) : Prop := ∃ v, FB w A n c gl (freeOf l pre) v W
theorem FI.own {w : World} {A : Option Addr} {n c gl B : Nat} {l : List EN} (hB : w.heap.size ≤ B) : OwnFrom B (FI w A n c gl l) := by
  rintro s X X' row ⟨v, h⟩ hg hr
  exact ⟨v, h.own hg fun r e => ⟨Nat.le_trans hB (hr r e).1, (hr r e).2⟩⟩
def FX (pre : List (Nat × Bool)) (W : World) : Prop := False
theorem FX.own {B : Nat} : OwnFrom B FX := fun _ _ _ _ h _ _ => h.elim
set_option maxRecDepth 20000 in
set_option maxHeartbeats 6400000 in
theorem free_any (w : World) (hi : Nat) (A : Option Addr) (n c : Nat) (l : List (EN × Sl)) (hl : ExIn w hi ⟨A, n, c⟩ l) (hh : hi ≤ w.heap.size) (ev : ExprEnv w) :
    Calls Tryd.prog 12 #[.agg #[.slice A n c]] w (FreeIs w (freeV (nodesOf l))) := by
  have hm := hl.max
  unfold maxLen at hm
  have HL := Lib.hid hl
  have HN : Hid (n = l.length) := Lib.hid hl.g.n
  have HEV := Lib.hid ev
  clear hl ev
  generalize hrr : freeV (nodesOf l) = rr
  have HRR := Lib.hid hrr
  clear hrr
  have HE0 : Hid (Blk (w.alloc (.cells #[.slice A n c] 24)) w.heap.size 24 #[.slice A n c]) := Lib.hid (Blk.new _ _ _)
  have HB0 : Hid (Below w.heap.size w (w.alloc (.cells #[.slice A n c] 24))) := Lib.hid (below_of_alloc _)
  refine callsIn_wide.1 (callsIn_of_wp_marks (n := 1) Tryd.func12 rfl trivial (wpIn_wide.2 ?_))
  simp only [Tryd.ntmps12, List.size_toArray, List.length_cons, List.length_nil, Nat.reduceAdd, Nat.reduceSub, Array.replicate_succ, Array.replicate_zero, List.push_toArray, List.append_toArray, List.nil_append, List.cons_append]
  go_upto_region 1 with (fail)
  generalize w.alloc (.cells #[.slice A n c] 24) = X0 at HE0 HB0 ⊢
  have HRT := Lib.hid (right_x X0 hi A n c l (HL.out.below (HB0.out.mono hh)) (Nat.le_trans hh HB0.out.size) (HEV.out.below HB0.out))
  have cx := (HE0.out.cell 0).trans (show _ = some (.slice A n c) from rfl)
  by_cases h0 : rightV (nodesOf l) = 0
  · obtain ⟨f, hf⟩ := tree_of h0
    rw [h0] at HRT
    have HF := Lib.hid hf
    have HE := Lib.hid ((freeV_tree h0 hf).symm.trans HRR.out)
    have hn256 : n ≤ 256 := by have := hf.len; rw [nodesOf_len] at this; have := HN.out; omega
    clear h0 hf
    go_upto_region 4 with (go_at_call 15; refine HRT.out.mono ?_; rintro e w2 ⟨rfl, hb2⟩; have HB2 := Lib.hid (HB0.out.trans (hb2.mono HB0.out.size)); have HE2 := Lib.hid (HE0.out.after hb2); clear hb2)
    clear cx HRT
    have HB4 : Hid (FB w A n c w2.heap.size [] (.slice none 0 0) (w2.alloc (.cells #[.slice none 0 0] 39))) := Lib.hid ⟨HB2.out.trans ((below_of_alloc _).mono HB2.out.size), HE2.out.lt, HE2.out.alloc _, Blk.new _ _ _, ownS_nil _ _⟩
    go_upto_region 5 with (fail)
    have HZ4 : Hid ((w2.alloc (.cells #[.slice none 0 0] 39)).heap.size = w2.heap.size + 1) := Lib.hid (by simp)
    generalize w2.alloc (.cells #[.slice none 0 0] 39) = W4 at HB4 HZ4 ⊢
    generalize w2.heap.size = gl at HB4 HZ4 ⊢
    have cx := (HB4.out.e.cell 0).trans (show _ = some (.slice A n c) from rfl)
    go_wp2_with (go_at_call 16; refine (behind_any _ A n c).mono ?_; rintro e w6 ⟨rfl, rfl⟩)
    have hb4 := HB4.out.bel.size
    have hgt4 := HB4.out.gt
    have HSQ := Lib.hid (behind_seq (W4.alloc (.cells #[.slice A n c] 22)) hi A n c l (HL.out.below ((HB4.out.bel.trans ((below_of_alloc _).mono hb4)).mono hh)) f HF.out w.heap.size W4.heap.size hh (by simp; omega) (Blk.new _ _ _))
    have hz6 : (W4.alloc (.cells #[.slice A n c] 22)).heap.size = W4.heap.size + 1 := by simp
    have HNL : Hid ((nodesOf l).length = n) := Lib.hid (by rw [nodesOf_len, HN.out])
    refine (wpIn_wide (n := 1)).1 (range_behind rfl rfl (enters_of Tryd.func27 (by kernel_rfl) rfl) HSQ.out (Below.refl _ _) rfl (by rw [hz6]; omega) (FI w A n c gl (nodesOf l)) FX (FI.own (by rw [hz6]; omega)) FX.own
      ⟨_, HB4.out.after (below_of_alloc _)⟩
      (fun x => { tmps := #[.agg #[.slice A n c], .pointer (some ⟨w.heap.size, 0, none⟩), .slice none 0 0, .int .i64 0, .int .i64 0, .pointer (some ⟨gl, 0, none⟩), .int .i64 (x.1 : Int), .bool x.2, .agg #[.slice A n c], .int .i64 0, .int .i64 0, .bool false, undef, .pointer (some ⟨w.heap.size, 0, none⟩), .slice A n c, .func (.func 27) #[] #[.pointer (some ⟨W4.heap.size, 0, none⟩)], .int .i64 (x.1 : Int), .bool x.2, undef, undef, undef, undef, undef, undef, undef, undef, undef, undef, undef, undef, undef, undef, undef], defers := [] }) ?assign ?body ?done ?stop)
    case assign =>
      intro lp x W K hK
      gi_wp2
      exact hK
    case body =>
      rintro lp pre x W ⟨v, hI⟩ hpf hw2
      have hxm : x ∈ postOf f := hpf.subset (by simp)
      have hxn := post_in f 0 _ x hxm
      rw [Nat.zero_add, HF.out.size, HNL.out] at hxn
      have hqn := hxn.2
      have hpl := hpf.length_le
      rw [show (postOf f).length = f.size from post_len f 0 _, HF.out.size, HNL.out, List.length_append] at hpl
      obtain ⟨q, b⟩ := x
      simp only at hqn
      have HFB := Lib.hid hI
      have HLN : Hid ((freeOf (nodesOf l) pre).length ≤ 256) := Lib.hid (by have := freeOf_len (nodesOf l) pre; omega)
      have hsz := hI.bel.size
      have hglW := hI.t.lt
      cases b with
      | false =>
        have hst : FI w A n c gl (nodesOf l) (pre ++ [(q, false)]) W := ⟨v, by rw [freeOf_app, show freeOf (nodesOf l) [(q, false)] = [] from rfl, List.append_nil]; exact HFB.out⟩
        clear hI hpf hxm hxn
        gi_wp2
        exact ⟨KeepsOthers.refl _, KpE.after (Below.refl _ _) hsz, hst⟩
      | true =>
        obtain ⟨b, o, x, hA, hb, hx, hc, hin, hok⟩ := HL.out.at_ (i := q) hqn
        simp only at hA
        subst hA
        have hxe := nodesOf_at hx
        have HNA : Hid (freeOf (nodesOf l) (pre ++ [(q, true)]) = freeOf (nodesOf l) pre ++ [x.1.text.data.toList]) := Lib.hid (by
          rw [freeOf_app]
          congr 1
          simp only [freeOf, List.filterMap_cons, List.filterMap_nil, if_true]
          unfold nameAt
          rw [hxe]; rfl)
        obtain ⟨⟨kd, T, nn, ks⟩, ⟨A', n', c'⟩⟩ := x
        simp only at HNA
        have HT : Hid (T.size ≤ 140737488355328) := Lib.hid hok.t
        have hc1 := hc.below HFB.out.bel (show b < w.heap.size by omega)
        have c1 := hc1.c1
        simp only at c1
        have hbw : b < W.heap.size := by omega
        have hww : w.heap.size < W.heap.size := HFB.out.e.lt
        have HCL : Hid (∀ Y, Below W.heap.size W Y → Y.cell? ⟨gl, 0, none⟩ = some v ∧ Y.cell? ⟨w.heap.size, 0, none⟩ = some (.slice (some ⟨b, o, none⟩) n c) ∧ Y.cell? ⟨b, o + q * 4 + 1, none⟩ = some (.string T)) := Lib.hid fun Y hY =>
          ⟨(hY.cell (p := ⟨gl, 0, none⟩) hglW).trans ((HFB.out.t.cell 0).trans rfl), (hY.cell (p := ⟨w.heap.size, 0, none⟩) hww).trans ((HFB.out.e.cell 0).trans rfl), (hY.cell (p := ⟨b, _, none⟩) hbw).trans c1⟩
        clear hI hpf hxm hxn hx hc hin hok hxe hc1 c1
        gi_wp2
        refine wpIn_region_round_tail (lp := lp) 9 (fun Y => Below W.heap.size W Y ∧ Y.cell? ⟨gl, 0, none⟩ = some v ∧ Y.cell? ⟨w.heap.size, 0, none⟩ = some (.slice (some ⟨b, o, none⟩) n c) ∧ Y.cell? ⟨b, o + q * 4 + 1, none⟩ = some (.string T)) (by kernel_rfl) (by kernel_rfl) (by kernel_rfl) ?hNf ?hSf (fun hHeld => ?qf0)
        case hNf => (rintro ⟨a', w', h⟩; exact h.elim)
        case hSf => exact ⟨drew1_below W, HCL.out _ (drew1_below W)⟩
        case qf0 =>
          simp only [List.take_succ_cons, List.take_zero, List.drop_succ_cons, List.drop_zero]
          refine wpAnyH_take (i := 0) (oi := ⟨some 19, _, _, _, _, _⟩) (v := (v)) rfl (by kernel_rfl) (by kernel_rfl) (by kernel_rfl) (fun _ _ _ h => h) (Or.inl ⟨by rfl, ?yf_1⟩) (by assumption) ?qf_1
          case yf_1 => (intro w hSw; (try dsimp only at hSw); go_simp)
          case qf_1 =>
            (try simp only [Act.put]); (try simp only [List.setIfInBounds_toArray])
            refine wpAnyH_take (i := 1) (oi := ⟨some 20, _, _, _, _, _⟩) (v := (.pointer (some ⟨w.heap.size, 0, none⟩))) rfl (by kernel_rfl) (by kernel_rfl) (by kernel_rfl) (fun _ _ _ h => h) (Or.inl ⟨by rfl, ?yf_2⟩) (by assumption) ?qf_2
            case yf_2 => (intro w hSw; (try dsimp only at hSw); go_simp)
            case qf_2 =>
              (try simp only [Act.put]); (try simp only [List.setIfInBounds_toArray])
              refine wpAnyH_take (i := 2) (oi := ⟨some 21, _, _, _, _, _⟩) (v := (.slice (some ⟨b, o, none⟩) n c)) rfl (by kernel_rfl) (by kernel_rfl) (by kernel_rfl) (fun _ _ _ h => h) (Or.inl ⟨by rfl, ?yf_3⟩) (by assumption) ?qf_3
              case yf_3 => (intro w hSw; (try dsimp only at hSw); go_simp)
              case qf_3 =>
                (try simp only [Act.put]); (try simp only [List.setIfInBounds_toArray])
                refine wpAnyH_take (i := 3) (oi := ⟨some 22, _, _, _, _, _⟩) (v := (.int .i64 (q : Int))) rfl (by kernel_rfl) (by kernel_rfl) (by kernel_rfl) (fun _ _ _ h => h) (Or.inl ⟨by rfl, ?yf_4⟩) (by assumption) ?qf_4
                case yf_4 => (intro w hSw; (try dsimp only at hSw); go_simp)
                case qf_4 =>
                  (try simp only [Act.put]); (try simp only [List.setIfInBounds_toArray])
                  refine wpAnyH_take (i := 4) (oi := ⟨some 23, _, _, _, _, _⟩) (v := (.pointer (some ⟨b, o + q * 4, none⟩))) rfl (by kernel_rfl) (by kernel_rfl) (by kernel_rfl) (fun _ _ _ h => h) (Or.inl ⟨by rfl, ?yf_5⟩) (by assumption) ?qf_5
                  case yf_5 => (intro w hSw; (try dsimp only at hSw); go_simp)
                  case qf_5 =>
                    (try simp only [Act.put]); (try simp only [List.setIfInBounds_toArray])
                    refine wpAnyH_take (i := 5) (oi := ⟨some 24, _, _, _, _, _⟩) (v := (.pointer (some ⟨b, o + q * 4 + 1, none⟩))) rfl (by kernel_rfl) (by kernel_rfl) (by kernel_rfl) (fun _ _ _ h => h) (Or.inl ⟨by rfl, ?yf_6⟩) (by assumption) ?qf_6
                    case yf_6 => (intro w hSw; (try dsimp only at hSw); go_simp)
                    case qf_6 =>
                      (try simp only [Act.put]); (try simp only [List.setIfInBounds_toArray])
                      refine wpAnyH_take (i := 6) (oi := ⟨some 25, _, _, _, _, _⟩) (v := (.string T)) rfl (by kernel_rfl) (by kernel_rfl) (by kernel_rfl) (fun _ _ _ h => h) (Or.inl ⟨by rfl, ?yf_7⟩) (by assumption) ?qf_7
                      case yf_7 => (intro w hSw; (try dsimp only at hSw); go_simp)
                      case qf_7 =>
                        (try simp only [Act.put]); (try simp only [List.setIfInBounds_toArray])
                        refine wpAnyH_make (i := 7) (o := ⟨some 26, _, _, _, _, _⟩) (by kernel_rfl) rfl (by simp [Region.wanted, yielded]) 21 #[.string T] (.string T) (R := fun Y => Below W.heap.size W Y) (by go_simp) ((clone_any W.drew T HT.out).mono fun e w' h => ⟨h.1, (drew1_below W).trans (h.2.mono (drew1_below W).size)⟩) (fun Y hY => ⟨hY, HCL.out Y hY⟩) (fun Y hY => ?qfin)
                        case qfin =>
                          (try simp only [Act.put]); (try simp only [List.setIfInBounds_toArray])
                          refine wpAnyH_op (i := 8) (o := ⟨some 27, _, _, _, _, _⟩) (by kernel_rfl) rfl (by simp [Region.wanted, yielded]) (.slice (some ⟨Y.heap.size, 0, none⟩) 1 1) (Y.alloc (.cells #[.string T] 9)) (by go_simp) ⟨hY.trans ((below_of_alloc _).mono hY.size), HCL.out _ (hY.trans ((below_of_alloc _).mono hY.size))⟩ ?qop
                          case qop =>
                            (try simp only [Act.put]); (try simp only [List.setIfInBounds_toArray])
                            refine wpAnyH_done (by kernel_rfl) ?_ _
                            clear hHeld
                            refine round_tail (by rintro ⟨a', w', h⟩; exact h.elim) _ _ _ (by kernel_rfl) ?_
                            have HY := Lib.hid hY
                            have HFZ : Hid (FB w (some ⟨b, o, none⟩) n c gl (freeOf (nodesOf l) pre) v (Y.alloc (.cells #[.string T] 9))) := Lib.hid ((HFB.out.after hY).after (below_of_alloc _))
                            have HRO : Hid (Row (Y.alloc (.cells #[.string T] 9)) Y.heap.size (Y.heap.size + 1) 1 (some ⟨Y.heap.size, 0, none⟩) 1 1 (encsY [T.data.toList])) := Lib.hid (row_one_str (S := T.data.toList) (w := Y.alloc (.cells #[.string T] 9)) (blk_text Y T))
                            have hgY : gl + 1 ≤ (Y.alloc (.cells #[.string T] 9)).heap.size := by have := HFZ.out.t.lt; omega
                            clear hY
                            refine app_strs (o := ⟨some 28, _, _, _, _, _⟩) rfl (.tmp 19) (.tmp 27) rfl (gl + 1) v (freeOf (nodesOf l) pre).length (encsY (freeOf (nodesOf l) pre)) rfl (OwnS.num HFZ.out.o rfl) Y.heap.size (Y.heap.size + 1) (some ⟨Y.heap.size, 0, none⟩) 1 1 [T.data.toList] rfl HRO.out ((freeOf (nodesOf l) pre).length + 1) rfl (by have := HLN.out; omega) hgY ?_
                            intro A2 c2 Z hown hgr hbz
                            have HGR := Lib.hid hgr
                            have HOW : Hid (OwnS Z (gl + 1) (.slice A2 ((freeOf (nodesOf l) pre).length + 1) c2) (freeOf (nodesOf l) pre ++ [T.data.toList])) := Lib.hid (by unfold OwnS; rw [List.length_append]; unfold encsY at hown ⊢; rw [List.map_append]; exact hown)
                            have ht1 := HFZ.out.box hgr
                            have cz := (ht1.cell 0).trans (show _ = some v from rfl)
                            have fz := ht1.frozen 0
                            clear hown hgr hbz ht1
                            go_wp2_with fail
                            have hkk := HFZ.out.app_keeps (v' := .slice A2 ((freeOf (nodesOf l) pre).length + 1) c2) (L' := freeOf (nodesOf l) pre ++ [T.data.toList]) HGR.out ((W4.alloc (.cells #[.slice (some ⟨b, o, none⟩) n c] 22)).heap.size + 2) (by rw [hz6, HZ4.out]; omega)
                            have hYA := HY.out.trans ((below_of_alloc (.cells #[.string T] 9)).mono HY.out.size)
                            refine ⟨(keeps_after hYA).trans hkk.1, (KpE.after hYA hsz).trans hkk.2, .slice A2 ((freeOf (nodesOf l) pre).length + 1) c2, ?_⟩
                            rw [HNA.out]
                            exact HFZ.out.app HGR.out HOW.out
    case done =>
      rintro D W hD ⟨v, hI⟩ hDf
      have HRE : Hid (rr = (namesV (freeOf (nodesOf l) (postOf f)), 0)) := Lib.hid HE.out.symm
      have hLl : (freeOf (nodesOf l) (postOf f)).length ≤ 256 := by
        have := freeOf_len (nodesOf l) (postOf f)
        rw [show (postOf f).length = f.size from post_len f 0 _, HF.out.size, HNL.out] at this
        omega
      generalize freeOf (nodesOf l) (postOf f) = L at HRE hI hLl
      have HI := Lib.hid hI
      have HDf := Lib.hid hDf
      have HSO := Lib.hid (sort_anyS W (gl + 1) v L hI.o (by omega))
      have c5 := (hI.t.cell 0).trans (show _ = some v from rfl)
      clear hI hDf
      go_wp2_with (first | (go_at_call 22; refine HSO.out.mono ?_; rintro e w2 ⟨rfl, ho2, hg2⟩; have HI2 := Lib.hid (HI.out.turn hg2 ho2); have HD2 := Lib.hid (HI.out.defer hg2 HDf.out rfl); have c52 := (HI2.out.t.cell 0).trans (show _ = some v from rfl); have HCO := Lib.hid (compact_anyS w2 (gl + 1) v (sortS L) ho2 (by rw [sortS_len]; omega)); clear ho2 hg2) | (go_at_call 23; refine HCO.out.mono ?_; rintro e w3 ⟨v3, rfl, ho3, hg3⟩; have HD3 := Lib.hid (HI2.out.defer hg3 HD2.out rfl); have HB3 : Hid (Below w.heap.size w w3) := Lib.hid (HI2.out.bel.grown hg3 HI2.out.bel.size (fun k hk => by have h1 := (ownS_cells HI2.out.o k hk).1; have h2 := HI2.out.gt; omega)); have HO3 := Lib.hid ho3; clear ho3 hg3))
      refine ⟨by simp, .inl ⟨D, _, rfl, run_takeDeferred HD3.out, ?_⟩⟩
      have hgp := grownBy_putObj' w3 D (.deferred none)
      have hwD : w.heap.size ≤ D := by rw [hz6] at hD; omega
      refine ⟨_, free_res _ (by kernel_rfl) _ _ _ _ rfl rfl, freeIs HRE.out ?_ (HB3.out.grown hgp HB3.out.size (fun k hk => by cases hk; exact hwD))⟩
      have ho := World.ownsRow.kept HO3.out hgp (by
        cases hv : v3.ownBlock with
        | none => exact .inl rfl
        | some k =>
          refine .inr fun he => ?_
          obtain ⟨_, cs, fr, hk⟩ := ownS_cells HO3.out k hv
          injection he with he
          subst he
          rw [HD3.out] at hk
          cases hk)
      rw [← compact_sort]
      exact own_mono ho (by have := HB4.out.gt; omega)
    case stop =>
      rintro D k W hD hk hF
      exact hF.elim
  · have HE2 : Hid (rr = ([], rightV (nodesOf l))) := Lib.hid ((freeV_bad h0).symm.trans HRR.out).symm
    have b0 : (rightV (nodesOf l) != 0) = true := by rw [bne_iff_ne]; exact h0
    generalize rightV (nodesOf l) = rv at HE2 b0 HRT
    clear h0
    go_wp2_with (go_at_call 15; refine HRT.out.mono ?_; rintro e w2 ⟨rfl, hb2⟩; have HB2 := Lib.hid (HB0.out.trans (hb2.mono HB0.out.size)); clear hb2)
    exact ⟨_, free_res _ (by kernel_rfl) _ _ _ _ rfl rfl, freeIs HE2.out (ownS_nil _ _) HB2.out⟩
end Go.Proofs.YtjlpoigcalfdlaaDoor

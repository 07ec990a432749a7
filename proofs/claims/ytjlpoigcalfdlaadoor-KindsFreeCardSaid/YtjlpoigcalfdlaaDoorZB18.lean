/-
  WALKS over package kinds' walker: walk of every tree; the iterator that is behind behindKids.
  A RANGE OVER THE NODES, EACH BEHIND ITS KIDS, where a round may leave the function: the law at the statement.
  WALKS over package kinds: behindKids, Each.
-/
import Derived.Test.YtjlpoigcalfdlaaDoorZB17
import Derived.Laws.EntriesVeiled
import Derived.RangeFuncFrom
import Derived.RangeFuncCalls
import Derived.RangeFuncLeaves
import Derived.Shelf.RegionOpen
import Derived.OwnWalkIn
import Derived.TacticsInMore
import Derived.LoopNIn
import Derived.LoopIn
namespace Go.Proofs.YtjlpoigcalfdlaaDoor
open Go Go.RowKit Go.Sort
set_option linter.unusedVariables false
theorem walk_any {w₀ : World} {hi : Nat} {A : Option Addr} {n c : Nat} {l : List (EN × Sl)} {gw gm n₀ n₁ lp : Nat} {N : List (Nat × Bool)} {J Jx : Inv} (E : WE w₀ hi A n c l gw gm n₀ n₁ lp N J Jx) :
    ∀ (M : Nat) (k : Int) (s : ByteArray) (i : Int) (a : Fo) (p : Nat) (e : Bnd), At (nodesOf l) p (.cons k s i a .nil) → a.size ≤ M → WalkAt w₀ A n c gw gm n₀ n₁ lp N J Jx p (postT k s a p e) e (4 * a.size + 2)
  | 0, k, s, i, a, p, e, ha, hM => walk_node E k s i a p e ha fun kk ss ii aa pp ee _ h => by omega
  | M + 1, k, s, i, a, p, e, ha, hM => walk_node E k s i a p e ha fun kk ss ii aa pp ee h1 h2 => walk_any E M kk ss ii aa pp ee h1 (by omega)
/-- the nodes, each behind its kids -/
def postOf (f : Fo) : List (Nat × Bool) := f.post 0 (fun _ => [])
theorem Tree.root {l : List EN} {f : Fo} (h : Tree l f) : ∃ k s i a, f = .cons k s i a .nil := by
  have h1 := h.one
  cases f with
  | nil => simp [Fo.offs] at h1
  | cons k s i a r =>
    cases r with
    | nil => exact ⟨k, s, i, a, rfl⟩
    | cons => simp [Fo.offs] at h1
/-- the contract of what goes through the nodes: each behind its kids; a round may say that it is enough -/
def SeqK (g : Nat) (lb : Array Value) (n₀ : Nat) (post : List (Nat × Bool)) (w : World) : Prop :=
  ∀ (lp : Nat) (J Jx : Inv) (W : World), Below w.heap.size w W → AbidesFrom W.heap.size J → AbidesFrom W.heap.size Jx →
    (∀ (pre : List (Nat × Bool)) (x : Nat × Bool) (W1 : World), J pre W1 → pre ++ [x] <+: post → YieldAt Fence.wide 0 Tryd.prog lp #[.int .i64 (x.1 : Int), .bool x.2] W1 fun e W' =>
      (e = .returned (.bool true) ∧ J (pre ++ [x]) W' ∧ KpE n₀ W.heap.size W1 W') ∨ (e = .returned (.bool false) ∧ Jx (pre ++ [x]) W' ∧ KpE n₀ W.heap.size W1 W')) →
    J [] W →
    Calls Tryd.prog g (#[.func (.yield lp) #[] #[]] ++ lb) W fun e W' => (∃ v, e = .returned v) ∧ (J post W' ∨ ∃ k, k < post.length ∧ Jx (post.take (k + 1)) W')
set_option maxRecDepth 20000 in
set_option maxHeartbeats 3200000 in
theorem behind_seq (w : World) (hi : Nat) (A : Option Addr) (n c : Nat) (l : List (EN × Sl)) (hl : ExIn w hi ⟨A, n, c⟩ l) (f : Fo) (hf : Tree (nodesOf l) f) (n₀ gb : Nat) (hh : hi ≤ n₀) (hn0 : n₀ ≤ w.heap.size) (hb : Blk w gb 22 #[.slice A n c]) :
    SeqK 27 #[.pointer (some ⟨gb, 0, none⟩)] n₀ (postOf f) w := by
  intro lp J Jx W hbel hJ hJx hY hJ0
  obtain ⟨k, s, i, a, rfl⟩ := hf.root
  have hps : postOf (.cons k s i a .nil) = postT k s a 0 [] := by unfold postOf; rw [post_cons]; simp [Fo.post]
  rw [hps] at hY ⊢
  have hbW := hb.after hbel
  have cb := (hbW.cell 0).trans (show _ = some (.slice A n c) from rfl)
  have hsz : a.size ≤ 256 := by have h1 := hf.len; have h2 := hf.size; simp only [Fo.size] at h2; omega
  have HM := Lib.hid (MapIs.made W)
  have hms : (W.alloc (.map #[] 0)).heap.size = W.heap.size + 1 := by simp
  have HMW : Hid (MapIs ((W.alloc (.map #[] 0)).alloc (.cells #[.slice A n c, .map (some W.heap.size), yv lp] 64)) W.heap.size 0 []) := Lib.hid (HM.out.after (below_of_alloc _))
  have HBX : Hid (Blk ((W.alloc (.map #[] 0)).alloc (.cells #[.slice A n c, .map (some W.heap.size), yv lp] 64)) (W.heap.size + 1) 64 #[.slice A n c, .map (some W.heap.size), yv lp]) := Lib.hid (Blk.new' hms.symm)
  have HJ2 : Hid (J [] ((W.alloc (.map #[] 0)).alloc (.cells #[.slice A n c, .map (some W.heap.size), yv lp] 64))) := Lib.hid (abides_alloc hJ (abides_alloc hJ hJ0 _) _)
  have HB2 : Hid (Below n₀ w ((W.alloc (.map #[] 0)).alloc (.cells #[.slice A n c, .map (some W.heap.size), yv lp] 64))) := Lib.hid ((hbel.mono hn0).trans ((below_more (below_of_alloc _) _).mono (Nat.le_trans hn0 hbel.size)))
  have HE : Hid (WE w hi A n c l (W.heap.size + 1) W.heap.size n₀ W.heap.size lp (postT k s a 0 []) J Jx) := Lib.hid ⟨hl, hh, Nat.le_trans hn0 hbel.size, Nat.le_refl _, Nat.le_succ _, hJ, hJx, hY⟩
  have HAT := Lib.hid hf.at_
  have HC := Lib.hid (walk_any HE.out a.size k s i a 0 [] HAT.out (Nat.le_refl _))
  have hmm := @run_makeMap Tryd.prog
  clear hb hbW hl hf hY hJ0 hJ hJx hps
  go_enter Tryd.func27, Tryd.ntmps27
  have hb9 : Blk ((W.alloc (.map #[] 0)).alloc (.cells #[.slice A n c, .map (some W.heap.size), .nilFunc] 64)) (W.heap.size + 1) 64 #[.slice A n c, .map (some W.heap.size), .nilFunc] := Blk.new' hms.symm
  have c9 := (hb9.cell 2).trans (show _ = some Value.nilFunc from rfl)
  have f9 := hb9.frozen 2
  clear hb9
  go_upto_region 1 with (fail)
  clear c9 f9 hmm cb
  have HAT0 : Hid (At0 w A n c (W.heap.size + 1) W.heap.size n₀ W.heap.size lp (postT k s a 0 []) J (postT k s a 0 []) [] 0 (4 * a.size + 2) [] ((W.alloc (.map #[] 0)).alloc (.cells #[.slice A n c, .map (some W.heap.size), yv lp] 64))) := Lib.hid ⟨⟨HBX.out, HMW.out⟩, HJ2.out, HB2.out, by simp; omega, List.prefix_rfl, by omega, by simp; omega⟩
  have HC2 := Lib.hid (HC.out _ _ _ HAT0.out)
  unfold yv at HC2
  go_wp2_with (go_at_call 28; refine HC2.out.mono ?_; rintro r X2 ⟨b, pre', rfl, hws, hkw, hend⟩)
  go_end0
  refine ⟨⟨_, rfl⟩, ?_⟩
  rcases hend with ⟨_, h2, h3⟩ | ⟨_, h2, kx, h3, h4⟩
  · rw [h2, List.nil_append] at h3
    exact .inl h3
  · rw [h4, List.nil_append] at h2
    exact .inr ⟨kx, h3, h2⟩
end Go.Proofs.YtjlpoigcalfdlaaDoor
namespace Go.Proofs.YtjlpoigcalfdlaaDoor
open Go Go.RowKit Go.Sort
set_option linter.unusedVariables false
/-- how a round ends: it goes on, or it leaves the function -/
def RoundEnds (n₀ n₁ : Nat) (I Ix : Inv) (xs : List (Nat × Bool)) (W : World) : Exit → Act → World → Prop
  | .normal, _, W' => KeepsOthers W W' ∧ KpE n₀ n₁ W W' ∧ I xs W'
  | .ret, _, W' => KeepsOthers W W' ∧ KpE n₀ n₁ W W' ∧ Ix xs W'
  | _, _, _ => False
theorem KpE.trans {n₀ n₁ : Nat} {A B C : World} (h : KpE n₀ n₁ A B) (h' : KpE n₀ n₁ B C) : KpE n₀ n₁ A C := ⟨h.bel.trans h'.bel, fun g o h1 h2 h3 => h'.same g o h1 (h.same g o h1 h2 h3) h3⟩
theorem KpE.put {n₀ n₁ : Nat} {W : World} {b : Nat} {o : Obj} (h0 : n₀ ≤ b) (h1 : b < n₁) (hb : n₀ ≤ W.heap.size) : KpE n₀ n₁ W (W.putObj b o) :=
  ⟨(Below.refl n₀ W).grown (grownBy_putObj' W b o) hb (fun k e => by cases e; exact h0), fun g o' hg ho _ => (World.putObj_heap_other (by omega)).trans ho⟩
theorem range_behind {P : Program} {Q : Exit → Act → World → Prop} {a : Act} {w w0 : World} {n : Nat} {g : Operand} {ps : Array Tmp} {assign body : Code} {gf : Nat} {lb : Array Value} {n₀ : Nat} {post : List (Nat × Bool)} (hP : P = Tryd.prog)
    (hg : a.eval g = .func (.func gf) #[] lb) (eg : ∀ args w, (callFunc gf args).run P w = .ok (.enter gf args) w) (hseq : SeqK gf lb n₀ post w0) (hb0 : Below w0.heap.size w0 w) (hps : ps.size = 2) (hn0 : n₀ ≤ w.heap.size)
    (I Ix : Inv) (hI : OwnFrom w.heap.size I) (hIx : OwnFrom w.heap.size Ix) (h0 : I [] w) (a₁ : Nat × Bool → Act)
    (hassign : ∀ (l : Nat) (x : Nat × Bool) (W : World) (K : Act → World → Prop), K (a₁ x) W →
      assign.wpIn (Fence.wide.inRound l) 0 P (Exit.then K (fun _ _ _ => False)) { tmps := (ps.zip #[.int .i64 (x.1 : Int), .bool x.2]).foldl (fun t (p, v) => t.setIfInBounds p v) a.tmps, defers := [] } W)
    (hbody : ∀ (l : Nat) (pre : List (Nat × Bool)) (x : Nat × Bool) (W : World), I pre W → pre ++ [x] <+: post → w.heap.size + 2 ≤ W.heap.size → body.wpIn (Fence.wide.inRound l) 0 P (RoundEnds n₀ (w.heap.size + 2) I Ix (pre ++ [x]) W) (a₁ x) W)
    (hdone : ∀ (D : Nat) (W : World), w.heap.size ≤ D → I post W → W.heap[D]? = some (.deferred (some [])) → Q .normal { a with defers := { target := .collected D, args := #[] } :: a.defers } W)
    (hstop : ∀ (D k : Nat) (W : World), w.heap.size ≤ D → k < post.length → Ix (post.take (k + 1)) W → W.heap[D]? = some (.deferred (some [])) → Code.ret.wpIn Fence.wide n P Q { a with defers := { target := .collected D, args := #[] } :: a.defers } W) :
    (Code.rangeFunc g ps assign body).wpIn Fence.wide n P Q a w := by
  subst hP
  refine wpIn_rangeFunc ?_
  intro fn hfn
  rw [Fence.wide_round]
  generalize hrec : (fun (st : LoopState) (pe : Option Code) => ({ state := st, pending := pe, fn, tmps := a.tmps, params := ps, assign, body, defers := w.heap.size } : Loop)) = rec
  have hr : ∀ st pe, rec st pe = { state := st, pending := pe, fn, tmps := a.tmps, params := ps, assign, body, defers := w.heap.size } := fun st pe => by rw [← hrec]
  generalize hW1 : (w.alloc (.deferred (some []))).alloc (.loop (rec .ready none)) = W1
  have hz1 : W1.heap.size = w.heap.size + 2 := by rw [← hW1]; simp
  have hL1 : W1.heap[w.heap.size + 1]? = some (.loop (rec .ready none)) := by
    rw [← hW1]; have := World.alloc_heap_new (w.alloc (.deferred (some []))) (.loop (rec .ready none)); rwa [World.size_alloc] at this
  have hD1 : W1.heap[w.heap.size]? = some (.deferred (some [])) := by
    rw [← hW1]; exact (Below.heap_alloc _ _ _ (by simp)).trans (World.alloc_heap_new w _)
  have hI1 : I [] W1 := by rw [← hW1]; exact hI.alloc _ (hI.alloc _ h0)
  have hb1 : Below w0.heap.size w0 W1 := by rw [← hW1]; exact hb0.trans ((below_more (below_of_alloc _) _).mono hb0.size)
  refine ⟨w.heap.size + 1, [{ target := .collected w.heap.size, args := #[] }], W1, { target := .fn (.func gf) lb, args := #[.func (.yield (w.heap.size + 1)) #[] #[]] }, W1, gf,
    #[.func (.yield (w.heap.size + 1)) #[] #[]] ++ lb, W1, ?_, ?_, fun _ _ => trivial, ?_, fun h => (by cases h), callsIn_wide.2 ?_⟩
  · rw [← hW1, hr]; exact run_enterLoop_outer _ _ _ _ _
  · simp only [resolve, hg]
    simp [go_sem]
  · simp [invoke, go_sem, eg]
  · -- what is kept of the record and of the block for deferred calls
    have hAb : ∀ {B : Nat} {J : Inv} {st : LoopState} {pe : Option Code}, W1.heap.size ≤ B → OwnFrom w.heap.size J → AbidesFrom W1.heap.size fun pre W => J pre W ∧ W.heap[w.heap.size + 1]? = some (.loop (rec st pe)) ∧ W.heap[w.heap.size]? = some (.deferred (some [])) := by
      intro B J st pe _ hJ s X Y row hs hgr hrow
      have hc : ∀ r, row = some r → w.heap.size ≤ r ∧ ∃ o : Obj, X.heap[r]? = some o ∧ o.isCells = false := fun r e => by
        obtain ⟨h1, o, h2, h3⟩ := hrow r e
        exact ⟨by omega, o, h2, Obj.not_cells_of_walk h3⟩
      exact ⟨hJ s X Y row hs.1 hgr hc, (grownBy_keeps hgr (fun r e => (hrow r e).2) hs.2.1 rfl).trans hs.2.1, (grownBy_keeps hgr (fun r e => (hrow r e).2) hs.2.2 rfl).trans hs.2.2⟩
    refine (hseq (w.heap.size + 1) (fun pre W => I pre W ∧ W.heap[w.heap.size + 1]? = some (.loop (rec .ready none)) ∧ W.heap[w.heap.size]? = some (.deferred (some [])))
      (fun pre W => Ix pre W ∧ W.heap[w.heap.size + 1]? = some (.loop (rec .done (some .ret))) ∧ W.heap[w.heap.size]? = some (.deferred (some []))) W1 hb1 (hAb (Nat.le_refl _) hI) (hAb (Nat.le_refl _) hIx) ?_ ⟨hI1, hL1, hD1⟩).mono ?_
    · rintro pre x W ⟨hi, hl, hk⟩ hlen
      have hlt : w.heap.size + 1 < W.heap.size := (Array.getElem?_eq_some_iff.1 hl).1
      have hy := run_yield (P := Tryd.prog) (args := #[.int .i64 (x.1 : Int), .bool x.2]) hl (by rw [hr]; exact hps.symm)
      rw [hr] at hy
      refine ⟨fn, _, assign, body, hy, roundIn_of_wpIn trivial (hassign _ x W _ ⟨_, run_beginRound hl (by rw [hr]), ?_⟩)⟩
      have hl2 : (W.putObj (w.heap.size + 1) (.loop { rec .ready none with state := .busy })).heap[w.heap.size + 1]? = some (.loop { rec .ready none with state := .busy }) := World.putObj_heap_same hlt
      have hk2 : (W.putObj (w.heap.size + 1) (.loop { rec .ready none with state := .busy })).heap[w.heap.size]? = some (.deferred (some [])) := (World.putObj_heap_other (by omega)).trans hk
      have hp2 : KpE n₀ W1.heap.size W (W.putObj (w.heap.size + 1) (.loop { rec .ready none with state := .busy })) := KpE.put (by omega) (by omega) (by omega)
      have hz2 : (W.putObj (w.heap.size + 1) (.loop { rec .ready none with state := .busy })).heap.size = W.heap.size := by simp [World.putObj]
      refine wpIn_mono (hbody _ pre x _ (hI.putObj _ hi (by omega) hl rfl) hlen (by rw [hz2]; omega)) ?_
      have fin : ∀ (jump : Option Code) (W3 : World), KeepsOthers (W.putObj (w.heap.size + 1) (.loop { rec .ready none with state := .busy })) W3 → KpE n₀ (w.heap.size + 2) (W.putObj (w.heap.size + 1) (.loop { rec .ready none with state := .busy })) W3 →
          ∃ W4, (Instr.endRound (w.heap.size + 1) jump).run Tryd.prog W3 = .ok (.bool jump.isNone) W4 ∧ W4 = W3.putObj (w.heap.size + 1) (.loop (rec (if jump.isNone then .ready else .done) jump)) ∧
          W3.heap[w.heap.size + 1]? = some (.loop { rec .ready none with state := .busy }) ∧ W4.heap[w.heap.size + 1]? = some (.loop (rec (if jump.isNone then .ready else .done) jump)) ∧ W4.heap[w.heap.size]? = some (.deferred (some [])) ∧ KpE n₀ W1.heap.size W W4 := by
        intro jump W3 hk3 hp3
        have hl3 := hk3.same _ _ hl2 rfl
        have h5 := run_endRound (P := Tryd.prog) jump hl3
        have hlt3 := (Array.getElem?_eq_some_iff.1 hl3).1
        refine ⟨_, h5, ?_, hl3, ?_, ?_, ?_⟩
        · rw [hr, hr]
        · rw [World.putObj_heap_same hlt3, hr, hr]
        · exact (World.putObj_heap_other (by omega)).trans (hk3.same _ _ hk2 rfl)
        · refine hp2.trans (KpE.trans (by rw [hz1]; exact hp3) (KpE.put (by omega) (by omega) (by omega)))
      rintro e a3 W3 hp
      cases e with
      | normal =>
        obtain ⟨hk3, hkp3, hi3⟩ := hp
        obtain ⟨W4, h1, h2, h3, h4, h5, h6⟩ := fin none W3 hk3 hkp3
        refine ⟨_, W4, h1, .inl ⟨rfl, ⟨?_, h4, h5⟩, h6⟩⟩
        rw [h2]
        exact hI.putObj _ hi3 (by omega) h3 rfl
      | ret =>
        obtain ⟨hk3, hkp3, hi3⟩ := hp
        obtain ⟨W4, h1, h2, h3, h4, h5, h6⟩ := fin (some .ret) W3 hk3 hkp3
        refine ⟨_, W4, h1, .inr ⟨rfl, ⟨?_, h4, h5⟩, h6⟩⟩
        rw [h2]
        exact hIx.putObj _ hi3 (by omega) h3 rfl
      | exit id => exact hp.elim
      | goto t => exact hp.elim
      | panic ch => exact hp.elim
      | outgrown => exact hp.elim
    · rintro e W2 ⟨⟨v, rfl⟩, (⟨hi, hl, hk⟩ | ⟨k, hkl, hi, hl, hk⟩)⟩
      · have h5 := run_endLoop (P := Tryd.prog) hl (by rw [hr]; simp)
        rw [hr] at h5
        exact ⟨none, _, h5, hdone _ _ (Nat.le_refl _) (hI.putObj _ hi (by omega) hl rfl) ((World.putObj_heap_other (by omega)).trans hk)⟩
      · have h5 := run_endLoop (P := Tryd.prog) hl (by rw [hr]; simp)
        rw [hr] at h5
        exact ⟨some .ret, _, h5, hstop _ k _ (Nat.le_refl _) hkl (hIx.putObj _ hi (by omega) hl rfl) ((World.putObj_heap_other (by omega)).trans hk)⟩
end Go.Proofs.YtjlpoigcalfdlaaDoor
namespace Go.Proofs.YtjlpoigcalfdlaaDoor
open Go Go.Proofs Go.RowKit Go.Sort
attribute [local go_sem] Oper.semAt_some
set_option linter.unusedVariables false
theorem behind_any (w : World) (A : Option Addr) (n c : Nat) : Calls Tryd.prog 16 #[.slice A n c] w (fun e w' => e = .returned (.func (.func 27) #[] #[.pointer (some ⟨w.heap.size, 0, none⟩)]) ∧ w' = w.alloc (.cells #[.slice A n c] 22)) := by
  go_enter Tryd.func16, Tryd.ntmps16
  go_wp2
  go_ret
  exact ⟨rfl, rfl⟩
/-- the boxes of Each: the expression, the three results -/
structure EB (w : World) (A : Option Addr) (n c : Nat) (v2 : Value) (v3 v4 : Int) (X : World) : Prop where
  bel : Below w.heap.size w X
  e : Blk X w.heap.size 24 #[.slice A n c]
  r2 : Blk X (w.heap.size + 1) 29 #[v2]
  r3 : Blk X (w.heap.size + 1 + 1) 3 #[.int .i64 v3]
  r4 : Blk X (w.heap.size + 1 + 1 + 1) 26 #[.int .i64 v4]
section
variable {w : World} {A : Option Addr} {n c : Nat} {v2 : Value} {v3 v4 : Int} {X X' : World}
theorem EB.after (h : EB w A n c v2 v3 v4 X) (hb : Below X.heap.size X X') : EB w A n c v2 v3 v4 X' := ⟨h.bel.trans (hb.mono h.bel.size), h.e.after hb, h.r2.after hb, h.r3.after hb, h.r4.after hb⟩
theorem EB.out (h : EB w A n c v2 v3 v4 X) (u2 : Value) (u3 u4 : Int) : EB w A n c u2 u3 u4 (((X.setCell ⟨w.heap.size + 1, 0, none⟩ u2).setCell ⟨w.heap.size + 1 + 1, 0, none⟩ (.int .i64 u3)).setCell ⟨w.heap.size + 1 + 1 + 1, 0, none⟩ (.int .i64 u4)) := by
  have a1 : w.heap.size ≠ w.heap.size + 1 := by omega
  have a2 : w.heap.size ≠ w.heap.size + 1 + 1 := by omega
  have a3 : w.heap.size ≠ w.heap.size + 1 + 1 + 1 := by omega
  have a4 : w.heap.size + 1 ≠ w.heap.size + 1 + 1 := by omega
  have a5 : w.heap.size + 1 ≠ w.heap.size + 1 + 1 + 1 := by omega
  have a6 : w.heap.size + 1 + 1 ≠ w.heap.size + 1 + 1 + 1 := by omega
  refine ⟨((h.bel.setCell (p := ⟨w.heap.size + 1, 0, none⟩) (Nat.le_succ _) _).setCell (p := ⟨w.heap.size + 1 + 1, 0, none⟩) (by show w.heap.size ≤ w.heap.size + 1 + 1; omega) _).setCell (p := ⟨w.heap.size + 1 + 1 + 1, 0, none⟩) (by show w.heap.size ≤ w.heap.size + 1 + 1 + 1; omega) _, ?_, ?_, ?_, ?_⟩
  · exact ((h.e.far (p := ⟨w.heap.size + 1, 0, none⟩) a1 _).far (p := ⟨w.heap.size + 1 + 1, 0, none⟩) a2 _).far (p := ⟨w.heap.size + 1 + 1 + 1, 0, none⟩) a3 _
  · have := h.r2.set_ 0 u2
    exact (Blk.far (by simpa using this) (p := ⟨w.heap.size + 1 + 1, 0, none⟩) a4 _).far (p := ⟨w.heap.size + 1 + 1 + 1, 0, none⟩) a5 _
  · have := (h.r3.far (p := ⟨w.heap.size + 1, 0, none⟩) (Ne.symm a4) u2).set_ 0 (.int .i64 u3)
    exact Blk.far (by simpa using this) (p := ⟨w.heap.size + 1 + 1 + 1, 0, none⟩) a6 _
  · have := ((h.r4.far (p := ⟨w.heap.size + 1, 0, none⟩) (Ne.symm a5) u2).far (p := ⟨w.heap.size + 1 + 1, 0, none⟩) (Ne.symm a6) (.int .i64 u3)).set_ 0 (.int .i64 u4)
    simpa using this
end
theorem EB.far {w : World} {A : Option Addr} {n c : Nat} {v2 : Value} {v3 v4 : Int} {X : World} (h : EB w A n c v2 v3 v4 X) {g : Nat} (hg : w.heap.size + 1 + 1 + 1 < g) (i : Nat) (u : Value) : EB w A n c v2 v3 v4 (X.setCell ⟨g, i, none⟩ u) :=
  ⟨h.bel.setCell (p := ⟨g, i, none⟩) (by show w.heap.size ≤ g; omega) _, h.e.far (p := ⟨g, i, none⟩) (by show w.heap.size ≠ g; omega) _, h.r2.far (p := ⟨g, i, none⟩) (by show w.heap.size + 1 ≠ g; omega) _, h.r3.far (p := ⟨g, i, none⟩) (by show w.heap.size + 1 + 1 ≠ g; omega) _, h.r4.far (p := ⟨g, i, none⟩) (by show w.heap.size + 1 + 1 + 1 ≠ g; omega) _⟩
theorem KpE.cell {n₀ n₁ b i : Nat} {W : World} {u : Value} (h0 : n₀ ≤ b) (h1 : b < n₁) : KpE n₀ n₁ W (W.setCell ⟨b, i, none⟩ u) :=
  ⟨(Below.refl n₀ W).setCell (p := ⟨b, i, none⟩) h0 u, fun g o hg ho _ => (Below.heap_setCell W ⟨b, i, none⟩ u g (by show g ≠ b; omega)).trans ho⟩
theorem KpE.after {n₀ n₁ : Nat} {W W' : World} (hb : Below W.heap.size W W') (h0 : n₀ ≤ W.heap.size) : KpE n₀ n₁ W W' := ⟨hb.mono h0, fun g o _ ho _ => (hb.block g (Array.getElem?_eq_some_iff.1 ho).1).trans ho⟩
theorem keeps_after {W W' : World} (hb : Below W.heap.size W W') : KeepsOthers W W' := ⟨hb.size, fun g o ho _ => (hb.block g (Array.getElem?_eq_some_iff.1 ho).1).trans ho⟩
theorem Blk.own {X X' : World} {g : Nat} {t : TypeId} {cs : Array Value} {row : Option Nat} (h : Blk X g t cs) (hg : X.grownBy X' row) (hr : ∀ r, row = some r → ∃ o : Obj, X.heap[r]? = some o ∧ o.isCells = false) : Blk X' g t cs :=
  (grownBy_keeps_cells hg hr h rfl).trans h
theorem EB.own {w : World} {A : Option Addr} {n c : Nat} {v2 : Value} {v3 v4 : Int} {X X' : World} {row : Option Nat} (h : EB w A n c v2 v3 v4 X) (hg : X.grownBy X' row) (hr : ∀ r, row = some r → w.heap.size ≤ r ∧ ∃ o : Obj, X.heap[r]? = some o ∧ o.isCells = false) : EB w A n c v2 v3 v4 X' :=
  ⟨h.bel.grown hg h.bel.size (fun k hk => (hr k hk).1), h.e.own hg fun r e => (hr r e).2, h.r2.own hg fun r e => (hr r e).2, h.r3.own hg fun r e => (hr r e).2, h.r4.own hg fun r e => (hr r e).2⟩
/-- between two rounds: the kinds so far -/
def EI (w : World) (A : Option Addr) (n c gl : Nat) (l : List EN) (pre : List (Nat × Bool)) (W : World) : Prop := ∃ K : List Int, runP l pre (List.replicate n 0) = .ok K ∧ K.length = n ∧ (∀ v ∈ K, 0 ≤ v ∧ v ≤ 5) ∧
  EB w A n c (.slice none 0 0) 0 0 W ∧ IBlk W gl K ∧ Blk W (gl + 1) 29 #[.slice (some ⟨gl, 0, none⟩) n n]
/-- where a round has left -/
def EX (w : World) (A : Option Addr) (n c : Nat) (l : List EN) (xs : List (Nat × Bool)) (W : World) : Prop := ∃ (q : Nat) (err : Int), runP l xs (List.replicate n 0) = .bad q err ∧ EB w A n c (.slice none 0 0) q err W
theorem EI.own {w : World} {A : Option Addr} {n c gl B : Nat} {l : List EN} (hB : w.heap.size ≤ B) : OwnFrom B (EI w A n c gl l) := by
  rintro s X X' row ⟨K, h1, h2, h3, h4, h5, h6⟩ hg hr
  exact ⟨K, h1, h2, h3, h4.own hg fun r e => ⟨Nat.le_trans hB (hr r e).1, (hr r e).2⟩, Blk.own h5 hg fun r e => (hr r e).2, h6.own hg fun r e => (hr r e).2⟩
theorem EX.own {w : World} {A : Option Addr} {n c B : Nat} {l : List EN} (hB : w.heap.size ≤ B) : OwnFrom B (EX w A n c l) := by
  rintro s X X' row ⟨q, err, h1, h4⟩ hg hr
  exact ⟨q, err, h1, h4.own hg fun r e => ⟨Nat.le_trans hB (hr r e).1, (hr r e).2⟩⟩
end Go.Proofs.YtjlpoigcalfdlaaDoor

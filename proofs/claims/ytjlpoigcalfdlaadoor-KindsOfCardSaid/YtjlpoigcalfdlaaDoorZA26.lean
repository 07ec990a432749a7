/-
  WALKS over package kinds: behindKids, Each.
-/
import Derived.Test.YtjlpoigcalfdlaaDoorZA25
import Derived.RangeFuncCalls
import Derived.RangeFuncLeaves
import Derived.Shelf.RegionOpen
import Derived.OwnWalkIn
import Derived.TacticsInMore
import Derived.LoopNIn
import Derived.LoopIn
namespace Go.Proofs.YtjlpoigcalfdlaaDoor
open Go Go.Proofs Go.RowKit Go.Sort
attribute [local go_sem] Oper.semAt_some
set_option linter.unusedVariables false
theorem behind_any (w : World) (A : Option Addr) (n c : Nat) : Calls Tryd.prog 16 #[.slice A n c] w (fun e w' => e = .returned (.func (.func 27) #[] #[.pointer (some ⟨w.heap.size, 0, none⟩)]) ∧ w' = w.alloc (.cells #[.slice A n c] 22)) := by
  go_enter Tryd.func16, Tryd.ntmps16
  go_wp2
  go_ret
  exact ⟨rfl, rfl⟩
/-- the boxes of Each: the expression, the three results -/
structure EB (w : World) (A : Option Addr) (n c : Nat) (v2 : Value) (v3 v4 : Int) (X : World) : Prop where
  bel : Below w.heap.size w X
  e : Blk X w.heap.size 24 #[.slice A n c]
  r2 : Blk X (w.heap.size + 1) 29 #[v2]
  r3 : Blk X (w.heap.size + 1 + 1) 3 #[.int .i64 v3]
  r4 : Blk X (w.heap.size + 1 + 1 + 1) 26 #[.int .i64 v4]
section
variable {w : World} {A : Option Addr} {n c : Nat} {v2 : Value} {v3 v4 : Int} {X X' : World}
theorem EB.after (h : EB w A n c v2 v3 v4 X) (hb : Below X.heap.size X X') : EB w A n c v2 v3 v4 X' := ⟨h.bel.trans (hb.mono h.bel.size), h.e.after hb, h.r2.after hb, h.r3.after hb, h.r4.after hb⟩
theorem EB.out (h : EB w A n c v2 v3 v4 X) (u2 : Value) (u3 u4 : Int) : EB w A n c u2 u3 u4 (((X.setCell ⟨w.heap.size + 1, 0, none⟩ u2).setCell ⟨w.heap.size + 1 + 1, 0, none⟩ (.int .i64 u3)).setCell ⟨w.heap.size + 1 + 1 + 1, 0, none⟩ (.int .i64 u4)) := by
  have a1 : w.heap.size ≠ w.heap.size + 1 := by omega
  have a2 : w.heap.size ≠ w.heap.size + 1 + 1 := by omega
  have a3 : w.heap.size ≠ w.heap.size + 1 + 1 + 1 := by omega
  have a4 : w.heap.size + 1 ≠ w.heap.size + 1 + 1 := by omega
  have a5 : w.heap.size + 1 ≠ w.heap.size + 1 + 1 + 1 := by omega
  have a6 : w.heap.size + 1 + 1 ≠ w.heap.size + 1 + 1 + 1 := by omega
  refine ⟨((h.bel.setCell (p := ⟨w.heap.size + 1, 0, none⟩) (Nat.le_succ _) _).setCell (p := ⟨w.heap.size + 1 + 1, 0, none⟩) (by show w.heap.size ≤ w.heap.size + 1 + 1; omega) _).setCell (p := ⟨w.heap.size + 1 + 1 + 1, 0, none⟩) (by show w.heap.size ≤ w.heap.size + 1 + 1 + 1; omega) _, ?_, ?_, ?_, ?_⟩
  · exact ((h.e.far (p := ⟨w.heap.size + 1, 0, none⟩) a1 _).far (p := ⟨w.heap.size + 1 + 1, 0, none⟩) a2 _).far (p := ⟨w.heap.size + 1 + 1 + 1, 0, none⟩) a3 _
  · have := h.r2.set_ 0 u2
    exact (Blk.far (by simpa using this) (p := ⟨w.heap.size + 1 + 1, 0, none⟩) a4 _).far (p := ⟨w.heap.size + 1 + 1 + 1, 0, none⟩) a5 _
  · have := (h.r3.far (p := ⟨w.heap.size + 1, 0, none⟩) (Ne.symm a4) u2).set_ 0 (.int .i64 u3)
    exact Blk.far (by simpa using this) (p := ⟨w.heap.size + 1 + 1 + 1, 0, none⟩) a6 _
  · have := ((h.r4.far (p := ⟨w.heap.size + 1, 0, none⟩) (Ne.symm a5) u2).far (p := ⟨w.heap.size + 1 + 1, 0, none⟩) (Ne.symm a6) (.int .i64 u3)).set_ 0 (.int .i64 u4)
    simpa using this
end
theorem each_res (fn : Func) (hres : fn.results = #[.cell 2 29, .cell 3 3, .cell 4 26]) {w : World} {A : Option Addr} {n c : Nat} {v2 : Value} {v3 v4 : Int} {X : World} (h : EB w A n c v2 v3 v4 X) (tmps : Array Value) (h2 : tmps[2]?.getD undef = .pointer (some ⟨w.heap.size + 1, 0, none⟩)) (h3 : tmps[3]?.getD undef = .pointer (some ⟨w.heap.size + 1 + 1, 0, none⟩)) (h4 : tmps[4]?.getD undef = .pointer (some ⟨w.heap.size + 1 + 1 + 1, 0, none⟩)) (hv : v2.oneCell' = true) :
    (results fn tmps).run Tryd.prog X = .ok (.tuple #[v2, .int .i64 v3, .int .i64 v4]) X := by
  have c2 := (h.r2.cell 0).trans (show _ = some v2 from rfl)
  have c3 := (h.r3.cell 0).trans (show _ = some (.int .i64 v3) from rfl)
  have c4 := (h.r4.cell 0).trans (show _ = some (.int .i64 v4) from rfl)
  simp only [results, hres]
  go_simp
theorem ctz_le : ∀ m : Fin 64, (m.val == 0 || decide (ctz8 m.val ≤ 5)) = true := by decide +kernel
theorem ctz_le5 {m : Nat} (h : m < 64) (h0 : m ≠ 0) : ctz8 m ≤ 5 := by
  have := ctz_le ⟨m, h⟩
  simp only [Bool.or_eq_true, beq_iff_eq, decide_eq_true_eq] at this
  exact this.resolve_left h0
theorem foldK_ok : ∀ (ks : List Int) (r : List Nat) (i m m' : Nat), m ≠ 0 → m < 64 → foldK r i m ks = some m' → m' ≠ 0 ∧ m' < 64
  | [], r, i, m, m', h0, h1, h => by simp only [foldK, Option.some.injEq] at h; subst h; exact ⟨h0, h1⟩
  | x :: ks, r, i, m, m', h0, h1, h => by
    simp only [foldK] at h
    by_cases hp : 1 < pop8 (r.getD (i + 1) 0)
    · rw [if_pos hp] at h
      by_cases hz : m &&& (r.getD (i + 1) 0 &&& 1 <<< x.toNat) = 0
      · rw [if_pos hz] at h; cases h
      · rw [if_neg hz] at h
        exact foldK_ok ks r _ _ m' hz (Nat.lt_of_le_of_lt Nat.and_le_left h1) h
    · rw [if_neg hp] at h
      by_cases hz : r.getD (i + 1) 0 &&& 1 <<< x.toNat = 0
      · rw [if_pos hz] at h; cases h
      · rw [if_neg hz] at h
        exact foldK_ok ks r _ _ m' h0 h1 h
theorem rows_made : ((rowsL.drop 1).all fun r => decide (r.getD 0 0 ≠ 0) && decide (r.getD 0 0 < 64)) = true := by decide +kernel
theorem kindP_le {k : Int} (h1 : 1 ≤ k) (h2 : k ≤ 34) (ks : List Int) : 0 ≤ kindP k ks ∧ kindP k ks ≤ 5 := by
  obtain ⟨k, rfl⟩ : ∃ m : Nat, k = ((m + 1 : Nat) : Int) := ⟨k.toNat - 1, by omega⟩
  have hr : rowsL[k + 1]? = some (rowsL[k + 1]'(by rw [rowsL_len]; omega)) := List.getElem?_eq_getElem _
  generalize rowsL[k + 1]'(by rw [rowsL_len]; omega) = r at hr
  have hm : r ∈ rowsL.drop 1 := List.mem_of_getElem? (i := k) (by rw [List.getElem?_drop, Nat.add_comm]; exact hr)
  have ha := List.all_eq_true.1 rows_made r hm
  simp only [Bool.and_eq_true, decide_eq_true_eq] at ha
  cases hf : foldK r 0 62 ks with
  | none => rw [kindP_none hr hf]; omega
  | some m =>
    have hk := foldK_ok ks r 0 62 m (by omega) (by omega) hf
    by_cases hp : 1 < pop8 (r.getD 0 0)
    · rw [kindP_many hr hf hp]
      have := ctz_le5 hk.2 hk.1
      omega
    · rw [kindP_one hr hf hp]
      have := ctz_le5 ha.2 ha.1
      omega
theorem EB.far {w : World} {A : Option Addr} {n c : Nat} {v2 : Value} {v3 v4 : Int} {X : World} (h : EB w A n c v2 v3 v4 X) {g : Nat} (hg : w.heap.size + 1 + 1 + 1 < g) (i : Nat) (u : Value) : EB w A n c v2 v3 v4 (X.setCell ⟨g, i, none⟩ u) :=
  ⟨h.bel.setCell (p := ⟨g, i, none⟩) (by show w.heap.size ≤ g; omega) _, h.e.far (p := ⟨g, i, none⟩) (by show w.heap.size ≠ g; omega) _, h.r2.far (p := ⟨g, i, none⟩) (by show w.heap.size + 1 ≠ g; omega) _, h.r3.far (p := ⟨g, i, none⟩) (by show w.heap.size + 1 + 1 ≠ g; omega) _, h.r4.far (p := ⟨g, i, none⟩) (by show w.heap.size + 1 + 1 + 1 ≠ g; omega) _⟩
theorem KpE.cell {n₀ n₁ b i : Nat} {W : World} {u : Value} (h0 : n₀ ≤ b) (h1 : b < n₁) : KpE n₀ n₁ W (W.setCell ⟨b, i, none⟩ u) :=
  ⟨(Below.refl n₀ W).setCell (p := ⟨b, i, none⟩) h0 u, fun g o hg ho _ => (Below.heap_setCell W ⟨b, i, none⟩ u g (by show g ≠ b; omega)).trans ho⟩
theorem KpE.after {n₀ n₁ : Nat} {W W' : World} (hb : Below W.heap.size W W') (h0 : n₀ ≤ W.heap.size) : KpE n₀ n₁ W W' := ⟨hb.mono h0, fun g o _ ho _ => (hb.block g (Array.getElem?_eq_some_iff.1 ho).1).trans ho⟩
theorem keeps_after {W W' : World} (hb : Below W.heap.size W W') : KeepsOthers W W' := ⟨hb.size, fun g o ho _ => (hb.block g (Array.getElem?_eq_some_iff.1 ho).1).trans ho⟩
theorem outs_keep (W : World) (b n₁ : Nat) (u2 u3 u4 : Value) (h1 : b + 1 + 1 + 1 < n₁) :
    KeepsOthers W (((W.setCell ⟨b + 1, 0, none⟩ u2).setCell ⟨b + 1 + 1, 0, none⟩ u3).setCell ⟨b + 1 + 1 + 1, 0, none⟩ u4) ∧ KpE b n₁ W (((W.setCell ⟨b + 1, 0, none⟩ u2).setCell ⟨b + 1 + 1, 0, none⟩ u3).setCell ⟨b + 1 + 1 + 1, 0, none⟩ u4) :=
  ⟨((KeepsOthers.setCell W _ _).trans (KeepsOthers.setCell _ _ _)).trans (KeepsOthers.setCell _ _ _), ((KpE.cell (by omega) (by omega)).trans (KpE.cell (by omega) (by omega))).trans (KpE.cell (by omega) (by omega))⟩
theorem Blk.own {X X' : World} {g : Nat} {t : TypeId} {cs : Array Value} {row : Option Nat} (h : Blk X g t cs) (hg : X.grownBy X' row) (hr : ∀ r, row = some r → ∃ o : Obj, X.heap[r]? = some o ∧ o.isCells = false) : Blk X' g t cs :=
  (grownBy_keeps_cells hg hr h rfl).trans h
theorem EB.own {w : World} {A : Option Addr} {n c : Nat} {v2 : Value} {v3 v4 : Int} {X X' : World} {row : Option Nat} (h : EB w A n c v2 v3 v4 X) (hg : X.grownBy X' row) (hr : ∀ r, row = some r → w.heap.size ≤ r ∧ ∃ o : Obj, X.heap[r]? = some o ∧ o.isCells = false) : EB w A n c v2 v3 v4 X' :=
  ⟨h.bel.grown hg h.bel.size (fun k hk => (hr k hk).1), h.e.own hg fun r e => (hr r e).2, h.r2.own hg fun r e => (hr r e).2, h.r3.own hg fun r e => (hr r e).2, h.r4.own hg fun r e => (hr r e).2⟩
/-- between two rounds: the kinds so far -/
def EI (w : World) (A : Option Addr) (n c gl : Nat) (l : List EN) (pre : List (Nat × Bool)) (W : World) : Prop := ∃ K : List Int, runP l pre (List.replicate n 0) = .ok K ∧ K.length = n ∧ (∀ v ∈ K, 0 ≤ v ∧ v ≤ 5) ∧
  EB w A n c (.slice none 0 0) 0 0 W ∧ IBlk W gl K ∧ Blk W (gl + 1) 29 #[.slice (some ⟨gl, 0, none⟩) n n]
/-- where a round has left -/
def EX (w : World) (A : Option Addr) (n c : Nat) (l : List EN) (xs : List (Nat × Bool)) (W : World) : Prop := ∃ (q : Nat) (err : Int), runP l xs (List.replicate n 0) = .bad q err ∧ EB w A n c (.slice none 0 0) q err W
theorem EI.own {w : World} {A : Option Addr} {n c gl B : Nat} {l : List EN} (hB : w.heap.size ≤ B) : OwnFrom B (EI w A n c gl l) := by
  rintro s X X' row ⟨K, h1, h2, h3, h4, h5, h6⟩ hg hr
  exact ⟨K, h1, h2, h3, h4.own hg fun r e => ⟨Nat.le_trans hB (hr r e).1, (hr r e).2⟩, Blk.own h5 hg fun r e => (hr r e).2, h6.own hg fun r e => (hr r e).2⟩
theorem EX.own {w : World} {A : Option Addr} {n c B : Nat} {l : List EN} (hB : w.heap.size ≤ B) : OwnFrom B (EX w A n c l) := by
  rintro s X X' row ⟨q, err, h1, h4⟩ hg hr
  exact ⟨q, err, h1, h4.own hg fun r e => ⟨Nat.le_trans hB (hr r e).1, (hr r e).2⟩⟩
set_option maxRecDepth 20000 in
set_option maxHeartbeats 6400000 in
theorem each_any (w : World) (hi : Nat) (A : Option Addr) (n c : Nat) (l : List (EN × Sl)) (hl : ExIn w hi ⟨A, n, c⟩ l) (hh : hi ≤ w.heap.size) (ev : ExprEnv w) (kv : KindEnv w) :
    Calls Tryd.prog 7 #[.agg #[.slice A n c]] w (EachIs w (eachV (nodesOf l))) := by
  have hm := hl.max
  unfold maxLen at hm
  have HL := Lib.hid hl
  have HN : Hid (n = l.length) := Lib.hid hl.g.n
  have HEV := Lib.hid ev
  have HKV := Lib.hid kv
  clear hl ev kv
  generalize hrr : eachV (nodesOf l) = rr
  have HRR := Lib.hid hrr
  clear hrr
  have HB0 : Hid (EB w A n c (.slice none 0 0) 0 0 ((((w.alloc (.cells #[.slice A n c] 24)).alloc (.cells #[.slice none 0 0] 29)).alloc (.cells #[.int .i64 0] 3)).alloc (.cells #[.int .i64 0] 26))) := Lib.hid
    ⟨below_more (below_more (below_more (below_of_alloc _) _) _) _, (((Blk.new _ _ _).alloc _).alloc _).alloc _, ((Blk.new' (by simp)).alloc _).alloc _, (Blk.new' (by simp)).alloc _, Blk.new' (by simp)⟩
  have hres : Tryd.f7.results = #[.cell 2 29, .cell 3 3, .cell 4 26] := by kernel_rfl
  refine callsIn_wide.1 (callsIn_of_wp_marks (n := 1) Tryd.func7 rfl trivial (wpIn_wide.2 ?_))
  simp only [Tryd.ntmps7, List.size_toArray, List.length_cons, List.length_nil, Nat.reduceAdd, Nat.reduceSub, Array.replicate_succ, Array.replicate_zero, List.push_toArray, List.append_toArray, List.nil_append, List.cons_append]
  go_upto_region 1 with (fail)
  generalize (((w.alloc (.cells #[.slice A n c] 24)).alloc (.cells #[.slice none 0 0] 29)).alloc (.cells #[.int .i64 0] 3)).alloc (.cells #[.int .i64 0] 26) = X0 at HB0 ⊢
  have HRT := Lib.hid (right_x X0 hi A n c l (HL.out.below (HB0.out.bel.mono hh)) (Nat.le_trans hh HB0.out.bel.size) (HEV.out.below HB0.out.bel))
  have cx := (HB0.out.e.cell 0).trans (show _ = some (.slice A n c) from rfl)
  by_cases h0 : rightV (nodesOf l) = 0
  · obtain ⟨f, hf⟩ := tree_of h0
    rw [h0] at HRT
    have HF := Lib.hid hf
    have HE := Lib.hid ((eachV_run h0 hf).symm.trans HRR.out)
    have hn256 : n ≤ 256 := by have := hf.len; rw [nodesOf_len] at this; have := HN.out; omega
    clear h0 hf
    go_upto_region 4 with (go_at_call 15; refine HRT.out.mono ?_; rintro e w2 ⟨rfl, hb2⟩; have HB2 := Lib.hid (HB0.out.after hb2); clear hb2)
    clear cx HRT
    have cx := (HB2.out.e.cell 0).trans (show _ = some (.slice A n c) from rfl)
    have hmk := make_ints n (by omega)
    have HB4 : Hid (EB w A n c (.slice none 0 0) 0 0 ((w2.alloc (.cells (intCells (List.replicate n 0)).toArray 3)).alloc (.cells #[.slice (some ⟨w2.heap.size, 0, none⟩) n n] 29))) := Lib.hid (HB2.out.after (below_more (below_of_alloc _) _))
    have HI4 : Hid (IBlk ((w2.alloc (.cells (intCells (List.replicate n 0)).toArray 3)).alloc (.cells #[.slice (some ⟨w2.heap.size, 0, none⟩) n n] 29)) w2.heap.size (List.replicate n 0)) := Lib.hid (Blk.alloc (Blk.new _ _ _) _)
    have HT4 : Hid (Blk ((w2.alloc (.cells (intCells (List.replicate n 0)).toArray 3)).alloc (.cells #[.slice (some ⟨w2.heap.size, 0, none⟩) n n] 29)) (w2.heap.size + 1) 29 #[.slice (some ⟨w2.heap.size, 0, none⟩) n n]) := Lib.hid (Blk.new' (by simp))
    go_upto_region 5 with (fail)
    generalize (w2.alloc (.cells (intCells (List.replicate n 0)).toArray 3)).alloc (.cells #[.slice (some ⟨w2.heap.size, 0, none⟩) n n] 29) = W4 at HB4 HI4 HT4 ⊢
    have HGL : Hid (w.heap.size + 1 + 1 + 1 < w2.heap.size) := Lib.hid HB2.out.r4.lt
    generalize w2.heap.size = gl at HI4 HT4 HGL ⊢
    clear cx hmk
    have cx := (HB4.out.e.cell 0).trans (show _ = some (.slice A n c) from rfl)
    go_wp2_with (go_at_call 16; refine (behind_any _ A n c).mono ?_; rintro e w6 ⟨rfl, rfl⟩)
    have hs4 := HT4.out.lt
    have hb4 := HB4.out.bel.size
    have HSQ := Lib.hid (behind_seq (W4.alloc (.cells #[.slice A n c] 22)) hi A n c l (HL.out.below ((HB4.out.bel.trans ((below_of_alloc _).mono hb4)).mono hh)) f HF.out w.heap.size W4.heap.size hh (by simp; omega) (Blk.new _ _ _))
    have hz6 : (W4.alloc (.cells #[.slice A n c] 22)).heap.size = W4.heap.size + 1 := by simp
    have HNL : Hid ((nodesOf l).length = n) := Lib.hid (by rw [nodesOf_len, HN.out])
    refine (wpIn_wide (n := 1)).1 (range_behind rfl rfl (enters_of Tryd.func27 (by kernel_rfl) rfl) HSQ.out (Below.refl _ _) rfl (by rw [hz6]; omega) (EI w A n c gl (nodesOf l)) (EX w A n c (nodesOf l)) (EI.own (by rw [hz6]; omega)) (EX.own (by rw [hz6]; omega))
      ⟨List.replicate n 0, rfl, by simp, fun v hv => by rw [(List.mem_replicate.1 hv).2]; omega, HB4.out.after (below_of_alloc _), Blk.alloc HI4.out _, HT4.out.alloc _⟩
      (fun x => { tmps := #[.agg #[.slice A n c], .pointer (some ⟨w.heap.size, 0, none⟩), .pointer (some ⟨w.heap.size + 1, 0, none⟩), .pointer (some ⟨w.heap.size + 1 + 1, 0, none⟩), .pointer (some ⟨w.heap.size + 1 + 1 + 1, 0, none⟩), .int .i64 0, .pointer (some ⟨gl + 1, 0, none⟩), .int .i64 (x.1 : Int), .bool x.2, undef, undef, .agg #[.slice A n c], .int .i64 0, .int .i64 0, .bool false, undef, .pointer (some ⟨w.heap.size, 0, none⟩), .slice A n c, .int .i64 n, .slice (some ⟨gl, 0, none⟩) n n, .pointer (some ⟨w.heap.size, 0, none⟩), .slice A n c, .func (.func 27) #[] #[.pointer (some ⟨W4.heap.size, 0, none⟩)], .int .i64 (x.1 : Int), .bool x.2, undef, undef, undef, undef, undef, undef, undef, undef, undef, undef, undef, undef, undef, undef, undef, undef, undef, undef, undef, undef], defers := [] }) ?assign ?body ?done ?stop)
    case assign =>
      intro lp x W K hK
      gi_wp2
      exact hK
    case body =>
      rintro lp pre x W ⟨K, k1, k2, k3, k4, k5, k6⟩ hpf hw2
      have hxm : x ∈ postOf f := hpf.subset (by simp)
      have hxn := post_in f 0 _ x hxm
      rw [Nat.zero_add, HF.out.size, HNL.out] at hxn
      have hqn := hxn.2
      have hgl := HGL.out
      obtain ⟨q, b⟩ := x
      simp only at hqn
      have K4 := Lib.hid k4
      have K5 := Lib.hid k5
      have K6 := Lib.hid k6
      have HK2 := Lib.hid k2
      have HK3 := Lib.hid k3
      have d2 := k4.r2.cell 0
      have d3 := k4.r3.cell 0
      have d4 := k4.r4.cell 0
      have f2 := k4.r2.frozen 0
      have f3 := k4.r3.frozen 0
      have f4 := k4.r4.frozen 0
      have HRA : Hid (∀ y, runP (nodesOf l) (pre ++ [y]) (List.replicate n 0) = runP (nodesOf l) [y] K) := Lib.hid fun y => by rw [runP_app, k1]
      cases b with
      | true =>
        have HRB : Hid (runP (nodesOf l) (pre ++ [(q, true)]) (List.replicate n 0) = .bad q 91) := Lib.hid (by rw [HRA.out]; rfl)
        clear k1 k2 k3 k4 k5 k6 hpf hxm hxn
        gi_wp2
        obtain ⟨o1, o2⟩ := outs_keep W w.heap.size ((W4.alloc (.cells #[.slice A n c] 22)).heap.size + 2) (.slice none 0 0) (.int .i64 (q : Int)) (.int .i64 91) (by rw [hz6]; omega)
        exact ⟨o1, o2, q, 91, HRB.out, K4.out.out (.slice none 0 0) q 91⟩
      | false =>
        obtain ⟨b, o, x, hA, hb, hx, hc, hin, hok⟩ := HL.out.at_ (i := q) hqn
        simp only at hA
        subst hA
        have hsz := K4.out.bel.size
        have hc1 := hc.below K4.out.bel (show b < w.heap.size by omega)
        have c0 := hc1.c0
        have c1 := hc1.c1
        have c2 := hc1.c2
        have c3 := hc1.c3
        have cx1 := (K4.out.e.cell 0).trans (show _ = some (.slice (some ⟨b, o, none⟩) n c) from rfl)
        have c6 := (K6.out.cell 0).trans (show _ = some (.slice (some ⟨gl, 0, none⟩) n n) from rfl)
        have hxe := nodesOf_at hx
        have hsd := sound_kids (HF.out.sound _ (List.mem_of_getElem? hxe))
        have hkl := HK2.out
        have hkx := kindOf_any W.drew W.heap.size x (some ⟨gl, 0, none⟩) n n K ((enK.below hin ((K4.out.after (drew1_below W)).bel.mono hh)) |> fun h => enK.mono h (Nat.le_refl _) (Nat.le_trans hh hsz)) (row_blk (w := W.drew) K5.out (by simp [intCells, hkl]) (Nat.le_refl _) (by unfold maxLen; omega) |> fun h => Row.mono h (Nat.zero_le _) (Blk.lt K5.out)) (Nat.le_refl _) hkl.symm (HKV.out.below (K4.out.after (drew1_below W)).bel) hsd (fun q' hq' => by
          obtain ⟨j, hj⟩ := List.mem_iff_getElem?.1 hq'
          have := HF.out.oneUp.pos hxe hj
          rw [HNL.out] at this
          exact ⟨by omega, this.2⟩) HK3.out
        have HRB : Hid (runP (nodesOf l) (pre ++ [(q, false)]) (List.replicate n 0) = if kindP x.1.kind (x.1.kids.map fun q => K.getD q.toNat 0) = 0 then .bad q 90 else .ok (K.set q (kindP x.1.kind (x.1.kids.map fun q => K.getD q.toNat 0)))) := Lib.hid (by
          rw [HRA.out]
          simp only [runP, Bool.false_eq_true, if_false, hxe])
        have HX2 := Lib.hid hkx
        have hin2 := kidsV_in' hsd
        have HKP := Lib.hid (kindP_le hin2.1 hin2.2 (x.1.kids.map fun q => K.getD q.toNat 0))
        generalize kindP x.1.kind (x.1.kids.map fun q => K.getD q.toNat 0) = kp at HX2 HRB HKP
        obtain ⟨⟨kd, T, nn, ks⟩, ⟨A', n', c'⟩⟩ := x
        simp only at c0 c1 c2 c3 HX2
        have hmx : Tryd.prog.follows .mixedOrders = true := by kernel_rfl
        have hfn : Fence.wide.fn 17 := trivial
        have hfd : Fence.wide.depth = none := rfl
        have hwz : w.heap.size < W.heap.size := K4.out.e.lt
        clear k1 k2 k3 k4 k5 k6 hpf hxm hxn hkx hc hc1 hin hok hx hxe hsd
        clear hin2
        by_cases h0 : kp = 0
        · subst h0
          have HX3 : Hid (Calls Tryd.prog 17 #[.agg #[.int .i64 kd, .string T, .int .i64 nn, .slice A' n' c'], .slice (some ⟨gl, 0, none⟩) n n] W.drew (fun e w' => e = .returned (.tuple #[.int .i64 0, .bool false]) ∧ Below W.drew.heap.size W.drew w')) := Lib.hid HX2.out
          rw [if_pos rfl] at HRB
          gi_wp2
          gi_region_with_o (gi_at_call 17; refine CallsIn.mono (CallsIn.inRound lp (callsIn_wide.2 HX3.out)) ?_; rintro e w9 ⟨rfl, hb9⟩; have hbW := (drew1_below W).trans (hb9.mono (Nat.le_refl _)); have K9 := Lib.hid (K4.out.after hbW); have K59 : Hid (IBlk w9 gl K) := Lib.hid (Blk.after K5.out hbW); have K69 := Lib.hid (K6.out.after hbW); have HKO := Lib.hid (keeps_after hbW); have HKE : Hid (KpE w.heap.size ((W4.alloc (.cells #[.slice (some ⟨b, o, none⟩) n c] 22)).heap.size + 2) W w9) := Lib.hid (KpE.after hbW hsz); have d2 := K9.out.r2.cell 0; have d3 := K9.out.r3.cell 0; have d4 := K9.out.r4.cell 0; have f2 := K9.out.r2.frozen 0; have f3 := K9.out.r3.frozen 0; have f4 := K9.out.r4.frozen 0; have c6 := (K69.out.cell 0).trans (show _ = some (.slice (some ⟨gl, 0, none⟩) n n) from rfl); have c7 := K59.out.cell (i := q) (by have := HK2.out; omega); have f7 := Blk.frozen K59.out q; clear hb9 hbW)
          all_goals
            gi_wp2
            obtain ⟨o1, o2⟩ := outs_keep w9 w.heap.size ((W4.alloc (.cells #[.slice (some ⟨b, o, none⟩) n c] 22)).heap.size + 2) (.slice none 0 0) (.int .i64 (q : Int)) (.int .i64 90) (by rw [hz6]; omega)
            exact ⟨HKO.out.trans o1, HKE.out.trans o2, q, 90, HRB.out, K9.out.out (.slice none 0 0) q 90⟩
        · have HX3 : Hid (Calls Tryd.prog 17 #[.agg #[.int .i64 kd, .string T, .int .i64 nn, .slice A' n' c'], .slice (some ⟨gl, 0, none⟩) n n] W.drew (fun e w' => e = .returned (.tuple #[.int .i64 kp, .bool true]) ∧ Below W.drew.heap.size W.drew w')) := Lib.hid (HX2.out.mono fun e w' h => ⟨by rw [h.1, decide_eq_true h0], h.2⟩)
          rw [if_neg h0] at HRB
          clear h0
          gi_wp2
          gi_region_with_o (gi_at_call 17; refine CallsIn.mono (CallsIn.inRound lp (callsIn_wide.2 HX3.out)) ?_; rintro e w9 ⟨rfl, hb9⟩; have hbW := (drew1_below W).trans (hb9.mono (Nat.le_refl _)); have K9 := Lib.hid (K4.out.after hbW); have K59 : Hid (IBlk w9 gl K) := Lib.hid (Blk.after K5.out hbW); have K69 := Lib.hid (K6.out.after hbW); have HKO := Lib.hid (keeps_after hbW); have HKE : Hid (KpE w.heap.size ((W4.alloc (.cells #[.slice (some ⟨b, o, none⟩) n c] 22)).heap.size + 2) W w9) := Lib.hid (KpE.after hbW hsz); have d2 := K9.out.r2.cell 0; have d3 := K9.out.r3.cell 0; have d4 := K9.out.r4.cell 0; have f2 := K9.out.r2.frozen 0; have f3 := K9.out.r3.frozen 0; have f4 := K9.out.r4.frozen 0; have c6 := (K69.out.cell 0).trans (show _ = some (.slice (some ⟨gl, 0, none⟩) n n) from rfl); have c7 := K59.out.cell (i := q) (by have := HK2.out; omega); have f7 := Blk.frozen K59.out q; clear hb9 hbW)
          all_goals
            gi_wp2
            exact ⟨HKO.out.trans (KeepsOthers.setCell w9 ⟨gl, q, none⟩ _), HKE.out.trans (KpE.cell (by omega) (by rw [hz6]; omega)), K.set q kp, HRB.out, by rw [List.length_set]; exact HK2.out, fun v hv => (List.mem_or_eq_of_mem_set hv).elim (fun h => HK3.out v h) (fun h => by rw [h]; exact HKP.out), K9.out.far hgl q _, K59.out.set_ q kp, K69.out.far (p := ⟨gl, q, none⟩) (by show gl + 1 ≠ gl; omega) _⟩
    case done =>
      rintro D W hD ⟨K, k1, k2, k3, k4, k5, k6⟩ hDf
      have HRE : Hid (rr = (K, 0, 0)) := Lib.hid (by
        have := HE.out
        rw [HNL.out, show f.post 0 (fun _ => []) = postOf f from rfl, k1] at this
        exact this.symm)
      have K4 := Lib.hid k4
      have K5 := Lib.hid k5
      have HDf := Lib.hid hDf
      have HK2 := Lib.hid k2
      have c6 := (k6.cell 0).trans (show _ = some (.slice (some ⟨gl, 0, none⟩) n n) from rfl)
      have d2 := k4.r2.cell 0
      have d3 := k4.r3.cell 0
      have d4 := k4.r4.cell 0
      have f2 := k4.r2.frozen 0
      have f3 := k4.r3.frozen 0
      have f4 := k4.r4.frozen 0
      clear k1 k2 k3 k4 k5 k6 hDf
      go_wp2_with fail
      have hgl := HGL.out
      have hz7 : w.heap.size + 1 + 1 + 1 < D := by rw [hz6] at hD; omega
      have k3 := K4.out.out (.slice (some ⟨gl, 0, none⟩) n n) 0 0
      have k5 : IBlk (((W.setCell ⟨w.heap.size + 1, 0, none⟩ (.slice (some ⟨gl, 0, none⟩) n n)).setCell ⟨w.heap.size + 1 + 1, 0, none⟩ (.int .i64 0)).setCell ⟨w.heap.size + 1 + 1 + 1, 0, none⟩ (.int .i64 0)) gl K :=
        ((Blk.far K5.out (p := ⟨w.heap.size + 1, 0, none⟩) (by show gl ≠ w.heap.size + 1; omega) _).far (p := ⟨w.heap.size + 1 + 1, 0, none⟩) (by show gl ≠ w.heap.size + 1 + 1; omega) _).far (p := ⟨w.heap.size + 1 + 1 + 1, 0, none⟩) (by show gl ≠ w.heap.size + 1 + 1 + 1; omega) _
      have hD5 : (((W.setCell ⟨w.heap.size + 1, 0, none⟩ (.slice (some ⟨gl, 0, none⟩) n n)).setCell ⟨w.heap.size + 1 + 1, 0, none⟩ (.int .i64 0)).setCell ⟨w.heap.size + 1 + 1 + 1, 0, none⟩ (.int .i64 0)).heap[D]? = some (.deferred (some [])) :=
        ((Below.heap_setCell _ ⟨w.heap.size + 1 + 1 + 1, 0, none⟩ _ D (by show D ≠ w.heap.size + 1 + 1 + 1; omega)).trans ((Below.heap_setCell _ ⟨w.heap.size + 1 + 1, 0, none⟩ _ D (by show D ≠ w.heap.size + 1 + 1; omega)).trans ((Below.heap_setCell _ ⟨w.heap.size + 1, 0, none⟩ _ D (by show D ≠ w.heap.size + 1; omega)).trans HDf.out)))
      generalize (((W.setCell ⟨w.heap.size + 1, 0, none⟩ (.slice (some ⟨gl, 0, none⟩) n n)).setCell ⟨w.heap.size + 1 + 1, 0, none⟩ (.int .i64 0)).setCell ⟨w.heap.size + 1 + 1 + 1, 0, none⟩ (.int .i64 0)) = Y at k3 k5 hD5 ⊢
      refine ⟨by simp, .inl ⟨D, _, rfl, run_takeDeferred hD5, ?_⟩⟩
      have k6 : EB w A n c (.slice (some ⟨gl, 0, none⟩) n n) 0 0 (Y.putObj D (.deferred none)) := k3.own (grownBy_putObj' Y D (.deferred none)) (fun r e => by cases e; exact ⟨by omega, _, hD5, rfl⟩)
      have k7 : IBlk (Y.putObj D (.deferred none)) gl K := Blk.own k5 (grownBy_putObj' Y D (.deferred none)) (fun r e => by cases e; exact ⟨_, hD5, rfl⟩)
      refine ⟨_, each_res _ hres k6 _ rfl rfl rfl rfl, eachIs_list (B := w.heap.size) HRE.out HK2.out.symm ?_ (Nat.le_refl _) k6.bel⟩
      have hkl := HK2.out
      refine ⟨by simp [intCells], .inr ⟨gl, n, (intCells K).toArray, by rw [hkl], by omega, k7, by omega, by unfold maxLen; omega, by simp [intCells, hkl], by simp [intCells, hkl]; exact List.take_of_length_le (by rw [List.length_map]; omega)⟩⟩
    case stop =>
      rintro D k W hD hk ⟨q, err, k1, k2⟩ hDf
      have HRE : Hid (rr = ([], (q : Int), err)) := Lib.hid (by
        have := HE.out
        rw [HNL.out, show f.post 0 (fun _ => []) = (postOf f).take (k + 1) ++ (postOf f).drop (k + 1) from (List.take_append_drop _ _).symm, runP_app, k1] at this
        exact this.symm)
      refine wpIn_wide.2 ?_
      go_wp2_with fail
      refine ⟨by simp, .inl ⟨D, _, rfl, run_takeDeferred hDf, ?_⟩⟩
      have k3 : EB w A n c (.slice none 0 0) q err (W.putObj D (.deferred none)) := k2.own (grownBy_putObj' W D (.deferred none)) (fun r e => by cases e; exact ⟨by rw [hz6] at hD; omega, _, hDf, rfl⟩)
      exact ⟨_, each_res _ hres k3 _ rfl rfl rfl rfl, eachIs_none HRE.out k3.bel⟩
  · have HE2 : Hid (rr = ([], 0, rightV (nodesOf l))) := Lib.hid ((eachV_bad h0).symm.trans HRR.out).symm
    have b0 : (rightV (nodesOf l) != 0) = true := by rw [bne_iff_ne]; exact h0
    generalize rightV (nodesOf l) = rv at HE2 b0 HRT
    clear h0
    go_wp2_with (go_at_call 15; refine HRT.out.mono ?_; rintro e w2 ⟨rfl, hb2⟩; have HB2 := Lib.hid (HB0.out.after hb2); have d2 := HB2.out.r2.cell 0; have d3 := HB2.out.r3.cell 0; have d4 := HB2.out.r4.cell 0; have f2 := HB2.out.r2.frozen 0; have f3 := HB2.out.r3.frozen 0; have f4 := HB2.out.r4.frozen 0; clear hb2)
    have HB3 := HB2.out.out (.slice none 0 0) 0 rv
    exact ⟨_, each_res _ hres HB3 _ rfl rfl rfl rfl, eachIs_none HE2.out HB3.bel⟩
end Go.Proofs.YtjlpoigcalfdlaaDoor

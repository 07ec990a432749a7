/-
  PLAIN: what is joined is cut again as it was; what is cut may be joined. No program stands in it.
  WALKS: the program's Parse: what is thrown is caught and told.
  WALKS: the program's Parse.
-/
import Derived.Test.YtckfcpiedainfaaGreatDoorZE28
import Derived.Tactics2
import Derived.Defers
import Derived.Recover
import Derived.Laws.Pointers
namespace Go.Proofs.YtckfcpiedainfaaGreatDoor
open Go
set_option linter.unusedVariables false
/-- nothing, or a blank first -/
def Tail (v : List UInt8) : Prop := v = [] ∨ ∃ b u, v = b :: u ∧ blank b = true
theorem Tail.apart {v : List UInt8} (h : Tail v) : apart v = true := by
  rcases h with rfl | ⟨b, u, rfl, hb⟩
  · rfl
  · have hc : innC b = false := by rcases blank_cases hb with rfl | rfl <;> decide
    simp [Go.Proofs.YtckfcpiedainfaaGreatDoor.apart, hc]
theorem scanL_len {t l : List UInt8} {n : Nat} (h : scanL t = (some l, n)) : l.length ≤ t.length := by
  obtain ⟨e, hn⟩ := scanL_is t.length t l n (Nat.le_refl _) h
  have h1 := flat_ge l
  have h2 := congrArg List.length e
  rw [List.length_take, List.length_append] at h2
  simp only [List.length_cons, List.length_nil] at h2
  omega
theorem lexT_may {r : List UInt8} {k : Tok} {n : Nat} (h : lexT r = (some k, n)) (hr : r.length ≤ 100000) : may k = true ∧ TokOk k := by
  have hw := lexT_way r
  generalize hq : lexT r = y at hw
  rw [hq] at h
  clear hq
  have hbt : ∀ m, (ba (r.take m)).size ≤ 140737488355328 := fun m => by rw [ba_size, List.length_take]; omega
  cases hw with
  | name m h1 h2 =>
    unfold nameT at h
    split at h
    · simp only [Prod.mk.injEq, Option.some.injEq] at h
      obtain ⟨rfl, _⟩ := h
      have hR := h1.yes (m - 1) (by omega)
      rw [show m - 1 + 1 = m by omega] at hR
      refine ⟨?_, ⟨by simp, by simp, hbt m⟩⟩
      unfold may kindOf
      simp only [ba_data]
      cases hwd : wordB (r.take m) with
      | true => simp
      | false => simp [hR]
    · simp at h
  | int m h1 h2 h3 =>
    unfold intTk at h
    split at h
    · simp only [Prod.mk.injEq, Option.some.injEq] at h
      obtain ⟨rfl, _⟩ := h
      have hD := h2.yes (m - 1) (by omega)
      rw [show m - 1 + 1 = m by omega] at hD
      obtain ⟨c, t, rfl, hc⟩ := far_pos_head h2 h3
      obtain ⟨u, hu⟩ := take_cons (c := c) (t := t) (n := m) h3
      have hq := is_numQ (dig_one c hc) (by rw [← hu]; exact hD)
      rw [hu]
      unfold numQ at hq
      cases hv : intT (c :: u) with
      | none => rw [hv] at hq; cases hq
      | some v =>
        rw [hv] at hq
        have h0 : 0 ≤ v := by simpa using hq
        have hb := intT_out hv
        refine ⟨?_, ⟨hb.2.1, hb.2.2.1, by rw [ba_size]; simp⟩⟩
        unfold may
        simp [h0, ba]
    · simp at h
  | text t h1 h2 h3 =>
    unfold textT at h
    split at h
    · rename_i l m hs
      simp only [Prod.mk.injEq, Option.some.injEq] at h
      obtain ⟨rfl, _⟩ := h
      have hl := scanL_len hs
      subst h3
      simp at hr
      exact ⟨by unfold may; simp, ⟨by simp, by simp, by rw [ba_size]; omega⟩⟩
    · simp at h
  | mark m h1 h2 h3 h4 =>
    unfold markT at h
    split at h
    · rename_i hm
      simp only [Prod.mk.injEq, Option.some.injEq] at h
      obtain ⟨rfl, _⟩ := h
      refine ⟨?_, ⟨by simp, by simp, hbt m⟩⟩
      unfold may
      simp only [ba_data]
      simp [hm]
    · simp at h
theorem scanT_may : ∀ (d p : Nat) (r : List UInt8) (l : List Tok), r.length ≤ d → r.length ≤ 100000 → scanT p r = (some l, 0) → l.all may = true ∧ ∀ k ∈ l, TokOk k := by
  intro d
  induction d with
  | zero =>
    intro p r l hd hr h
    obtain rfl : r = [] := List.length_eq_zero_iff.1 (by omega)
    rw [scanT_nil] at h
    simp only [Prod.mk.injEq, Option.some.injEq, and_true] at h
    subst h
    exact ⟨rfl, by simp⟩
  | succ d ih =>
    intro p r l hd hr h
    rcases scanT_ways r with rfl | ⟨c, t, rfl, hc⟩ | ⟨c, t, k, n, rfl, hc, hk⟩ | ⟨c, t, n, rfl, hc, hk⟩
    · rw [scanT_nil] at h
      simp only [Prod.mk.injEq, Option.some.injEq, and_true] at h
      subst h
      exact ⟨rfl, by simp⟩
    · rw [scanT_blank hc] at h
      exact ih _ _ _ (by simp at hd; omega) (by simp at hr; omega) h
    · have hl := lexT_len hk
      rw [scanT_tok hc hk] at h
      rcases hs : scanT (p + n) ((c :: t).drop n) with ⟨o, j⟩
      rw [hs] at h
      cases o with
      | none => simp [ahd] at h
      | some l' =>
        have := scanT_zero _ _ _ _ _ (Nat.le_refl _) hs
        subst this
        simp only [ahd, Prod.mk.injEq, Option.some.injEq, and_true] at h
        subst h
        obtain ⟨h1, h2⟩ := ih _ _ _ (by rw [List.length_drop]; omega) (by rw [List.length_drop]; omega) hs
        obtain ⟨m1, m2⟩ := lexT_may hk hr
        refine ⟨by rw [List.all_cons, h1]; simp; exact m1, fun x hx => ?_⟩
        rcases List.mem_cons.1 hx with rfl | hx
        · exact ⟨m2.i0, m2.i1, m2.t⟩
        · exact h2 x hx
    · rw [scanT_bad hc hk] at h; simp at h
theorem scanR_may {S : List UInt8} {l : List Tok} (h : scanR S = (l, 0, 0)) : l.all may = true ∧ ∀ k ∈ l, TokOk k := by
  rcases scanR_cases S with ⟨_, hr⟩ | ⟨h4, m, hs, hr⟩ | ⟨_, n, _, hr⟩
  · rw [hr] at h; simp at h
  · rw [hr] at h
    simp only [Prod.mk.injEq, and_true] at h
    subst h
    exact scanT_may _ 0 S m (Nat.le_refl _) (by omega) hs
  · rw [hr] at h; simp at h
end Go.Proofs.YtckfcpiedainfaaGreatDoor
namespace Go.Proofs.YtckfcpiedainfaaGreatDoor
open Go Go.RowKit Go.Sort
set_option linter.unusedVariables false
theorem as_wrongE (q : Int) (w : World) : (Instr.typeAssert (.iface 44 (.int .i64 q)) 20 44 true).run Tryz.prog w = .ok (.tuple #[.int .i64 q, .bool true]) w := by kernel_rfl
theorem as_nilE (w : World) : (Instr.typeAssert .nilIface 20 44 true).run Tryz.prog w = .ok (.tuple #[.int .i64 0, .bool false]) w := by kernel_rfl
/-- what was not below stays so, but for three blocks -/
def Kept3 (g0 g1 g2 : Nat) (w w' : World) : Prop := ∀ W : World, W.heap.size ≤ g0 → W.heap.size ≤ g1 → W.heap.size ≤ g2 → Below W.heap.size W w → Below W.heap.size W w'
set_option maxRecDepth 20000 in
set_option maxHeartbeats 1600000 in
theorem catch_someE (g0 g1 g2 : Nat) (q : Int) (w : World) (h0 : Blk w g0 24 #[.slice none 0 0]) (h1 : Blk w g1 3 #[.int .i64 0]) (h2 : Blk w g2 25 #[.int .i64 0]) (h01 : g0 ≠ g1) (h02 : g0 ≠ g2) (h12 : g1 ≠ g2) :
    CallsD Tryz.prog 17 #[.pointer (some ⟨g0, 0, none⟩), .pointer (some ⟨g1, 0, none⟩), .pointer (some ⟨g2, 0, none⟩)] (.panicking [{ v := .iface 44 (.int .i64 q), recovered := false }]) w fun e u' w' =>
      e = .returned (.tuple #[]) ∧ u' = .panicking [{ v := .iface 44 (.int .i64 q), recovered := true }] ∧ (Blk w' g0 24 #[.slice none 0 0] ∧ Blk w' g1 3 #[.int .i64 q] ∧ Blk w' g2 25 #[.int .i64 80]) ∧ Kept3 g0 g1 g2 w w' := by
  have c0 := (h0.cell 0).trans (show _ = some (.slice none 0 0) from rfl)
  have c1 := (h1.cell 0).trans (show _ = some (.int .i64 0) from rfl)
  have c2 := (h2.cell 0).trans (show _ = some (.int .i64 0) from rfl)
  have z0 := h0.frozen 0
  have z1 := h1.frozen 0
  have z2 := h2.frozen 0
  refine callsD_of_wpS Tryz.func17 rfl fun k₀ cs hu => ?_
  apply wpS_seq
  apply wpS_region
  simp [wpOpsS, go_sem, recoverD, hu, Tryz.ntmps17, Exit.thenS, as_wrongE, as_nilE, show Array.replicate 10 undef = #[undef, undef, undef, undef, undef, undef, undef, undef, undef, undef] from rfl]
  refine wpS_of_wp ?_
  go_wp2
  simp [bodyPostS, results, Tryz.results17]
  have k0 : Blk (w.setCell ⟨g0, 0, none⟩ (.slice none 0 0)) g0 24 #[.slice none 0 0] := by simpa using h0.set_ 0 (.slice none 0 0)
  have k1 : Blk ((w.setCell ⟨g0, 0, none⟩ (.slice none 0 0)).setCell ⟨g1, 0, none⟩ (.int .i64 q)) g1 3 #[.int .i64 q] := by simpa using (h1.far (p := ⟨g0, 0, none⟩) (Ne.symm h01) (.slice none 0 0)).set_ 0 (.int .i64 q)
  have k2 : Blk (((w.setCell ⟨g0, 0, none⟩ (.slice none 0 0)).setCell ⟨g1, 0, none⟩ (.int .i64 q)).setCell ⟨g2, 0, none⟩ (.int .i64 80)) g2 25 #[.int .i64 80] := by simpa using ((h2.far (p := ⟨g0, 0, none⟩) (Ne.symm h02) (.slice none 0 0)).far (p := ⟨g1, 0, none⟩) (Ne.symm h12) (.int .i64 q)).set_ 0 (.int .i64 80)
  exact ⟨⟨(k0.far (p := ⟨g1, 0, none⟩) h01 _).far (p := ⟨g2, 0, none⟩) h02 _, k1.far (p := ⟨g2, 0, none⟩) h12 _, k2⟩, fun W a b c hb => ((hb.setCell (p := ⟨g0, 0, none⟩) a _).setCell (p := ⟨g1, 0, none⟩) b _).setCell (p := ⟨g2, 0, none⟩) c _⟩
set_option maxRecDepth 20000 in
set_option maxHeartbeats 1600000 in
theorem catch_noneE (g0 g1 g2 : Nat) (w : World) :
    CallsD Tryz.prog 17 #[.pointer (some ⟨g0, 0, none⟩), .pointer (some ⟨g1, 0, none⟩), .pointer (some ⟨g2, 0, none⟩)] .returning w fun e u' w' => e = .returned (.tuple #[]) ∧ u' = .returning ∧ Below w.heap.size w w' := by
  refine callsD_of_wpS Tryz.func17 rfl fun k₀ cs hu => ?_
  apply wpS_seq
  apply wpS_region
  simp [wpOpsS, go_sem, recoverD, hu, Tryz.ntmps17, Exit.thenS, as_wrongE, as_nilE, show Array.replicate 10 undef = #[undef, undef, undef, undef, undef, undef, undef, undef, undef, undef] from rfl]
  refine wpS_of_wp ?_
  go_wp2
  simp [bodyPostS, results, Tryz.results17]
  exact ⟨.returning, by cases k₀; simp_all, rfl, Below.refl _ _⟩
/-- no more tokens than bytes -/
theorem scanT_cnt : ∀ (d p : Nat) (r : List UInt8) (l : List Tok), r.length ≤ d → scanT p r = (some l, 0) → l.length ≤ r.length := by
  intro d
  induction d with
  | zero =>
    intro p r l hd h
    have : r = [] := List.length_eq_zero_iff.1 (by omega)
    subst this
    rw [scanT_nil] at h
    simp only [Prod.mk.injEq, Option.some.injEq, and_true] at h
    subst h
    simp
  | succ d ih =>
    intro p r l hd h
    rcases scanT_ways r with rfl | ⟨c, t, rfl, hc⟩ | ⟨c, t, k, n, rfl, hc, hk⟩ | ⟨c, t, n, rfl, hc, hk⟩
    · rw [scanT_nil] at h
      simp only [Prod.mk.injEq, Option.some.injEq, and_true] at h
      subst h
      simp
    · rw [scanT_blank hc] at h
      have := ih _ _ _ (by simp at hd; omega) h
      rw [List.length_cons]
      omega
    · have hl := lexT_len hk
      rw [scanT_tok hc hk] at h
      rcases hs : scanT (p + n) ((c :: t).drop n) with ⟨o, j⟩
      rw [hs] at h
      cases o with
      | none => simp [ahd] at h
      | some l' =>
        have := scanT_zero _ _ _ _ _ (Nat.le_refl _) hs
        subst this
        simp only [ahd, Prod.mk.injEq, Option.some.injEq, and_true] at h
        subst h
        have hdl : ((c :: t).drop n).length < (c :: t).length := by rw [List.length_drop]; have := hl; omega
        have := ih _ _ _ (by omega) hs
        rw [List.length_cons]
        omega
    · rw [scanT_bad hc hk] at h; simp at h
/-- what tokens are -/
structure ToksOk (l : List Tok) : Prop where
  room : l.length ≤ 4096
  kinds : ∀ t ∈ l, 1 ≤ t.kind ∧ t.kind ≤ 5
  txt : TxtOk l
  ints : ∀ t ∈ l, -9223372036854775807 ≤ t.int ∧ t.int ≤ 9223372036854775807
theorem word_nil : wordB [] = false := by decide
theorem mark_nil : markB [] = false := by decide
theorem may_is {k : Tok} (h : may k = true) (ho : TokOk k) : (1 ≤ k.kind ∧ k.kind ≤ 5) ∧ (4 ≤ k.kind → k.text.data.toList ≠ []) ∧ (-9223372036854775807 ≤ k.int ∧ k.int ≤ 9223372036854775807) := by
  have h1 := ho.i1
  unfold may at h
  split at h
  · next e => simp only [Bool.and_eq_true, decide_eq_true_eq] at h; exact ⟨by omega, by omega, by omega⟩
  split at h
  · next e => simp only [decide_eq_true_eq] at h; exact ⟨by omega, by omega, by omega⟩
  split at h
  · next e => simp only [Bool.and_eq_true, decide_eq_true_eq] at h; exact ⟨by omega, by omega, by omega⟩
  split at h
  · next e => simp only [Bool.and_eq_true, decide_eq_true_eq] at h; exact ⟨by omega, fun _ e2 => (by rw [e2, word_nil] at h; simp at h), by omega⟩
  split at h
  · next e => simp only [Bool.and_eq_true, decide_eq_true_eq] at h; exact ⟨by omega, fun _ e2 => (by rw [e2, mark_nil] at h; simp at h), by omega⟩
  · cases h
theorem toks_ok {S : List UInt8} {l : List Tok} (h : scanR S = (l, 0, 0)) : ToksOk l := by
  obtain ⟨h1, h2⟩ := scanR_may h
  have hm : ∀ k ∈ l, may k = true := fun k hk => List.all_eq_true.1 h1 k hk
  refine ⟨?_, fun t ht => (may_is (hm t ht) (h2 t ht)).1, fun t ht => (may_is (hm t ht) (h2 t ht)).2.1, fun t ht => (may_is (hm t ht) (h2 t ht)).2.2⟩
  rcases scanR_cases S with ⟨_, hr⟩ | ⟨h4, m, hs, hr⟩ | ⟨_, n, _, hr⟩
  · rw [hr] at h; simp at h
  · rw [hr] at h
    simp only [Prod.mk.injEq, and_true] at h
    subst h
    have := scanT_cnt _ _ _ _ (Nat.le_refl _) hs
    omega
  · rw [hr] at h; simp at h
/-- what Parse answers: nodes, a place, an error -/
def exprR (S : List UInt8) : List EN × Int × Int :=
  if (scanR S).2.2 = 0 then (match parseV (scanR S).1 with
    | .error l' => ([], placeV l' S.length, 80)
    | .ok none => ([], 0, 4)
    | .ok (some m) => (m, 0, 0)) else ([], (scanR S).2.1, (scanR S).2.2)
def ParsePost (w : World) (r : List EN × Int × Int) (e : Ending) (w' : World) : Prop := ∃ (A : Option Addr) (c : Nat) (m : List (EN × Sl)), e = .returned (.tuple #[.agg #[.slice A m.length c], .int .i64 r.2.1, .int .i64 r.2.2]) ∧ nodesOf m = r.1 ∧ GE w.heap.size (.slice A m.length c) m w' ∧ Below w.heap.size w w'
end Go.Proofs.YtckfcpiedainfaaGreatDoor
namespace Go.Proofs.YtckfcpiedainfaaGreatDoor
open Go Go.RowKit Go.Sort
set_option linter.unusedVariables false
/-- the boxes of Parse -/
structure PB (w : World) (v : Value) (a r : Int) (X : World) : Prop where
  bel : Below w.heap.size w X
  b0 : Blk X w.heap.size 24 #[v]
  b1 : Blk X (w.heap.size + 1) 3 #[.int .i64 a]
  b2 : Blk X (w.heap.size + 1 + 1) 25 #[.int .i64 r]
section
variable {w X X' : World} {v : Value} {a r : Int}
theorem PB.after (h : PB w v a r X) (hb : Below X.heap.size X X') : PB w v a r X' := ⟨h.bel.trans (hb.mono h.bel.size), h.b0.after hb, h.b1.after hb, h.b2.after hb⟩
theorem PB.kept {g : Nat} (h : PB w v a r X) (hg : X.grownBy X' (some g)) (hgg : w.heap.size + 1 + 1 < g) : PB w v a r X' :=
  ⟨h.bel.grown hg h.bel.size (fun k hk => by cases hk; omega), h.b0.grown hg (by simp; omega), h.b1.grown hg (by simp; omega), h.b2.grown hg (by simp; omega)⟩
theorem PB.set1 (h : PB w v a r X) (a' : Int) : PB w v a' r (X.setCell ⟨w.heap.size + 1, 0, none⟩ (.int .i64 a')) :=
  ⟨h.bel.setCell (p := ⟨w.heap.size + 1, 0, none⟩) (by show w.heap.size ≤ w.heap.size + 1; omega) _, h.b0.far (p := ⟨w.heap.size + 1, 0, none⟩) (by show w.heap.size ≠ w.heap.size + 1; omega) _, by simpa using h.b1.set_ 0 (.int .i64 a'), h.b2.far (p := ⟨w.heap.size + 1, 0, none⟩) (by show w.heap.size + 1 + 1 ≠ w.heap.size + 1; omega) _⟩
theorem PB.set2 (h : PB w v a r X) (r' : Int) : PB w v a r' (X.setCell ⟨w.heap.size + 1 + 1, 0, none⟩ (.int .i64 r')) :=
  ⟨h.bel.setCell (p := ⟨w.heap.size + 1 + 1, 0, none⟩) (by show w.heap.size ≤ w.heap.size + 1 + 1; omega) _, h.b0.far (p := ⟨w.heap.size + 1 + 1, 0, none⟩) (by show w.heap.size ≠ w.heap.size + 1 + 1; omega) _, h.b1.far (p := ⟨w.heap.size + 1 + 1, 0, none⟩) (by show w.heap.size + 1 ≠ w.heap.size + 1 + 1; omega) _, by simpa using h.b2.set_ 0 (.int .i64 r')⟩
theorem PB.set0 (h : PB w v a r X) (v' : Value) : PB w v' a r (X.setCell ⟨w.heap.size, 0, none⟩ v') :=
  ⟨h.bel.setCell (p := ⟨w.heap.size, 0, none⟩) (Nat.le_refl _) _, by simpa using h.b0.set_ 0 v', h.b1.far (p := ⟨w.heap.size, 0, none⟩) (by show w.heap.size + 1 ≠ w.heap.size; omega) _, h.b2.far (p := ⟨w.heap.size, 0, none⟩) (by show w.heap.size + 1 + 1 ≠ w.heap.size; omega) _⟩
theorem PB.cells (h : PB w v a r X) : X.cell? ⟨w.heap.size, 0, none⟩ = some v ∧ X.cell? ⟨w.heap.size + 1, 0, none⟩ = some (.int .i64 a) ∧ X.cell? ⟨w.heap.size + 1 + 1, 0, none⟩ = some (.int .i64 r) := ⟨(h.b0.cell 0).trans rfl, (h.b1.cell 0).trans rfl, (h.b2.cell 0).trans rfl⟩
theorem PB.frees (h : PB w v a r X) : X.frozen? ⟨w.heap.size, 0, none⟩ = false ∧ X.frozen? ⟨w.heap.size + 1, 0, none⟩ = false ∧ X.frozen? ⟨w.heap.size + 1 + 1, 0, none⟩ = false := ⟨h.b0.frozen 0, h.b1.frozen 0, h.b2.frozen 0⟩
end
theorem GE.mono {B B' : Nat} {ov : Value} {l : List (EN × Sl)} {X : World} (h : GE B ov l X) (hB : B' ≤ B) : GE B' ov l X := ⟨⟨own_mono h.own hB, fun x hx => enOK.mono (h.leaf x hx) hB⟩, h.ap.monoB hB⟩
theorem own_low {w w' : World} {B size n g : Nat} {e : TypeId} {v : Value} {xs : List Value} (h : w.ownsRow B e size v n xs) (hg : w.grownBy w' (some g)) (hB : g < B) : w'.ownsRow B e size v n xs :=
  own_grown h (by
    cases hv : v.ownBlock with
    | none => exact .inl rfl
    | some k => right; intro e; have := (World.ownsRow.lt h k hv).1; injection e with e; omega) hg
theorem GE.low {B g : Nat} {ov : Value} {l : List (EN × Sl)} {X X' : World} (h : GE B ov l X) (hg : X.grownBy X' (some g)) (hB : g < B) : GE B ov l X' :=
  ⟨⟨own_low h.own hg hB, fun x hx => ⟨(h.leaf x hx).kn, own_low (h.leaf x hx).k hg hB⟩⟩, List.Pairwise.imp (fun ⟨k, h0, h1, h2⟩ => ⟨k, h0, h1, h2.kn, own_low h2.k hg (by omega)⟩) h.ap⟩
theorem leaves_same {P : Program} {fn : Func} {R : Ending → World → Prop} {tmps tmps' : Array Value} (h : ∀ w, (results fn tmps).run P w = (results fn tmps').run P w) : ∀ (ds : List Deferred) (u : FrameMode) (w : World), Leaves P fn tmps R ds u w → Leaves P fn tmps' R ds u w := by
  intro ds
  induction ds with
  | nil =>
    intro u w hl
    cases u with
    | returning => obtain ⟨v, h1, h2⟩ := hl; exact ⟨v, by rw [← h]; exact h1, h2⟩
    | panicking c => exact hl
    | run => exact hl
  | cons d ds ih =>
    intro u w hl
    obtain ⟨hne, fv, cap, f, args, h1, h2, h3⟩ := hl
    exact ⟨hne, fv, cap, f, args, h1, h2, h3.mono fun e u' w' he => by
      cases e with
      | returned v => exact ih _ _ he
      | panicked c => exact ih _ _ he
      | outgrown => exact he⟩
theorem tmps_ne {a : Act} {t j : Nat} {u : Value} (h : t ≠ j) : (a.put (some t) u).tmps[j]? = a.tmps[j]? := by
  show (a.tmps.setIfInBounds t u)[j]? = _
  simp [h]
theorem res_same {a : Act} {t : Nat} {u : Value} (h : 4 < t) (w : World) : (results Tryz.f8 (a.put (some t) u).tmps).run Tryz.prog w = (results Tryz.f8 a.tmps).run Tryz.prog w := by
  have hres : Tryz.f8.results = #[.cell 2 24, .cell 3 3, .cell 4 25] := by kernel_rfl
  have e2 := tmps_ne (a := a) (u := u) (show t ≠ 2 by omega)
  have e3 := tmps_ne (a := a) (u := u) (show t ≠ 3 by omega)
  have e4 := tmps_ne (a := a) (u := u) (show t ≠ 4 by omega)
  simp only [results, hres]
  simp [e2, e3, e4]
theorem hQE {K K1 : Act → World → Prop} {R : Ending → World → Prop} {t : Nat} (h4 : 4 < t) (c : List PanicEntry) (a : Act) (v : Value) (w : World) (h : (Exit.then K (Exit.then K1 (bodyPostD Tryz.prog Tryz.f8 R))) (.panic c) (a.put (some t) v) w) : (Exit.then K (Exit.then K1 (bodyPostD Tryz.prog Tryz.f8 R))) (.panic c) a w := by
  have h' : Leaves Tryz.prog Tryz.f8 (a.put (some t) v).tmps R a.defers (.panicking c) w := h
  exact leaves_same (res_same h4) _ _ _ h'
set_option maxRecDepth 20000 in
set_option maxHeartbeats 3200000 in
theorem parse_lexErr (w : World) (s : ByteArray) (hs : s.size ≤ 140737488355328) (hE : ExprEnv w) (hV : ScanEnv w) (S : List UInt8) (hS : s.data.toList = S) (hr : ¬ (scanR S).2.2 = 0) : Calls Tryz.prog 8 #[.string s] w (ParsePost w (exprR S)) := by
  have hrx : exprR S = ([], ((scanR S).2.1 : Int), (scanR S).2.2) := if_neg hr
  rw [hrx]
  have HSC : Hid (∀ Y, Below w.heap.size w Y → Calls Tryz.prog 16 #[.string s] Y (ScanPost Y (scanR S))) := Lib.hid fun Y hY => by rw [← hS]; exact scan_any s Y hs (hV.below hY)
  have HB0 : Hid (PB w (.slice none 0 0) 0 0 (((w.alloc (.cells #[.slice none 0 0] 24)).alloc (.cells #[.int .i64 0] 3)).alloc (.cells #[.int .i64 0] 25))) := Lib.hid
    ⟨below_more (below_more (below_of_alloc _) _) _, ((Blk.new w _ _).alloc _).alloc _, (Blk.new' (by simp)).alloc _, Blk.new' (by simp)⟩
  clear hrx
  obtain ⟨⟨l0, n, c⟩, hsc⟩ : ∃ x, scanR S = x := ⟨_, rfl⟩
  rw [hsc] at hr HSC ⊢
  dsimp only at hr ⊢
  clear hsc
  have q1 : (c != 0) = true := by simpa using hr
  clear hr hE hV
  go_enter_defers Tryz.func8, Tryz.ntmps8
  go_upto_region 1 with (fail)
  generalize ((w.alloc (.cells #[.slice none 0 0] 24)).alloc (.cells #[.int .i64 0] 3)).alloc (.cells #[.int .i64 0] 25) = W0 at HB0 ⊢
  go_wp2_with (go_at_call 16; (with_reducible refine (HSC.out _ HB0.out.bel).mono ?_); go_must (rintro e w1 ⟨v, rfl, ho, hb⟩; obtain ⟨A, k, rfl⟩ := own_form ho; dsimp only; have HB1 := Lib.hid (HB0.out.after hb); obtain ⟨-, x1, x2⟩ := HB1.out.cells; obtain ⟨f0, f1, f2⟩ := HB1.out.frees; have HB3 := Lib.hid ((HB1.out.set1 (n : Int)).set2 c); clear ho hb))
  generalize (w1.setCell ⟨w.heap.size + 1, 0, none⟩ (.int .i64 (n : Int))).setCell ⟨w.heap.size + 1 + 1, 0, none⟩ (.int .i64 c) = W1 at HB3 ⊢
  clear x1 x2 f0 f1 f2
  have HBd := Lib.hid (HB3.out.after (drew1_below W1))
  refine wp_region_held_drew (S := fun Y => ∃ v, PB w v (n : Int) c Y) (by kernel_rfl) ⟨_, HBd.out⟩ (fun hHeld => ?q0)
  case q0 =>
    show wpAnyH _ _ _ _ _ 6 (Array.replicate 6 false) _ W1.drew
    generalize W1.drew = W2 at HBd hHeld ⊢
    refine wpAnyH_take (i := 0) (v := .agg #[.slice none 0 0]) rfl (by kernel_rfl) (by kernel_rfl) (by kernel_rfl) (fun c a w h => hQE (t := 16) (by decide) c a _ w h) (Or.inl ⟨by rfl, ?y0⟩) (by assumption) ?q1
    case y0 => (intro w5 hSw; go_simp <;> with_reducible rfl)
    case q1 =>
      (try simp only [Act.put]); (try simp only [List.setIfInBounds_toArray])
      refine wpAnyH_take (i := 1) (v := .int .i64 (n : Int)) rfl (by kernel_rfl) (by kernel_rfl) (by kernel_rfl) (fun c a w h => hQE (t := 17) (by decide) c a _ w h) (Or.inl ⟨by rfl, ?y1⟩) (by assumption) ?q2
      case y1 => (intro w5 hSw; obtain ⟨v5, hp5⟩ := hSw; obtain ⟨e0, e1, e2⟩ := hp5.cells; go_simp <;> with_reducible rfl)
      case q2 =>
        (try simp only [Act.put]); (try simp only [List.setIfInBounds_toArray])
        refine wpAnyH_take (i := 2) (v := .int .i64 c) rfl (by kernel_rfl) (by kernel_rfl) (by kernel_rfl) (fun c a w h => hQE (t := 18) (by decide) c a _ w h) (Or.inl ⟨by rfl, ?y2⟩) (by assumption) ?q3
        case y2 => (intro w5 hSw; obtain ⟨v5, hp5⟩ := hSw; obtain ⟨e0, e1, e2⟩ := hp5.cells; go_simp <;> with_reducible rfl)
        case q3 =>
          (try simp only [Act.put]); (try simp only [List.setIfInBounds_toArray])
          refine wpAnyH_ready (rs := [3]) (by kernel_rfl) (by simp) ?_
          refine AllReadyH.cons rfl (fun K hK => ?s3) ?m3
          case m3 => exact AllReadyH.nil
          case s3 =>
            obtain ⟨x0, x1, x2⟩ := HBd.out.cells
            obtain ⟨f0, f1, f2⟩ := HBd.out.frees
            have HB5 := Lib.hid (HBd.out.set0 (.slice none 0 0))
            go_simp
            refine hK.out _ _ ⟨_, HB5.out⟩ (fun hHeld2 => ?q4)
            case q4 =>
              clear hK K x0 x1 x2 f0 f1 f2 hHeld
              (try simp only [Act.put]); (try simp only [List.setIfInBounds_toArray])
              generalize W2.setCell ⟨w.heap.size, 0, none⟩ (.slice none 0 0) = W3 at HB5 hHeld2 ⊢
              refine wpAnyH_ready (rs := [4]) (by kernel_rfl) (by simp) ?_
              refine AllReadyH.cons rfl (fun K hK => ?s4) ?m4
              case m4 => exact AllReadyH.nil
              case s4 =>
                obtain ⟨x0, x1, x2⟩ := HB5.out.cells
                obtain ⟨f0, f1, f2⟩ := HB5.out.frees
                have HB6 := Lib.hid (HB5.out.set1 (n : Int))
                go_simp
                refine hK.out _ _ ⟨_, HB6.out⟩ (fun hHeld3 => ?q5)
                case q5 =>
                  clear hK K x0 x1 x2 f0 f1 f2 hHeld2
                  (try simp only [Act.put]); (try simp only [List.setIfInBounds_toArray])
                  generalize W3.setCell ⟨w.heap.size + 1, 0, none⟩ (.int .i64 (n : Int)) = W4 at HB6 hHeld3 ⊢
                  refine wpAnyH_ready (rs := [5]) (by kernel_rfl) (by simp) ?_
                  refine AllReadyH.cons rfl (fun K hK => ?s5) ?m5
                  case m5 => exact AllReadyH.nil
                  case s5 =>
                    obtain ⟨x0, x1, x2⟩ := HB6.out.cells
                    obtain ⟨f0, f1, f2⟩ := HB6.out.frees
                    have HB7 := Lib.hid (HB6.out.set2 c)
                    go_simp
                    refine hK.out _ _ ⟨_, HB7.out⟩ (fun hHeld4 => ?q6)
                    case q6 =>
                      clear hK K x0 x1 x2 f0 f1 f2 hHeld3 hHeld4
                      (try simp only [Act.put]); (try simp only [List.setIfInBounds_toArray])
                      generalize W4.setCell ⟨w.heap.size + 1 + 1, 0, none⟩ (.int .i64 c) = W5 at HB7 ⊢
                      refine wpAnyH_done (by kernel_rfl) ?_ _
                      obtain ⟨x0, x1, x2⟩ := HB7.out.cells
                      go_wp2_with fail
                      exact ⟨.tuple #[.agg #[.slice none 0 0], .int .i64 (n : Int), .int .i64 c], by simp [results, Tryz.results8, go_sem, x0, x1, x2], none, 0, [], rfl, rfl, GL.start _ _ _ _ _ _, HB7.out.bel⟩
end Go.Proofs.YtckfcpiedainfaaGreatDoor

/-
  WALKS: slices.DeleteFunc of nodes, by the closure of the program's Remove.
  WALKS: slices.DeleteFunc of nodes, by the closure of the program's Remove: its loop, and what it clears.
  WALKS: a node is removed: the program's.
-/
import Derived.Test.YtbkmdlfenbfdlaaGreatZC21
import Derived.Sort.OwnSortedInts
namespace Go.Proofs.YtbkmdlfenbfdlaaGreat
open Go Go.RowKit Go.Sort
set_option linter.unusedVariables false
attribute [local go_sem ↓] Go.wp_at_zero Go.wp_at_succ
set_option maxRecDepth 20000 in
set_option maxHeartbeats 1600000 in
/-- the closure: is the node's number among those that go? -/
theorem remove1_any (w : World) (gg lo hi : Nat) (A : Option Addr) (n c : Nat) (zs : List Int) (nd : Nd) (L : Leaf) (hb : w.cell? ⟨gg, 0, none⟩ = some (.slice A n c)) (hg : gg < w.heap.size) (hz : Row w lo hi 1 A n c (intCells zs)) (hh : hi ≤ w.heap.size) (hs : zs.Pairwise (· ≤ ·)) (hl : 0 < zs.length) (hl4 : zs.length ≤ 4096) :
    Calls Tryz.prog 52 #[.agg #[.int .i64 nd.id, .string nd.con, .int .i64 nd.par, .string nd.role, .slice L.p.A L.p.n L.p.c, .slice L.k.A L.k.n L.k.c, .slice L.r.A L.r.n L.r.c], .pointer (some ⟨gg, 0, none⟩)] w (Ret w (.bool (zs.contains nd.id))) := by
  have hzn : n = zs.length := by have := hz.1; rw [intCells_length] at this; omega
  obtain ⟨b, o, rfl, _, hbh, hzc⟩ := hz.at_ (by omega)
  have HBS : Hid (∀ X, Below w.heap.size w X → Calls Tryz.prog 53 #[.slice (some ⟨b, o, none⟩) n c, .int .i64 nd.id] X fun e w' => (∃ k : Nat, e = .returned (.tuple #[.int .i64 k, .bool (zs.contains nd.id)])) ∧ ∃ q, w' = X.drewN q) := Lib.hid fun X hX => by
    have h1 := Tryz.slices_BinarySearch_int b o n c zs nd.id X (by omega) (by omega) (fun j hj => by
      rw [hX.cell (p := ⟨b, o + j, none⟩) (Nat.lt_of_lt_of_le hbh hh)]
      exact hzc j _ (intCells_get (by rw [List.getD_eq_getElem?_getD, List.getElem?_eq_getElem hj]; rfl))) (by rw [List.take_of_length_le (by omega)]; exact hs)
    rw [List.take_of_length_le (by omega)] at h1
    exact h1.mono fun e w' h2 => ⟨⟨_, h2.1⟩, h2.2⟩
  obtain ⟨ans, hans⟩ : ∃ a, zs.contains nd.id = a := ⟨_, rfl⟩
  rw [hans] at HBS ⊢
  clear hzc hs hans hz hzn hl hl4
  go_enter Tryz.func52, Tryz.ntmps52
  go_upto_region 1 with (fail)
  have HX := Lib.hid (below_more (Below.refl w.heap.size w) (.cells #[.int .i64 nd.id, .string nd.con, .int .i64 nd.par, .string nd.role, .slice L.p.A L.p.n L.p.c, .slice L.k.A L.k.n L.k.c, .slice L.r.A L.r.n L.r.c] 41))
  have HNb := Lib.hid (Blk.new w 41 #[.int .i64 nd.id, .string nd.con, .int .i64 nd.par, .string nd.role, .slice L.p.A L.p.n L.p.c, .slice L.k.A L.k.n L.k.c, .slice L.r.A L.r.n L.r.c])
  generalize w.alloc (.cells #[.int .i64 nd.id, .string nd.con, .int .i64 nd.par, .string nd.role, .slice L.p.A L.p.n L.p.c, .slice L.k.A L.k.n L.k.c, .slice L.r.A L.r.n L.r.c] 41) = X1 at HX HNb ⊢
  have c0 := HNb.out.cell 0
  simp at c0
  have c1 := (HX.out.cell (p := ⟨gg, 0, none⟩) hg).trans hb
  clear hb
  go_wp2_with (go_at_call 53; (with_reducible refine (HBS.out _ HX.out).mono ?_); go_must (rintro e w2 ⟨⟨k, rfl⟩, q, rfl⟩))
  go_ret
  exact ⟨rfl, below_drewN HX.out q⟩
section
variable {w X X' : World} {B g n c : Nat} {l : List (Nd × Leaf)}
/-- the numbers that go rise, and are some -/
def RemC (w : World) (g gg : Nat) (zs : List Int) : Prop := ∀ X, w.grownBy X (some g) → ∀ (nd : Nd) (L : Leaf), Calls Tryz.prog 52 #[.agg #[.int .i64 nd.id, .string nd.con, .int .i64 nd.par, .string nd.role, .slice L.p.A L.p.n L.p.c, .slice L.k.A L.k.n L.k.c, .slice L.r.A L.r.n L.r.c], .pointer (some ⟨gg, 0, none⟩)] X (Ret X (.bool (zs.contains nd.id)))
theorem RemC.yes {gg : Nat} {zs : List Int} (h : RemC w g gg zs) (hg : w.grownBy X (some g)) {nd : Nd} {b : Bool} (hb : zs.contains nd.id = b) (L : Leaf) :
    Calls Tryz.prog 52 #[.agg #[.int .i64 nd.id, .string nd.con, .int .i64 nd.par, .string nd.role, .slice L.p.A L.p.n L.p.c, .slice L.k.A L.k.n L.k.c, .slice L.r.A L.r.n L.r.c], .pointer (some ⟨gg, 0, none⟩)] X (Ret X (.bool b)) := by
  subst hb
  exact h X hg nd L
end
set_option maxRecDepth 20000 in
set_option maxHeartbeats 1600000 in
theorem indexGone_any (w : World) (B g n c gg k : Nat) (l : List (Nd × Leaf)) (zs : List Int) (h : OwnM w B (.slice (some ⟨g, 0, none⟩) n c) l) (hn : l.length = n) (hn4 : n ≤ 4096) (hC : RemC w g gg zs) (hk : k < n)
    (hfirst : ∀ j q, j < k → l[j]? = some q → zs.contains q.1.id = false) (hat : ∀ q, l[k]? = some q → zs.contains q.1.id = true) :
    Calls Tryz.prog 87 #[.slice (some ⟨g, 0, none⟩) n c, .func (.func 52) #[] #[.pointer (some ⟨gg, 0, none⟩)]] w (Ret w (.int .i64 k)) := by
  have HW := Lib.hid h
  have HLN := Lib.hid hn
  have HC := Lib.hid hC
  have HF := Lib.hid hfirst
  have HA := Lib.hid hat
  have hnc : n ≤ c := (h.nodesIn hn).2.1
  have hcm := (h.nodesIn hn).2.2.1
  unfold maxLen at hcm
  clear h hn hC hfirst hat
  go_enter Tryz.func87, Tryz.ntmps87
  go_wp2_with fail
  go_loopw [8] (fun v8 wr => ∃ i : Nat, i ≤ k ∧ v8 = .int .i64 i ∧ Below w.heap.size w wr) (fun v _ => n - (intOf v).toNat)
  case atStart => exact ⟨0, Nat.zero_le _, rfl, Below.refl _ _⟩
  case round =>
    obtain ⟨i, hi, rfl, hB⟩ := hrel
    rename World => wr
    have HB := Lib.hid hB
    have HG : Hid (w.grownBy wr (some g)) := Lib.hid ⟨hB.os, hB.tape, hB.output, hB.size, fun j hj _ => hB.block j hj⟩
    clear hB
    have hlt : i < n := by omega
    obtain ⟨q, hq⟩ : ∃ q, l[i]? = some q := ⟨l[i]'(by have := HLN.out; omega), List.getElem?_eq_getElem _⟩
    obtain ⟨nd, L⟩ := q
    have HWr := HW.out.after HB.out
    have d0 := (HWr.cellT HLN.out hq (j := 0) (by omega) rfl).1
    have d1 := (HWr.cellT HLN.out hq (j := 1) (by omega) rfl).1
    have d2 := (HWr.cellT HLN.out hq (j := 2) (by omega) rfl).1
    have d3 := (HWr.cellT HLN.out hq (j := 3) (by omega) rfl).1
    have d4 := (HWr.cellT HLN.out hq (j := 4) (by omega) rfl).1
    have d5 := (HWr.cellT HLN.out hq (j := 5) (by omega) rfl).1
    have d6 := (HWr.cellT HLN.out hq (j := 6) (by omega) rfl).1
    simp only [Nat.add_zero] at d0
    have HQ := Lib.hid hq
    clear HWr hq
    by_cases hik : i = k
    · subst hik
      have HCq := Lib.hid (HC.out.yes HG.out (HA.out _ HQ.out) L)
      go_wp2_with (go_at_call 52; (with_reducible refine HCq.out.mono ?_); go_must (rintro e w2 ⟨rfl, hb2⟩))
      go_ret
      exact ⟨rfl, HB.out.trans (hb2.mono HB.out.size)⟩
    · have HCq := Lib.hid (HC.out.yes HG.out (HF.out i _ (by omega) HQ.out) L)
      go_wp2_with (go_at_call 52; (with_reducible refine HCq.out.mono ?_); go_must (rintro e w2 ⟨rfl, hb2⟩; have HB2 := Lib.hid (HB.out.trans (hb2.mono HB.out.size)); clear hb2))
      go_roundw
      case rel => exact ⟨i + 1, by omega, by simp, HB2.out⟩
      case measure => simp [intOf]; omega
end Go.Proofs.YtbkmdlfenbfdlaaGreat
namespace Go.Proofs.YtbkmdlfenbfdlaaGreat
open Go Go.RowKit Go.Sort
set_option linter.unusedVariables false
attribute [local go_sem ↓] Go.wp_at_zero Go.wp_at_succ
theorem zero_mem {z : Array Value} {m : Nat} {v : Value} (hz : 0 < z.size) (h : v ∈ (Builtin.zeroCells z m).toList) : v ∈ z.toList := by
  unfold Builtin.zeroCells at h
  simp only [Array.toList_map, List.mem_map] at h
  obtain ⟨i, _, rfl⟩ := h
  rw [getElem!_pos z _ (Nat.mod_lt _ hz)]
  exact Array.getElem_mem_toList _
/-- clear of some elements -/
theorem run_clear_m {P : Program} (w : World) (t ty e : TypeId) (i : TypeInfo) (z : Value) (ht : P.underlying t = some (.slice e)) (hi : P.info? e = some i) (hz : i.zero = some z) (size : Nat) (hs : z.cells.size = size) (hs0 : 0 < size) (h1 : ∀ x ∈ z.cells.toList, x.oneCell' = true)
    (g o m c : Nat) (hm : 0 < m) (cur : Array Value) (hg : w.heap[g]? = some (.cells cur e (0, 0))) (hfit : o + m * size ≤ cur.size) :
    (Builtin.clear_ #[t] ty #[.slice (some ⟨g, o, none⟩) m c]).run P w = .ok (.tuple #[]) (w.setRow g (cur.toList.take o ++ (Builtin.zeroCells z.cells m).toList ++ cur.toList.drop (o + m * size)).toArray) := by
  subst hs
  have hl : (Builtin.zeroCells z.cells m).toList.length = m * z.cells.size := by rw [Array.length_toList, size_zeroCells]
  have hst := run_storeCells_at P g o e (Builtin.zeroCells z.cells m).toList 0 cur w hg (by rw [hl]; simpa using hfit) (fun v hv => h1 v (zero_mem hs0 hv))
  rw [hl] at hst
  simp only [Nat.add_zero] at hst
  obtain ⟨m, rfl⟩ : ∃ j, m = j + 1 := ⟨m - 1, by omega⟩
  simp [Builtin.clear_, run_underlying ht, zeroValue, typeInfo, hi, hz, hst, -List.append_assoc]
/-- what is left of a row behind a clear -/
theorem own_clear {w : World} {B g n c i size : Nat} {e : TypeId} {xs vs : List Value} {cur : Array Value} (h : w.ownsRow B e size (.slice (some ⟨g, 0, none⟩) n c) n xs) (hin : i ≤ n) (hg : w.heap[g]? = some (.cells cur e (0, 0))) (hv : vs.length = (n - i) * size) :
    (w.setRow g (cur.toList.take (i * size) ++ vs ++ cur.toList.drop (i * size + (n - i) * size)).toArray).ownsRow B e size (.slice (some ⟨g, 0, none⟩) i c) i (xs.take (i * size)) ∧ w.grownBy (w.setRow g (cur.toList.take (i * size) ++ vs ++ cur.toList.drop (i * size + (n - i) * size)).toArray) (some g) := by
  rcases h.2 with ⟨h', _⟩ | ⟨g', cap', cur', h', hb, hg', hnc, hcm, hcs, htake⟩
  · simp at h'
  · simp only [Value.slice.injEq, Option.some.injEq, Addr.mk.injEq, and_true, true_and] at h'
    obtain ⟨rfl, rfl⟩ := h'
    rw [hg] at hg'
    injection hg' with hg'
    injection hg' with hg'
    subst hg'
    have hle : i * size ≤ n * size := Nat.mul_le_mul_right _ hin
    have hsub : (n - i) * size = n * size - i * size := Nat.sub_mul _ _ _
    have hcl : n * size ≤ c * size := Nat.mul_le_mul_right _ hnc
    have hil : (cur.toList.take (i * size)).length = i * size := by rw [List.length_take, Array.length_toList, hcs]; omega
    refine ⟨⟨by rw [List.length_take, h.1]; omega, .inr ⟨g, c, _, rfl, hb, setRow_heap _ _ _ _ _ _ hg, by omega, hcm, ?_, ?_⟩⟩, ?_⟩
    · rw [List.size_toArray, List.length_append, List.length_append, hil, hv, List.length_drop, Array.length_toList, hcs]; omega
    · rw [← htake, List.take_take, Nat.min_eq_left hle, List.append_assoc, List.take_left' hil]
    · refine ⟨rfl, rfl, rfl, by simp [World.setRow], fun k hk hne => setRow_other _ _ _ _ (fun e => hne (by rw [e]))⟩
section
variable {w X : World} {B g n c i j : Nat} {l : List (Nd × Leaf)} {p q : Nd × Leaf}
/-- a node is laid over another one -/
theorem OwnM.put7 (h : OwnM w B (.slice (some ⟨g, 0, none⟩) n c) l) (hn : l.length = n) (hp : l[i]? = some p) (hq : OwnLeaf w B q.1 q.2) :
    OwnM (((((((w.setCell ⟨g, i * 7, none⟩ (.int .i64 q.1.id)).setCell ⟨g, i * 7 + 1, none⟩ (.string q.1.con)).setCell ⟨g, i * 7 + 2, none⟩ (.int .i64 q.1.par)).setCell ⟨g, i * 7 + 3, none⟩ (.string q.1.role)).setCell ⟨g, i * 7 + 4, none⟩ (.slice q.2.p.A q.2.p.n q.2.p.c)).setCell ⟨g, i * 7 + 5, none⟩ (.slice q.2.k.A q.2.k.n q.2.k.c)).setCell ⟨g, i * 7 + 6, none⟩ (.slice q.2.r.A q.2.r.n q.2.r.c)) B (.slice (some ⟨g, 0, none⟩) n c) (l.set i q) ∧
    w.grownBy (((((((w.setCell ⟨g, i * 7, none⟩ (.int .i64 q.1.id)).setCell ⟨g, i * 7 + 1, none⟩ (.string q.1.con)).setCell ⟨g, i * 7 + 2, none⟩ (.int .i64 q.1.par)).setCell ⟨g, i * 7 + 3, none⟩ (.string q.1.role)).setCell ⟨g, i * 7 + 4, none⟩ (.slice q.2.p.A q.2.p.n q.2.p.c)).setCell ⟨g, i * 7 + 5, none⟩ (.slice q.2.k.A q.2.k.n q.2.k.c)).setCell ⟨g, i * 7 + 6, none⟩ (.slice q.2.r.A q.2.r.n q.2.r.c)) (some g) := by
  subst hn
  have h1 : w.ownsRow B 41 7 (.slice (some ⟨g, 0, none⟩) l.length c) l.length (allCells l) := h.own
  have hil := (List.getElem?_eq_some_iff.1 hp).1
  have hall : ∀ x ∈ l.set i q, OwnLeaf w B x.1 x.2 := fun x hx => by
    rcases List.mem_or_eq_of_mem_set hx with hx | rfl
    · exact h.leaf x hx
    · exact hq
  have key : ∀ (X : World) (j : Nat) (u : Value) (xs : List Value), X.ownsRow B 41 7 (.slice (some ⟨g, 0, none⟩) l.length c) l.length xs ∧ w.grownBy X (some g) ∧ (∀ x ∈ l.set i q, OwnLeaf X B x.1 x.2) →
      (X.setCell ⟨g, j, none⟩ u).ownsRow B 41 7 (.slice (some ⟨g, 0, none⟩) l.length c) l.length (xs.set j u) ∧ w.grownBy (X.setCell ⟨g, j, none⟩ u) (some g) ∧ (∀ x ∈ l.set i q, OwnLeaf (X.setCell ⟨g, j, none⟩ u) B x.1 x.2) := fun X j u xs ⟨a, b, d⟩ => by
    obtain ⟨cs, hg, _, _⟩ := own_blk a
    exact ⟨(World.ownsRow.stored a j u).1, b.trans (World.ownsRow.stored a j u).2, fun x hx => (d x hx).other hg (by decide) (by decide) (by decide) _ u⟩
  have h7 := key _ (i * 7 + 6) (.slice q.2.r.A q.2.r.n q.2.r.c) _ (key _ (i * 7 + 5) (.slice q.2.k.A q.2.k.n q.2.k.c) _ (key _ (i * 7 + 4) (.slice q.2.p.A q.2.p.n q.2.p.c) _ (key _ (i * 7 + 3) (.string q.1.role) _ (key _ (i * 7 + 2) (.int .i64 q.1.par) _ (key _ (i * 7 + 1) (.string q.1.con) _ (key _ (i * 7) (.int .i64 q.1.id) _ ⟨h1, ⟨rfl, rfl, rfl, Nat.le_refl _, fun _ _ _ => rfl⟩, hall⟩))))))
  have e7 : ((((((((allCells l).set (i * 7) (.int .i64 q.1.id)).set (i * 7 + 1) (.string q.1.con)).set (i * 7 + 2) (.int .i64 q.1.par)).set (i * 7 + 3) (.string q.1.role)).set (i * 7 + 4) (.slice q.2.p.A q.2.p.n q.2.p.c)).set (i * 7 + 5) (.slice q.2.k.A q.2.k.n q.2.k.c)).set (i * 7 + 6) (.slice q.2.r.A q.2.r.n q.2.r.c)) = allCells (l.set i q) := by
    have g1 : ∀ x, (l.set i x)[i]? = some x := fun x => List.getElem?_set_self hil
    have s0 := allCells_set (l := l) (i := i) (j := 0) (u := (.int .i64 q.1.id)) (q := ({ p.1 with id := q.1.id }, p.2)) hp (by omega) rfl
    simp only [Nat.add_zero] at s0
    have s1 := allCells_set (l := l.set i ({ p.1 with id := q.1.id }, p.2)) (i := i) (j := 1) (u := (.string q.1.con)) (q := ({ p.1 with id := q.1.id, con := q.1.con }, p.2)) (g1 _) (by omega) rfl
    rw [List.set_set] at s1
    have s2 := allCells_set (l := l.set i ({ p.1 with id := q.1.id, con := q.1.con }, p.2)) (i := i) (j := 2) (u := (.int .i64 q.1.par)) (q := ({ p.1 with id := q.1.id, con := q.1.con, par := q.1.par }, p.2)) (g1 _) (by omega) rfl
    rw [List.set_set] at s2
    have s3 := allCells_set (l := l.set i ({ p.1 with id := q.1.id, con := q.1.con, par := q.1.par }, p.2)) (i := i) (j := 3) (u := (.string q.1.role)) (q := ({ p.1 with id := q.1.id, con := q.1.con, par := q.1.par, role := q.1.role }, p.2)) (g1 _) (by omega) rfl
    rw [List.set_set] at s3
    have s4 := allCells_set (l := l.set i ({ p.1 with id := q.1.id, con := q.1.con, par := q.1.par, role := q.1.role }, p.2)) (i := i) (j := 4) (u := (.slice q.2.p.A q.2.p.n q.2.p.c)) (q := ({ p.1 with id := q.1.id, con := q.1.con, par := q.1.par, role := q.1.role }, ⟨q.2.p, p.2.k, p.2.r⟩)) (g1 _) (by omega) rfl
    rw [List.set_set] at s4
    have s5 := allCells_set (l := l.set i ({ p.1 with id := q.1.id, con := q.1.con, par := q.1.par, role := q.1.role }, ⟨q.2.p, p.2.k, p.2.r⟩)) (i := i) (j := 5) (u := (.slice q.2.k.A q.2.k.n q.2.k.c)) (q := ({ p.1 with id := q.1.id, con := q.1.con, par := q.1.par, role := q.1.role }, ⟨q.2.p, q.2.k, p.2.r⟩)) (g1 _) (by omega) rfl
    rw [List.set_set] at s5
    have s6 := allCells_set (l := l.set i ({ p.1 with id := q.1.id, con := q.1.con, par := q.1.par, role := q.1.role }, ⟨q.2.p, q.2.k, p.2.r⟩)) (i := i) (j := 6) (u := (.slice q.2.r.A q.2.r.n q.2.r.c)) (q := q) (g1 _) (by omega) rfl
    rw [List.set_set] at s6
    rw [s0, s1, s2, s3, s4, s5, s6]
  rw [e7] at h7
  exact ⟨⟨by unfold OwnN; rw [List.length_set]; exact h7.1, h7.2.2⟩, h7.2.1⟩
/-- the list while it is moved down -/
theorem slide_len (F : List (Nd × Leaf)) (hF : F.length ≤ l.length) : (F ++ l.drop F.length).length = l.length := by rw [List.length_append, List.length_drop]; omega
theorem slide_get (F : List (Nd × Leaf)) (hj : F.length ≤ j) (hq : l[j]? = some q) : (F ++ l.drop F.length)[j]? = some q := by
  rw [List.getElem?_append_right hj, List.getElem?_drop, show F.length + (j - F.length) = j from by omega]; exact hq
theorem slide_set (F : List (Nd × Leaf)) (hF : F.length < l.length) : (F ++ l.drop F.length).set F.length q = (F ++ [q]) ++ l.drop (F ++ [q]).length := by
  rw [List.set_append_right _ _ (Nat.le_refl _), Nat.sub_self, List.drop_eq_getElem_cons hF, List.set_cons_zero, List.length_append, List.length_singleton, List.append_assoc]
  rfl
end
/-- the state in DeleteFunc's loop -/
structure DF (w : World) (B g n c : Nat) (l F : List (Nd × Leaf)) (X : World) : Prop where
  own : OwnM X B (.slice (some ⟨g, 0, none⟩) n c) (F ++ l.drop F.length)
  gr : w.grownBy X (some g)
section
variable {w X X' : World} {B g n c : Nat} {l F : List (Nd × Leaf)}
theorem DF.after (h : DF w B g n c l F X) (hb : Below X.heap.size X X') : DF w B g n c l F X' := ⟨h.own.after hb, grown_below h.gr hb⟩
end
set_option maxRecDepth 20000 in
set_option maxHeartbeats 3200000 in
theorem deleteGone_any (w : World) (B g n c gg k : Nat) (l : List (Nd × Leaf)) (zs : List Int) (h : OwnM w B (.slice (some ⟨g, 0, none⟩) n c) l) (hn : l.length = n) (hn4 : n ≤ 4096) (hC : RemC w g gg zs) (hk : k < n)
    (hfirst : ∀ j q, j < k → l[j]? = some q → zs.contains q.1.id = false) (hat : ∀ q, l[k]? = some q → zs.contains q.1.id = true) :
    Calls Tryz.prog 51 #[.slice (some ⟨g, 0, none⟩) n c, .func (.func 52) #[] #[.pointer (some ⟨gg, 0, none⟩)]] w fun e w' => e = .returned (.slice (some ⟨g, 0, none⟩) (leftP zs l).length c) ∧ OwnM w' B (.slice (some ⟨g, 0, none⟩) (leftP zs l).length c) (leftP zs l) ∧ w.grownBy w' (some g) := by
  have HIX := Lib.hid (indexGone_any w B g n c gg k l zs h hn hn4 hC hk hfirst hat)
  have hnc : n ≤ c := (h.nodesIn hn).2.1
  have hcm := (h.nodesIn hn).2.2.1
  unfold maxLen at hcm
  have hFk : leftP zs (l.take k) = l.take k := by
    unfold leftP
    rw [List.filter_eq_self]
    intro q hq
    obtain ⟨j, hj⟩ := List.getElem?_of_mem hq
    have hjk : j < k := by have := (List.getElem?_eq_some_iff.1 hj).1; rw [List.length_take] at this; omega
    rw [List.getElem?_take_of_lt hjk] at hj
    rw [hfirst j q hjk hj]; rfl
  have hFk1 : leftP zs (l.take (k + 1)) = l.take k := by
    obtain ⟨q, hq⟩ : ∃ q, l[k]? = some q := ⟨l[k]'(by omega), List.getElem?_eq_getElem _⟩
    rw [leftP_succ _ _ hq, hat q hq, if_pos rfl, List.append_nil, hFk]
  have hS : DF w B g n c l (leftP zs (l.take (k + 1))) w := ⟨by
    rw [hFk1, List.length_take, Nat.min_eq_left (by omega), List.take_append_drop]; exact h, ⟨rfl, rfl, rfl, Nat.le_refl _, fun _ _ _ => rfl⟩⟩
  have hSl : (leftP zs (l.take (k + 1))).length = k := by rw [hFk1, List.length_take, Nat.min_eq_left (by omega)]
  have HS := Lib.hid hS
  have HSl := Lib.hid hSl
  have HLN := Lib.hid hn
  have HC := Lib.hid hC
  have hk1 : ((k : Int) == -1) = false := by rw [beq_eq_false_iff_ne]; omega
  clear h hn hC hfirst hat hFk hFk1 hS hSl
  go_enter Tryz.func51, Tryz.ntmps51
  go_wp2_with (go_at_call 87; (with_reducible refine HIX.out.mono ?_); go_must (rintro e w1 ⟨rfl, hb1⟩; have HS1 := Lib.hid (HS.out.after hb1); clear hb1))
  go_loopw [5, 6] (fun v5 v6 wr => ∃ (j i : Nat) (F : List (Nd × Leaf)), j ≤ n ∧ i < j ∧ v5 = .int .i64 i ∧ v6 = .int .i64 j ∧ Hid (F = leftP zs (l.take j)) ∧ Hid (F.length = i) ∧ DF w B g n c l F wr) (fun _ v _ => n - (intOf v).toNat)
  case atStart => exact ⟨k + 1, k, _, by omega, by omega, rfl, by simp, Lib.hid rfl, HSl, HS1.out⟩
  case round =>
    clear HS1 HS HSl
    obtain ⟨j, i, F, hj, hij, rfl, rfl, HF, HFl, hD⟩ := hrel
    rename World => wr
    have HD := Lib.hid hD
    clear hD
    have HSL : Hid ((F ++ l.drop F.length).length = n) := Lib.hid (by rw [slide_len F (by have := HLN.out; have := HFl.out; omega)]; exact HLN.out)
    by_cases hlt : j < n
    · obtain ⟨q, hq⟩ : ∃ q, l[j]? = some q := ⟨l[j]'(by have := HLN.out; omega), List.getElem?_eq_getElem _⟩
      have HSU : Hid (leftP zs (l.take (j + 1)) = F ++ if zs.contains q.1.id = true then [] else [q]) := Lib.hid (by rw [leftP_succ _ _ hq, HF.out])
      have HM := Lib.hid (List.mem_of_getElem? hq)
      have hqj : (F ++ l.drop F.length)[j]? = some q := slide_get F (by have := HFl.out; omega) hq
      have hql : OwnLeaf wr B q.1 q.2 := HD.out.own.leaf q (List.mem_of_getElem? hqj)
      obtain ⟨nd, L⟩ := q
      have d0 := (HD.out.own.cellT HSL.out hqj (j := 0) (by omega) rfl).1
      have d1 := (HD.out.own.cellT HSL.out hqj (j := 1) (by omega) rfl).1
      have d2 := (HD.out.own.cellT HSL.out hqj (j := 2) (by omega) rfl).1
      have d3 := (HD.out.own.cellT HSL.out hqj (j := 3) (by omega) rfl).1
      have d4 := (HD.out.own.cellT HSL.out hqj (j := 4) (by omega) rfl).1
      have d5 := (HD.out.own.cellT HSL.out hqj (j := 5) (by omega) rfl).1
      have d6 := (HD.out.own.cellT HSL.out hqj (j := 6) (by omega) rfl).1
      simp only [Nat.add_zero] at d0
      have HQL := Lib.hid hql
      clear hq hqj hql
      go_upto_region 8 with (fail)
      have hbx := below_more (Below.refl wr.heap.size wr) (.cells #[.int .i64 nd.id, .string nd.con, .int .i64 nd.par, .string nd.role, .slice L.p.A L.p.n L.p.c, .slice L.k.A L.k.n L.k.c, .slice L.r.A L.r.n L.r.c] 41)
      have HD7 := Lib.hid (HD.out.after hbx)
      have HQ7 := Lib.hid (HQL.out.after hbx)
      have HN7 := Lib.hid (Blk.new wr 41 #[.int .i64 nd.id, .string nd.con, .int .i64 nd.par, .string nd.role, .slice L.p.A L.p.n L.p.c, .slice L.k.A L.k.n L.k.c, .slice L.r.A L.r.n L.r.c])
      clear hbx d0 d1 d2 d3 d4 d5 d6
      generalize wr.alloc (.cells #[.int .i64 nd.id, .string nd.con, .int .i64 nd.par, .string nd.role, .slice L.p.A L.p.n L.p.c, .slice L.k.A L.k.n L.k.c, .slice L.r.A L.r.n L.r.c] 41) = X7 at HD7 HQ7 HN7 ⊢
      generalize wr.heap.size = g7 at HN7 ⊢
      cases hcn : zs.contains nd.id with
      | true =>
        have HCq := Lib.hid (HC.out.yes HD7.out.gr hcn L)
        have HSU2 : Hid (leftP zs (l.take (j + 1)) = F) := Lib.hid (by rw [HSU.out, hcn, if_pos rfl, List.append_nil])
        clear hcn
        have c0 := HN7.out.cell 0
        have c1 := HN7.out.cell 1
        have c2 := HN7.out.cell 2
        have c3 := HN7.out.cell 3
        have c4 := HN7.out.cell 4
        have c5 := HN7.out.cell 5
        have c6 := HN7.out.cell 6
        simp at c0 c1 c2 c3 c4 c5 c6
        go_wp2_with (go_at_call 52; (with_reducible refine HCq.out.mono ?_); go_must (rintro e w8 ⟨rfl, hb8⟩; have HD8 := Lib.hid (HD7.out.after hb8); clear hb8))
        go_roundw
        case rel => exact ⟨j + 1, i, F, by omega, by omega, rfl, by simp, Lib.hid HSU2.out.symm, HFl, HD8.out⟩
        case measure => simp [intOf]; omega
      | false =>
        have HCq := Lib.hid (HC.out.yes HD7.out.gr hcn L)
        have HSU2 : Hid (leftP zs (l.take (j + 1)) = F ++ [(nd, L)]) := Lib.hid (by rw [HSU.out, hcn, if_neg (by simp)])
        clear hcn
        have c0 := HN7.out.cell 0
        have c1 := HN7.out.cell 1
        have c2 := HN7.out.cell 2
        have c3 := HN7.out.cell 3
        have c4 := HN7.out.cell 4
        have c5 := HN7.out.cell 5
        have c6 := HN7.out.cell 6
        simp at c0 c1 c2 c3 c4 c5 c6
        go_upto_region 9 with (go_at_call 52; (with_reducible refine HCq.out.mono ?_); go_must (rintro e w8 ⟨rfl, hb8⟩; have HD8 := Lib.hid (HD7.out.after hb8); have HQ8 := Lib.hid (HQ7.out.after hb8); have HN8 := Lib.hid (HN7.out.after hb8); clear hb8))
        clear c0 c1 c2 c3 c4 c5 c6
        have c0 := HN8.out.cell 0
        have c1 := HN8.out.cell 1
        have c2 := HN8.out.cell 2
        have c3 := HN8.out.cell 3
        have c4 := HN8.out.cell 4
        have c5 := HN8.out.cell 5
        have c6 := HN8.out.cell 6
        simp at c0 c1 c2 c3 c4 c5 c6
        have hFn : F.length < l.length := by have := HLN.out; have := HFl.out; omega
        obtain ⟨p0, hp0⟩ : ∃ p, (F ++ l.drop F.length)[i]? = some p := ⟨(F ++ l.drop F.length)[i]'(by have := HSL.out; omega), List.getElem?_eq_getElem _⟩
        have f0 := (HD8.out.own.cellT HSL.out hp0 (j := 0) (by omega) rfl)
        have f1 := (HD8.out.own.cellT HSL.out hp0 (j := 1) (by omega) rfl)
        have f2 := (HD8.out.own.cellT HSL.out hp0 (j := 2) (by omega) rfl)
        have f3 := (HD8.out.own.cellT HSL.out hp0 (j := 3) (by omega) rfl)
        have f4 := (HD8.out.own.cellT HSL.out hp0 (j := 4) (by omega) rfl)
        have f5 := (HD8.out.own.cellT HSL.out hp0 (j := 5) (by omega) rfl)
        have f6 := (HD8.out.own.cellT HSL.out hp0 (j := 6) (by omega) rfl)
        simp only [Nat.add_zero] at f0
        obtain ⟨f0, f0'⟩ := f0
        obtain ⟨f1, f1'⟩ := f1
        obtain ⟨f2, f2'⟩ := f2
        obtain ⟨f3, f3'⟩ := f3
        obtain ⟨f4, f4'⟩ := f4
        obtain ⟨f5, f5'⟩ := f5
        obtain ⟨f6, f6'⟩ := f6
        have hput := HD8.out.own.put7 (q := (nd, L)) HSL.out hp0 HQ8.out
        have hsl : (F ++ l.drop F.length).set i (nd, L) = (F ++ [(nd, L)]) ++ l.drop (F ++ [(nd, L)]).length := by
          have := slide_set (q := (nd, L)) F hFn
          rw [HFl.out] at this ⊢
          exact this
        rw [hsl] at hput
        have HP := Lib.hid hput
        have HF1 : Hid ((F ++ [(nd, L)]).length = i + 1) := Lib.hid (by rw [List.length_append, HFl.out]; rfl)
        have HF2 : Hid (F ++ [(nd, L)] = leftP zs (l.take (j + 1))) := Lib.hid HSU2.out.symm
        have hi1 : i < n := by omega
        clear hput hsl hp0 hFn
        go_wp2_with fail
        go_roundw
        case rel => exact ⟨j + 1, i + 1, F ++ [(nd, L)], by omega, by omega, by simp, by simp, HF2, HF1, HP.out.1, HD8.out.gr.trans HP.out.2⟩
        case measure => simp [intOf]; omega
    · have hjn : j = n := by omega
      subst hjn
      have HFA : Hid (F = leftP zs l) := Lib.hid (by rw [HF.out, List.take_of_length_le (by rw [HLN.out]; exact Nat.le_refl _)])
      obtain ⟨cs, hcs, hBg, hcsz⟩ := own_blk (n := j) (xs := allCells (F ++ l.drop F.length)) (by have := HD.out.own.own; unfold OwnN at this; rw [HSL.out] at this; exact this)
      obtain ⟨i0, hi0, hz0, hz1, hz2⟩ := info_parts nodeInfo
      have hrun := fun ty => run_clear_m (P := Tryz.prog) wr 24 ty 41 i0 _ Tryz.underlying24 hi0 hz0 7 (by rfl) (by omega) (by intro x hx; simp [Value.cells] at hx; rcases hx with rfl | rfl | rfl | rfl | rfl <;> simp [Value.oneCell']) g (i * 7) (j - i) (c - i) (by omega) cs hcs (by rw [hcsz]; omega)
      have hrow : wr.ownsRow B 41 7 (.slice (some ⟨g, 0, none⟩) j c) j (allCells (F ++ l.drop F.length)) := by have := HD.out.own.own; unfold OwnN at this; rw [HSL.out] at this; exact this
      have hcl := own_clear (i := i) (vs := (Builtin.zeroCells (Value.agg #[.int .i64 0, .string ByteArray.empty, .int .i64 0, .string ByteArray.empty, .slice none 0 0, .slice none 0 0, .slice none 0 0]).cells (j - i)).toList) hrow (by omega) hcs (by rw [Array.length_toList, size_zeroCells]; rfl)
      have hcel : (allCells (F ++ l.drop F.length)).take (i * 7) = allCells F := by
        unfold allCells
        rw [List.flatMap_append, List.take_left' (by have := allCells_len F; unfold allCells at this; rw [this, HFl.out])]
      rw [hcel] at hcl
      have hlf : ∀ p ∈ F, OwnLeaf wr B p.1 p.2 := fun p hp => HD.out.own.leaf p (List.mem_append_left _ hp)
      have hlf2 : ∀ p ∈ F, OwnLeaf (wr.setRow g (cs.toList.take (i * 7) ++ (Builtin.zeroCells (Value.agg #[.int .i64 0, .string ByteArray.empty, .int .i64 0, .string ByteArray.empty, .slice none 0 0, .slice none 0 0, .slice none 0 0]).cells (j - i)).toList ++ cs.toList.drop (i * 7 + (j - i) * 7)).toArray) B p.1 p.2 := fun p hp => (hlf p hp).kept hrow hcl.2
      generalize wr.setRow g (cs.toList.take (i * 7) ++ (Builtin.zeroCells (Value.agg #[.int .i64 0, .string ByteArray.empty, .int .i64 0, .string ByteArray.empty, .slice none 0 0, .slice none 0 0, .slice none 0 0]).cells (j - i)).toList ++ cs.toList.drop (i * 7 + (j - i) * 7)).toArray = w2 at hrun hcl hlf2
      have HCL := Lib.hid hcl
      have HLF := Lib.hid hlf2
      have HRW := Lib.hid hrun
      have hci : i < c := by omega
      clear hcl hlf hlf2 hcel hrow hcs hcsz hz0 hz1 hz2 hi0 hrun
      go_upto_region 11 with (fail)
      have hrun := HRW.out
      go_wp2_with (refine wpList_clear_run rfl _ _ rfl _ rfl _ _ (hrun _) ?_)
      go_ret
      rw [← HFA.out, HFl.out]
      exact ⟨rfl, ⟨by unfold OwnN; rw [HFl.out]; exact HCL.out.1, HLF.out⟩, HD.out.gr.trans HCL.out.2⟩
end Go.Proofs.YtbkmdlfenbfdlaaGreat
namespace Go.Proofs.YtbkmdlfenbfdlaaGreat
open Go Go.RowKit Go.Sort
set_option linter.unusedVariables false
attribute [local go_sem ↓] Go.wp_at_zero Go.wp_at_succ
def sortI (l : List Int) : List Int := l.mergeSort fun x y => decide (x ≤ y)
theorem sortI_len (l : List Int) : (sortI l).length = l.length := List.length_mergeSort _
theorem sortI_rises (l : List Int) : (sortI l).Pairwise (· ≤ ·) := by
  have := List.pairwise_mergeSort (le := fun (x y : Int) => decide (x ≤ y)) (fun a b c h1 h2 => by simp at *; omega) (fun a b => by simp; omega) l
  exact this.imp fun h => by simpa using h
theorem sortI_has (l : List Int) (x : Int) : (sortI l).contains x = l.contains x := by
  rw [Bool.eq_iff_iff, List.contains_iff_mem, List.contains_iff_mem]
  exact (List.mergeSort_perm l _).mem_iff
theorem leftV_congr {S S' : List Int} (h : ∀ y, S.contains y = S'.contains y) (t : List Nd) : leftV S t = leftV S' t := by
  unfold leftV
  exact List.filter_congr fun y _ => by rw [h]
/-- numbers of the call's own are sorted in their place -/
theorem sort_own (w : World) (B c : Nat) (A : Option Addr) (zs : List Int) (h : w.ownsRow B 3 1 (.slice A zs.length c) zs.length (intCells zs)) (h0 : 0 < zs.length) (h4 : zs.length ≤ 4096) :
    Calls Tryz.prog 50 #[.slice A zs.length c] w fun e w' => e = .returned (.tuple #[]) ∧ w'.ownsRow B 3 1 (.slice A zs.length c) zs.length (intCells (sortI zs)) ∧ w.grownBy w' (Value.ownBlock (.slice A zs.length c)) := by
  rcases h.2 with ⟨_, h'⟩ | ⟨g, cap, cur, h', hb, hg, hnc, hcm, hcs, htake⟩
  · omega
  · simp only [Value.slice.injEq, true_and] at h'
    obtain ⟨rfl, rfl⟩ := h'
    rw [Nat.mul_one] at htake
    have h1 := Tryz.slices_Sort_int g 0 c zs w (holds_of_blockI hg htake) (Array.getElem?_eq_some_iff.1 hg).1 (by omega)
    refine h1.mono fun e w' ⟨he, n, os, hw⟩ => ⟨he, ?_, ?_⟩
    · rw [hw]
      exact ownsRow_sortedI (ts := sortI zs) (sortI_len zs) hb hg hnc hcm hcs
    · rw [hw]
      exact grownBy_sortedI _
/-- the boxes of Remove, and the list of its own -/
structure RO (w : World) (next : Int) (A : Option Addr) (n c go g m co : Nat) (l : List (Nd × Leaf)) (X : World) : Prop where
  a : A0 w next A n c X
  out : Blk X go 26 #[.int .i64 next, .slice (some ⟨g, 0, none⟩) m co]
  own : OwnM X w.heap.size (.slice (some ⟨g, 0, none⟩) m co) l
  le : w.heap.size ≤ go
  r : go ≠ w.heap.size + 1
section
variable {w X X' : World} {next : Int} {A : Option Addr} {n c go g m co : Nat} {l l' : List (Nd × Leaf)}
theorem RO.after (h : RO w next A n c go g m co l X) (hb : Below X.heap.size X X') : RO w next A n c go g m co l X' := ⟨h.a.after hb, h.out.after hb, h.own.after hb, h.le, h.r⟩
theorem RO.turned (h : RO w next A n c go g m co l X) (ho : OwnM X' w.heap.size (.slice (some ⟨g, 0, none⟩) m co) l') (hg : X.grownBy X' (some g)) : RO w next A n c go g m co l' X' :=
  ⟨⟨h.a.m.grown hg (Ne.symm (own_blk_ne h.own.own h.a.m (by decide))), h.a.r.grown hg (Ne.symm (own_blk_ne h.own.own h.a.r (by decide))), below_grows (v := .slice (some ⟨g, 0, none⟩) m co) h.a.bel hg h.own.own (Nat.le_refl _)⟩, Blk.grown h.out hg (Ne.symm (own_blk_ne h.own.own h.out (by decide))), ho, h.le, h.r⟩
end
set_option maxRecDepth 20000 in
set_option maxHeartbeats 3200000 in
theorem remove_yes (w : World) (hi : Nat) (next id : Int) (A : Option Addr) (n c : Nat) (nds : List Nd) (h : NodesIn w 0 hi A n c nds) (hh : hi ≤ w.heap.size) (hf : ∀ nd ∈ nds, Fits 1 nd) (hr : rightB next nds = true) (nd : Nd) (hx : ndOf nds id = some nd) :
    Calls Tryz.prog 19 #[.agg #[.int .i64 next, .slice A n c], .int .i64 id] w (SetPost w next (removeE next nds id) (removeL nds id)) := by
  have hres : Tryz.f19.results = #[.cell 4 26, .tmp 5] := by kernel_rfl
  have HA0 := Lib.hid (A0.start w next A n c)
  have HCk : Hid (∀ X, Below w.heap.size w X → Calls Tryz.prog 12 #[.agg #[.int .i64 next, .slice A n c]] X (Ret X (.int .i64 (checkV next nds)))) := Lib.hid fun X hX => check_any X hi next A n c nds (h.below (hX.mono hh)) (Nat.le_trans hh hX.size)
  have HE : Hid (removeE next nds id = 0) := Lib.hid (by unfold removeE; rw [if_neg (by rw [hr]; simp), if_neg (by rw [hx]; simp)])
  have hcv : checkV next nds = 0 := by unfold checkV; rw [hr]; rfl
  rw [hcv] at HCk
  have hrm := rightM hr
  have hn4 : n ≤ 4096 := by rw [← h.1]; exact hrm.len
  have HHa : Hid (∀ X, Below w.heap.size w X → Calls Tryz.prog 40 #[.agg #[.int .i64 next, .slice A n c], .int .i64 id] X (Ret X (.bool true))) := Lib.hid fun X hX => by
    have h1 := has_any X hi next id A n c nds (h.below (hX.mono hh)) (Nat.le_trans hh hX.size) hrm.rise hn4
    rw [has_ndOf, hx] at h1
    exact h1
  have HOw : Hid (∀ X, Below w.heap.size w X → Calls Tryz.prog 46 #[.agg #[.int .i64 next, .slice A n c]] X fun e w' => ∃ g l, e = .returned (.agg #[.int .i64 next, .slice (some ⟨g, 0, none⟩) n n]) ∧ OwnM w' X.heap.size (.slice (some ⟨g, 0, none⟩) n n) l ∧ l.map (·.1) = nds ∧ Below X.heap.size X w') := Lib.hid fun X hX => own_any X hi next A n c nds (h.below (hX.mono hh)) (Nat.le_trans hh hX.size) hn4 hf
  obtain ⟨t, ht⟩ : ∃ t, takeL nds id = t := ⟨_, rfl⟩
  have HTk : Hid (∀ X g l, OwnM X w.heap.size (.slice (some ⟨g, 0, none⟩) n n) l → l.length = n → l.map (·.1) = nds → Calls Tryz.prog 48 #[.agg #[.int .i64 next, .slice (some ⟨g, 0, none⟩) n n], .int .i64 id] X (PutPost X w.heap.size g n n t)) := Lib.hid fun X g l h1 h2 h3 => by
    subst h3
    rw [← ht]
    exact take_any X w.heap.size next id g n n l h1 h2 hrm nd hx (fun h0 => in_kids hrm hx h0)
  obtain ⟨zs, hzs⟩ : ∃ zs, preI nds id = zs := ⟨_, rfl⟩
  have HBr : Hid (∀ X, Below w.heap.size w X → Calls Tryz.prog 49 #[.agg #[.int .i64 next, .slice A n c], .int .i64 id] X (ListR X zs)) := Lib.hid fun X hX => by
    rw [← hzs]; exact branch_any X hi next id A n c nds (h.below (hX.mono hh)) (Nat.le_trans hh hX.size) hrm nd hx
  have hzm : id ∈ zs := by rw [← hzs]; exact mem_self id
  have hz0 : 0 < zs.length := List.length_pos_of_mem hzm
  have hz4 : zs.length ≤ 4096 := by rw [← hzs]; exact Nat.le_trans (preI_len hrm hx) hrm.len
  have HZM := Lib.hid hzm
  have HSo : Hid (∀ (X : World) (B c : Nat) (A : Option Addr), X.ownsRow B 3 1 (.slice A zs.length c) zs.length (intCells zs) → Calls Tryz.prog 50 #[.slice A zs.length c] X fun e w' => e = .returned (.tuple #[]) ∧ w'.ownsRow B 3 1 (.slice A zs.length c) zs.length (intCells (sortI zs)) ∧ X.grownBy w' (Value.ownBlock (.slice A zs.length c))) := Lib.hid fun X B c A h1 => sort_own X B c A zs h1 hz0 hz4
  have HRL : Hid (removeL nds id = leftV (sortI zs) t) := Lib.hid (by rw [removeL_left, ht, hzs]; exact leftV_congr (fun y => (sortI_has zs y).symm) t)
  have HLN0 : Hid (nds.length = n) := Lib.hid h.1
  have HTL : Hid (t.length = n) := Lib.hid (by rw [← ht, takeL_len]; exact h.1)
  have HTI : Hid (∃ (k : Nat) (y : Nd), t[k]? = some y ∧ y.id = id) := Lib.hid (by
    obtain ⟨i, _, hig, hie⟩ := ndOf_some hx
    obtain ⟨h1, h2⟩ := takeL_ids (id := id) hig
    exact ⟨i, _, by rw [← ht]; exact h1, by rw [h2]; exact hie⟩)
  clear h hf hr hx hrm hcv ht hzs hzm
  go_enter Tryz.func19, Tryz.ntmps19
  go_upto_region 6 with (first | (go_at_call 12; (with_reducible refine (HCk.out _ HA0.out.bel).mono ?_); go_must (rintro e w1 ⟨rfl, hb1⟩; have ha1 := HA0.out.after hb1; have r10 := ha1.r.cell 0; have r11 := ha1.r.cell 1; have r12 := ha1.r.frozen 0; have r13 := ha1.r.frozen 1; have m10 := ha1.m.cell 0; have m11 := ha1.m.cell 1; simp at r10 r11 m10 m11; have HA1 := Lib.hid ha1; clear ha1 hb1)) | (go_at_call 40; (with_reducible refine (HHa.out _ HA1.out.bel).mono ?_); go_must (rintro e w2 ⟨rfl, hb2⟩; have ha2 := HA1.out.after hb2; have b0 := ha2.m.cell 0; have b1 := ha2.m.cell 1; simp at b0 b1; have HA2 := Lib.hid ha2; clear ha2 hb2)))
  go_upto_region 7 with (go_at_call 46; (with_reducible refine (HOw.out _ HA2.out.bel).mono ?_); go_must (rintro e w6 ⟨g, l, rfl, ho6, hl6, hb6⟩; have HA6 := Lib.hid (HA2.out.after hb6); have HO6 := Lib.hid (ho6.mono HA2.out.bel.size); have HL6 := Lib.hid hl6; clear hb6 ho6 hl6))
  have HLN : Hid (l.length = n) := Lib.hid (by have := congrArg List.length HL6.out; rw [List.length_map, HLN0.out] at this; exact this)
  have hsz6 := HA6.out.bel.size
  have hsr := HA6.out.r.lt
  have HX6 : Hid (RO w next A n c w6.heap.size g n n l (w6.alloc (.cells #[.int .i64 next, .slice (some ⟨g, 0, none⟩) n n] 26))) := Lib.hid ⟨HA6.out.after (below_more (Below.refl _ _) _), Blk.new _ _ _, HO6.out.after (below_more (Below.refl _ _) _), hsz6, by omega⟩
  generalize w6.alloc (.cells #[.int .i64 next, .slice (some ⟨g, 0, none⟩) n n] 26) = X6 at HX6 ⊢
  generalize w6.heap.size = go at HX6 ⊢
  clear hsz6 hsr b0 b1 r10 r11 r12 r13 m10 m11
  have g0 := HX6.out.out.cell 0
  have g1 := HX6.out.out.cell 1
  simp at g0 g1
  go_upto_region 8 with (go_at_call 48; (with_reducible refine (HTk.out _ _ _ HX6.out.own HLN.out HL6.out).mono ?_); go_must (rintro e w8 ⟨rfl, l', ho8, hg8, hm8⟩; have HX8 := Lib.hid (HX6.out.turned ho8 hg8); have HMT := Lib.hid hm8; clear ho8 hg8 hm8))
  have HLT : Hid (l'.length = n) := Lib.hid (by have := congrArg List.length HMT.out; rw [List.length_map, HTL.out] at this; exact this)
  clear g0 g1
  have c0 := HX8.out.a.m.cell 0
  have c1 := HX8.out.a.m.cell 1
  simp at c0 c1
  go_upto_region 9 with (go_at_call 49; (with_reducible refine (HBr.out _ HX8.out.a.bel).mono ?_); go_must (rintro e w9 ⟨lv, rfl, hlv, hb9⟩; obtain ⟨Al, cl, rfl⟩ := own_form hlv; have HX9 := Lib.hid (HX8.out.after hb9); have HB9 := Lib.hid hb9; have HZ9 := Lib.hid hlv; clear hlv hb9))
  clear c0 c1
  have HX10 := Lib.hid (HX9.out.after (below_more (Below.refl _ _) (.cells #[.slice Al zs.length cl] 33)))
  have HZ10 := Lib.hid (own_after HZ9.out (below_more (Below.refl _ _) (.cells #[.slice Al zs.length cl] 33)))
  have HB10 := Lib.hid (below_more HB9.out (.cells #[.slice Al zs.length cl] 33))
  have HN10 := Lib.hid (Blk.new w9 33 #[.slice Al zs.length cl])
  generalize w9.alloc (.cells #[.slice Al zs.length cl] 33) = X10 at HX10 HZ10 HB10 HN10 ⊢
  generalize w9.heap.size = gg at HN10 ⊢
  have e0 := HN10.out.cell 0
  simp at e0
  go_upto_region 10 with (go_at_call 50; (with_reducible refine (HSo.out _ _ _ _ HZ10.out).mono ?_); go_must (rintro e w11 ⟨rfl, hz11, hg11⟩; have HZ11 := Lib.hid hz11; have HG11 := Lib.hid hg11; clear hz11 hg11))
  clear e0
  have hB11 : Below w8.heap.size w8 w11 := HB10.out.grown HG11.out HB10.out.size (fun k hk => (World.ownsRow.lt HZ10.out k hk).1)
  have HX11 := Lib.hid (HX8.out.after hB11)
  have HN11 := Lib.hid (HN10.out.grown HG11.out (fun h => own_blk_ne HZ10.out HN10.out (by decide) h.symm))
  clear hB11
  have hC : RemC w11 g gg (sortI zs) := fun X hX nd L => by
    have h1 := own_row (own_kept HZ11.out HX11.out.own.own (by decide) hX)
    have h2 := HN11.out.grown hX (Ne.symm (own_blk_ne HX11.out.own.own HN11.out (by decide)))
    exact remove1_any X gg _ _ Al zs.length cl (sortI zs) nd L ((h2.cell 0).trans rfl) h2.lt h1 (Nat.le_refl _) (sortI_rises zs) (by rw [sortI_len]; exact hz0) (by rw [sortI_len]; exact hz4)
  have hex : ∃ q ∈ l', (sortI zs).contains q.1.id = true := by
    obtain ⟨k, y, h1, h2⟩ := HTI.out
    rw [← HMT.out, List.getElem?_map] at h1
    cases hq : l'[k]? with
    | none => rw [hq] at h1; cases h1
    | some q =>
      rw [hq] at h1
      obtain rfl : q.1 = y := by simpa using h1
      exact ⟨q, List.mem_of_getElem? hq, by rw [h2, sortI_has, List.contains_iff_mem]; exact HZM.out⟩
  obtain ⟨k, hk⟩ : ∃ k, l'.findIdx (fun q => (sortI zs).contains q.1.id) = k := ⟨_, rfl⟩
  have hkn : k < n := by rw [← hk, ← HLT.out]; exact List.findIdx_lt_length_of_exists hex
  have HDf := Lib.hid (deleteGone_any w11 w.heap.size g n n gg k l' (sortI zs) HX11.out.own HLT.out hn4 hC hkn (fun j q hj hq => by
    have h1 := List.not_of_lt_findIdx (xs := l') (p := fun q => (sortI zs).contains q.1.id) (i := j) (by rw [hk]; exact hj)
    obtain ⟨h2, h3⟩ := List.getElem?_eq_some_iff.1 hq
    rw [h3] at h1
    simpa using h1) (fun q hq => by
    obtain ⟨h2, h3⟩ := List.getElem?_eq_some_iff.1 hq
    have h1 := List.findIdx_getElem (xs := l') (p := fun q => (sortI zs).contains q.1.id) (w := by rw [hk]; exact h2)
    simp only [hk] at h1
    rw [h3] at h1
    exact h1))
  clear hC hex hk hkn
  have d0 := HX11.out.out.cell 0
  have d1 := HX11.out.out.cell 1
  simp at d0 d1
  go_upto_region 11 with (go_at_call 51; (with_reducible refine HDf.out.mono ?_); go_must (rintro e w12 ⟨rfl, ho12, hg12⟩; have HO12 := Lib.hid ho12; have HG12 := Lib.hid hg12; have f12 := (Blk.grown HX11.out.out hg12 (Ne.symm (own_blk_ne HX11.out.own.own HX11.out.out (by decide)))); have f121 := f12.frozen 1; have f120 := f12.cell 1; simp at f120; have HF12 := Lib.hid f12; clear ho12 hg12 f12))
  have HR12 := Lib.hid (HX11.out.a.r.grown HG12.out (Ne.symm (own_blk_ne HX11.out.own.own HX11.out.a.r (by decide))))
  have HB12 : Hid (Below w.heap.size w w12) := Lib.hid (below_grows (v := .slice (some ⟨g, 0, none⟩) n n) HX11.out.a.bel HG12.out HX11.out.own.own (Nat.le_refl _))
  obtain ⟨lo, hlo⟩ : ∃ lo, leftP (sortI zs) l' = lo := ⟨_, rfl⟩
  rw [hlo] at HO12 ⊢
  have HLO := Lib.hid hlo
  have HF13 := Lib.hid (HF12.out.set_ 1 (.slice (some ⟨g, 0, none⟩) lo.length n))
  have HO13 := Lib.hid (HO12.out.other HF12.out 1 (.slice (some ⟨g, 0, none⟩) lo.length n))
  have HR13 := Lib.hid (HR12.out.far (p := ⟨go, 1, none⟩) (Ne.symm HX11.out.r) (.slice (some ⟨g, 0, none⟩) lo.length n))
  have HB13 := Lib.hid (below_set (i := 1) (u := .slice (some ⟨g, 0, none⟩) lo.length n) HB12.out HX11.out.le)
  generalize w12.setCell ⟨go, 1, none⟩ (.slice (some ⟨g, 0, none⟩) lo.length n) = X13 at HF13 HO13 HR13 HB13 ⊢
  clear d0 d1 f120 f121 hlo
  have d0 := HR13.out.cell 0
  have d1 := HR13.out.cell 1
  have d2 := HR13.out.frozen 0
  have d3 := HR13.out.frozen 1
  have d4 := HF13.out.cell 0
  have d5 := HF13.out.cell 1
  simp at d0 d1 d4 d5
  go_wp2_with fail
  (try rw [Exit.noGoto_ret])
  (try simp only [Exit.inBlock, Exit.then])
  refine bodyPost_ret (v := .tuple #[.agg #[.int .i64 next, .slice (some ⟨g, 0, none⟩) lo.length n], .int .i64 0]) ?hr rfl ?_
  case hr =>
    simp only [results, hres]
    go_simp
  rw [HE.out]
  refine ⟨next, some ⟨g, 0, none⟩, lo.length, n, rfl, (HB13.out.setCell (p := ⟨w.heap.size + 1, 0, none⟩) (by simp) _).setCell (p := ⟨w.heap.size + 1, 1, none⟩) (by simp) _, fun h => absurd rfl h, fun _ => ⟨rfl, lo, (HO13.out.other HR13.out 0 _).other (HR13.out.set_ 0 _) 1 _, rfl, ?_⟩⟩
  rw [HRL.out, ← HLO.out, leftP_map, HMT.out]
/-- Remove of the program -/
theorem remove_any (w : World) (hi : Nat) (next id : Int) (A : Option Addr) (n c : Nat) (nds : List Nd) (h : NodesIn w 0 hi A n c nds) (hh : hi ≤ w.heap.size) (hf : ∀ nd ∈ nds, Fits 1 nd) :
    Calls Tryz.prog 19 #[.agg #[.int .i64 next, .slice A n c], .int .i64 id] w (SetPost w next (removeE next nds id) (removeL nds id)) := by
  cases hr : rightB next nds with
  | false => exact remove_e29 w hi next id A n c nds h hh hr
  | true =>
    cases hx : ndOf nds id with
    | none => exact remove_e20 w hi next id A n c nds h hh hr hx
    | some nd => exact remove_yes w hi next id A n c nds h hh hf hr nd hx
end Go.Proofs.YtbkmdlfenbfdlaaGreat

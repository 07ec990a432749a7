/-
  WALKS: a model's lists are written over.
  WALKS: a model's lists are written over: nothing else is, neither below its memory nor above it.
  WALKS: rest.
  WALKS: pick.
  WALKS: the program's own: what it lays is new for each node, and has no room behind it.
  WALKS: nameable; changed, whatever is done to the node.
-/
import Derived.Test.YtbkmdlfenbfdlaaGreatZC8
import Derived.IntWalk
namespace Go.Proofs.YtbkmdlfenbfdlaaGreat
open Go Go.RowKit Go.Sort
set_option linter.unusedVariables false
attribute [local go_sem ↓] Go.wp_at_zero Go.wp_at_succ
/-- lists of the call's own, whatever they hold -/
structure SpL (w : World) (B : Nat) (L : Leaf) : Prop where
  p : ∃ xs, w.ownsRow B 94 2 (.slice L.p.A L.p.n L.p.c) L.p.n xs
  k : ∃ xs, w.ownsRow B 3 1 (.slice L.k.A L.k.n L.k.c) L.k.n xs
  r : ∃ xs, w.ownsRow B 60 2 (.slice L.r.A L.r.n L.r.c) L.r.n xs
theorem own_ex_set {w : World} {B size n : Nat} {e : TypeId} {v : Value} (h : ∃ xs, w.ownsRow B e size v n xs) (g i : Nat) (u : Value) : ∃ xs, (w.setCell ⟨g, i, none⟩ u).ownsRow B e size v n xs := by
  obtain ⟨xs, h⟩ := h
  rcases h.2 with ⟨hv, hn⟩ | ⟨g', cap, cur, rfl, hb, hg, rest⟩
  · exact ⟨xs, h.1, .inl ⟨hv, hn⟩⟩
  · by_cases e1 : g' = g
    · subst e1
      exact ⟨_, (World.ownsRow.stored h i u).1⟩
    · refine ⟨xs, h.1, .inr ⟨g', cap, cur, rfl, hb, ?_, rest⟩⟩
      rw [Below.heap_setCell _ ⟨g, i, none⟩ _ _ e1]
      exact hg
theorem SpL.set {w : World} {B : Nat} {L : Leaf} (h : SpL w B L) (g i : Nat) (u : Value) : SpL (w.setCell ⟨g, i, none⟩ u) B L := ⟨own_ex_set h.p g i u, own_ex_set h.k g i u, own_ex_set h.r g i u⟩
theorem SpL.after {w w' : World} {B : Nat} {L : Leaf} (h : SpL w B L) (hb : Below w.heap.size w w') : SpL w' B L := by
  obtain ⟨⟨a, h1⟩, ⟨b, h2⟩, ⟨c, h3⟩⟩ := h
  exact ⟨⟨a, own_after h1 hb⟩, ⟨b, own_after h2 hb⟩, ⟨c, own_after h3 hb⟩⟩
/-- a cell of such a list can be written -/
theorem own_cell {w : World} {B size n c : Nat} {e : TypeId} {A : Option Addr} (h : ∃ xs, w.ownsRow B e size (.slice A n c) n xs) (hn : 0 < n) :
    ∃ g cs, A = some ⟨g, 0, none⟩ ∧ Blk w g e cs ∧ B ≤ g ∧ n ≤ c ∧ c ≤ maxLen ∧ ∀ j, j < n * size → (∃ u, w.cell? ⟨g, j, none⟩ = some u) ∧ w.frozen? ⟨g, j, none⟩ = false := by
  obtain ⟨xs, h⟩ := h
  have hr := own_row h
  rcases h.2 with ⟨hv, h0⟩ | ⟨g, cap, cur, hv, hb, hg, h1, h2, rest⟩
  · omega
  · injection hv with hA _ hc
    subst hA hc
    refine ⟨g, cur, rfl, hg, hb, h1, h2, fun j hj => ⟨?_, World.ownsRow.frozenAt h j⟩⟩
    rw [World.ownsRow.cellAt h j hj, List.getElem?_eq_getElem (by rw [h.1]; exact hj)]
    exact ⟨_, rfl⟩
/-- a model of the call's own, whose lists are written over -/
structure SP (w : World) (B : Nat) (x : Int) (A : Option Addr) (n c : Nat) (l : List (Nd × Leaf)) (X : World) : Prop where
  m : Blk X w.heap.size 26 #[.int .i64 x, .slice A n c]
  own : OwnN X B (.slice A n c) l
  leaf : ∀ p ∈ l, SpL X B p.2
  bel : Below B w X
structure SB (w : World) (B : Nat) (x : Int) (A : Option Addr) (n c : Nat) (l : List (Nd × Leaf)) (g : Nat) (cs : Array Value) (X : World) : Prop where
  s : SP w B x A n c l X
  b : Blk X g 41 cs
section
variable {w X X' : World} {B : Nat} {x : Int} {A : Option Addr} {n c : Nat} {l : List (Nd × Leaf)}
theorem SP.after (h : SP w B x A n c l X) (hB : B ≤ X.heap.size) (hb : Below X.heap.size X X') : SP w B x A n c l X' := ⟨h.m.after hb, own_after h.own hb, fun p hp => (h.leaf p hp).after hb, h.bel.trans (hb.mono hB)⟩
theorem SP.set (h : SP w B x A n c l X) {g : Nat} {t : TypeId} {cs : Array Value} (hg : Blk X g t cs) (hB : B ≤ g) (h1 : 26 ≠ t) (h2 : 41 ≠ t) (i : Nat) (u : Value) : SP w B x A n c l (X.setCell ⟨g, i, none⟩ u) :=
  ⟨h.m.far (p := ⟨g, i, none⟩) (h.m.ne_ hg h1) u, own_other h.own hg h2 i u, fun p hp => (h.leaf p hp).set g i u, h.bel.setCell (p := ⟨g, i, none⟩) hB u⟩
theorem SB.set {gb : Nat} {cb : Array Value} (h : SB w B x A n c l gb cb X) {g : Nat} {t : TypeId} {cs : Array Value} (hg : Blk X g t cs) (hB : B ≤ g) (h1 : 26 ≠ t) (h2 : 41 ≠ t) (i : Nat) (u : Value) : SB w B x A n c l gb cb (X.setCell ⟨g, i, none⟩ u) :=
  ⟨h.s.set hg hB h1 h2 i u, h.b.far (p := ⟨g, i, none⟩) (h.b.ne_ hg h2) u⟩
theorem SP.node (h : SP w B x A n c l X) (hn : l.length = n) {i : Nat} {p : Nd × Leaf} (hp : l[i]? = some p) : ∃ g, A = some ⟨g, 0, none⟩ ∧ B ≤ g ∧ n ≤ c ∧ c ≤ maxLen ∧ NodeAt X g (i * 7) p.1 p.2 ∧ X.frozen? ⟨g, i * 7, none⟩ = false := by
  subst hn
  have hi : i < l.length := (List.getElem?_eq_some_iff.1 hp).1
  have h0 : X.ownsRow B 41 7 (.slice A l.length c) l.length (allCells l) := h.own
  obtain ⟨g, cs, rfl, hg, hB, h1, h2, hc⟩ := own_cell ⟨_, h0⟩ (by omega)
  have key : ∀ j u, j < 7 → (ndCells p)[j]? = some u → X.cell? ⟨g, i * 7 + j, none⟩ = some u := by
    intro j u hj hu
    rw [World.ownsRow.cellAt h0 (i * 7 + j) (by omega)]
    unfold allCells
    rw [flatN_get ndCells_len l i p hp j hj]
    exact hu
  exact ⟨g, rfl, hB, h1, h2, ⟨key 0 _ (by omega) rfl, key 1 _ (by omega) rfl, key 2 _ (by omega) rfl, key 3 _ (by omega) rfl, key 4 _ (by omega) rfl, key 5 _ (by omega) rfl, key 6 _ (by omega) rfl⟩, (hc (i * 7) (by omega)).2⟩
theorem SP.setId {g : Nat} (h : SP w B x (some ⟨g, 0, none⟩) n c l X) (hn : l.length = n) {i : Nat} {p : Nd × Leaf} (hp : l[i]? = some p) (z : Int) : SP w B x (some ⟨g, 0, none⟩) n c (l.set i ({ p.1 with id := z }, p.2)) (X.setCell ⟨g, i * 7, none⟩ (.int .i64 z)) := by
  subst hn
  have h0 : X.ownsRow B 41 7 (.slice (some ⟨g, 0, none⟩) l.length c) l.length (allCells l) := h.own
  obtain ⟨cs, hg, hB, _⟩ := own_blk h0
  have h2 := (World.ownsRow.stored h0 (i * 7 + 0) (.int .i64 z)).1
  rw [allCells_set hp (by omega) (q := ({ p.1 with id := z }, p.2)) rfl] at h2
  refine ⟨h.m.far (p := ⟨g, i * 7, none⟩) (h.m.ne_ hg (by decide)) _, ?_, fun q hq => ?_, h.bel.setCell (p := ⟨g, i * 7, none⟩) hB _⟩
  · unfold OwnN
    rw [List.length_set]
    exact h2
  · rcases List.mem_or_eq_of_mem_set hq with hq | rfl
    · exact (h.leaf q hq).set _ _ _
    · exact (h.leaf p (List.mem_of_getElem? hp)).set _ _ _
end
end Go.Proofs.YtbkmdlfenbfdlaaGreat
namespace Go.Proofs.YtbkmdlfenbfdlaaGreat
open Go Go.RowKit Go.Sort
set_option linter.unusedVariables false
attribute [local go_sem ↓] Go.wp_at_zero Go.wp_at_succ
/-- what lay above H is as it was -/
structure KH (H : Nat) (w X : World) : Prop where
  keep : ∀ g, H ≤ g → g < w.heap.size → X.heap[g]? = w.heap[g]?
  size : w.heap.size ≤ X.heap.size
theorem KH.refl (H : Nat) (w : World) : KH H w w := ⟨fun _ _ _ => rfl, Nat.le_refl _⟩
theorem KH.after {H : Nat} {w X X' : World} (h : KH H w X) (hb : Below X.heap.size X X') : KH H w X' := ⟨fun g h1 h2 => (hb.block g (Nat.lt_of_lt_of_le h2 h.size)).trans (h.keep g h1 h2), Nat.le_trans h.size hb.size⟩
theorem KH.set {H g : Nat} {w X : World} (h : KH H w X) (hg : g < H) (i : Nat) (u : Value) : KH H w (X.setCell ⟨g, i, none⟩ u) := ⟨fun k h1 h2 => (Below.heap_setCell _ ⟨g, i, none⟩ _ _ (by simp; omega)).trans (h.keep k h1 h2), by simpa [World.setCell] using h.size⟩
/-- lists that lie below H -/
structure LtL (H : Nat) (L : Leaf) : Prop where
  p : ∀ g, L.p.A = some ⟨g, 0, none⟩ → g < H
  k : ∀ g, L.k.A = some ⟨g, 0, none⟩ → g < H
  r : ∀ g, L.r.A = some ⟨g, 0, none⟩ → g < H
/-- a model of the call's own, whose lists are written over -/
structure SP2 (H : Nat) (w : World) (B : Nat) (x : Int) (A : Option Addr) (n c : Nat) (l : List (Nd × Leaf)) (X : World) : Prop where
  m : Blk X w.heap.size 26 #[.int .i64 x, .slice A n c]
  own : OwnN X B (.slice A n c) l
  leaf : ∀ p ∈ l, SpL X B p.2
  bel : Below B w X
  kh : KH H w X
  lt : ∀ p ∈ l, LtL H p.2
  lA : ∀ g, A = some ⟨g, 0, none⟩ → g < H
structure SB2 (H : Nat) (w : World) (B : Nat) (x : Int) (A : Option Addr) (n c : Nat) (l : List (Nd × Leaf)) (g : Nat) (cs : Array Value) (X : World) : Prop where
  s : SP2 H w B x A n c l X
  b : Blk X g 41 cs
section
variable {H : Nat} {w X X' : World} {B : Nat} {x : Int} {A : Option Addr} {n c : Nat} {l : List (Nd × Leaf)}
theorem SP2.after (h : SP2 H w B x A n c l X) (hB : B ≤ X.heap.size) (hb : Below X.heap.size X X') : SP2 H w B x A n c l X' := ⟨h.m.after hb, own_after h.own hb, fun p hp => (h.leaf p hp).after hb, h.bel.trans (hb.mono hB), h.kh.after hb, h.lt, h.lA⟩
theorem SP2.set (h : SP2 H w B x A n c l X) {g : Nat} {t : TypeId} {cs : Array Value} (hg : Blk X g t cs) (hB : B ≤ g) (hH : g < H) (h1 : 26 ≠ t) (h2 : 41 ≠ t) (i : Nat) (u : Value) : SP2 H w B x A n c l (X.setCell ⟨g, i, none⟩ u) :=
  ⟨h.m.far (p := ⟨g, i, none⟩) (h.m.ne_ hg h1) u, own_other h.own hg h2 i u, fun p hp => (h.leaf p hp).set g i u, h.bel.setCell (p := ⟨g, i, none⟩) hB u, h.kh.set hH i u, h.lt, h.lA⟩
theorem SB2.set {gb : Nat} {cb : Array Value} (h : SB2 H w B x A n c l gb cb X) {g : Nat} {t : TypeId} {cs : Array Value} (hg : Blk X g t cs) (hB : B ≤ g) (hH : g < H) (h1 : 26 ≠ t) (h2 : 41 ≠ t) (i : Nat) (u : Value) : SB2 H w B x A n c l gb cb (X.setCell ⟨g, i, none⟩ u) :=
  ⟨h.s.set hg hB hH h1 h2 i u, h.b.far (p := ⟨g, i, none⟩) (h.b.ne_ hg h2) u⟩
theorem SP2.node (h : SP2 H w B x A n c l X) (hn : l.length = n) {i : Nat} {p : Nd × Leaf} (hp : l[i]? = some p) : ∃ g, A = some ⟨g, 0, none⟩ ∧ B ≤ g ∧ n ≤ c ∧ c ≤ maxLen ∧ NodeAt X g (i * 7) p.1 p.2 ∧ X.frozen? ⟨g, i * 7, none⟩ = false := by
  subst hn
  have hi : i < l.length := (List.getElem?_eq_some_iff.1 hp).1
  have h0 : X.ownsRow B 41 7 (.slice A l.length c) l.length (allCells l) := h.own
  obtain ⟨g, cs, rfl, hg, hB, h1, h2, hc⟩ := own_cell ⟨_, h0⟩ (by omega)
  have key : ∀ j u, j < 7 → (ndCells p)[j]? = some u → X.cell? ⟨g, i * 7 + j, none⟩ = some u := by
    intro j u hj hu
    rw [World.ownsRow.cellAt h0 (i * 7 + j) (by omega)]
    unfold allCells
    rw [flatN_get ndCells_len l i p hp j hj]
    exact hu
  exact ⟨g, rfl, hB, h1, h2, ⟨key 0 _ (by omega) rfl, key 1 _ (by omega) rfl, key 2 _ (by omega) rfl, key 3 _ (by omega) rfl, key 4 _ (by omega) rfl, key 5 _ (by omega) rfl, key 6 _ (by omega) rfl⟩, (hc (i * 7) (by omega)).2⟩
theorem SP2.setId {g : Nat} (h : SP2 H w B x (some ⟨g, 0, none⟩) n c l X) (hn : l.length = n) {i : Nat} {p : Nd × Leaf} (hp : l[i]? = some p) (z : Int) : SP2 H w B x (some ⟨g, 0, none⟩) n c (l.set i ({ p.1 with id := z }, p.2)) (X.setCell ⟨g, i * 7, none⟩ (.int .i64 z)) := by
  subst hn
  have h0 : X.ownsRow B 41 7 (.slice (some ⟨g, 0, none⟩) l.length c) l.length (allCells l) := h.own
  obtain ⟨cs, hg, hB, _⟩ := own_blk h0
  have h2 := (World.ownsRow.stored h0 (i * 7 + 0) (.int .i64 z)).1
  rw [allCells_set hp (by omega) (q := ({ p.1 with id := z }, p.2)) rfl] at h2
  refine ⟨h.m.far (p := ⟨g, i * 7, none⟩) (h.m.ne_ hg (by decide)) _, ?_, fun q hq => ?_, h.bel.setCell (p := ⟨g, i * 7, none⟩) hB _, h.kh.set (h.lA g rfl) _ _, fun q hq => ?_, h.lA⟩
  · unfold OwnN
    rw [List.length_set]
    exact h2
  · rcases List.mem_or_eq_of_mem_set hq with hq | rfl
    · exact (h.leaf q hq).set _ _ _
    · exact (h.leaf p (List.mem_of_getElem? hp)).set _ _ _
  · rcases List.mem_or_eq_of_mem_set hq with hq | rfl
    · exact h.lt q hq
    · exact h.lt p (List.mem_of_getElem? hp)
end
end Go.Proofs.YtbkmdlfenbfdlaaGreat
namespace Go.Proofs.YtbkmdlfenbfdlaaGreat
open Go Go.RowKit
set_option linter.unusedVariables false
/-- a number's rest -/
def restV (x : Int) (n : Nat) : Nat := ((IntKind.u64.wrap x).tmod n).toNat
theorem u64_pos (x : Int) : 0 ≤ IntKind.u64.wrap x := by
  simp only [IntKind.wrap, IntKind.bits, IntKind.signed]
  first | exact Int.emod_nonneg _ (by decide) | (split <;> first | exact Int.emod_nonneg _ (by decide) | omega)
theorem restV_eq (x : Int) (n : Nat) : (IntKind.u64.wrap x).tmod n = (restV x n : Int) := by
  unfold restV
  rw [Int.toNat_of_nonneg (Int.tmod_nonneg _ (u64_pos x))]
theorem restV_lt (x : Int) {n : Nat} (h : 0 < n) : restV x n < n := by
  have h1 := Int.tmod_lt_of_pos (IntKind.u64.wrap x) (b := (n : Int)) (by omega)
  rw [restV_eq] at h1
  omega
set_option maxRecDepth 20000 in
set_option maxHeartbeats 800000 in
theorem rest_any (w : World) (x : Int) (n : Nat) (h0 : 0 < n) (h1 : n ≤ 5000) :
    Calls Tryz.prog 16 #[.int .i64 x, .int .i64 n] w fun e w' => e = .returned (.int .i64 (restV x n)) ∧ w = w' := by
  have hlt := restV_lt x h0
  have HW : Hid (wrap64 ((IntKind.u64.wrap x).tmod n) = (restV x n : Int)) := Lib.hid (by
    rw [restV_eq]
    exact IntWalk.wrap64_in (restV x n : Int) (by omega))
  clear hlt
  go_enter Tryz.func16, Tryz.ntmps16
  go_wp2_with fail
  go_ret
  exact ⟨by rw [HW.out]; rfl, rfl⟩
end Go.Proofs.YtbkmdlfenbfdlaaGreat
namespace Go.Proofs.YtbkmdlfenbfdlaaGreat
open Go Go.RowKit Go.Sort
set_option linter.unusedVariables false
attribute [local go_sem ↓] Go.wp_at_zero Go.wp_at_succ
/-- one of a model's numbers, or 0 -/
def pickV (next : Int) (nds : List Nd) (x : Int) : Int := (orderR next nds).getD (restV x ((orderR next nds).length + 1)) 0
theorem orderR_len {next : Int} {nds : List Nd} : (orderR next nds).length ≤ 4096 := by
  unfold orderR
  cases hr : rightB next nds with
  | false => simp
  | true => rw [if_pos rfl]; exact Nat.le_trans (order_len (rightM hr)) (rightM hr).len
set_option maxRecDepth 20000 in
set_option maxHeartbeats 1600000 in
theorem pick_any (w : World) (hi : Nat) (next x : Int) (A : Option Addr) (n c : Nat) (nds : List Nd) (h : NodesIn w 0 hi A n c nds) (hh : hi ≤ w.heap.size) :
    Calls Tryz.prog 15 #[.agg #[.int .i64 next, .slice A n c], .int .i64 x] w (Ret w (.int .i64 (pickV next nds x))) := by
  have HM0 := Lib.hid (M1.start w next A n c)
  have HO := Lib.hid (order_any _ hi next A n c nds (h.below (HM0.out.bel.mono hh)) (Nat.le_trans hh HM0.out.bel.size))
  have hl4 := orderR_len (next := next) (nds := nds)
  have hpv : pickV next nds x = (orderR next nds).getD (restV x ((orderR next nds).length + 1)) 0 := rfl
  rw [hpv]
  obtain ⟨l, hl⟩ : ∃ l, orderR next nds = l := ⟨_, rfl⟩
  rw [hl] at HO hl4 ⊢
  obtain ⟨r, hr⟩ : ∃ r, restV x (l.length + 1) = r := ⟨_, rfl⟩
  have hrl : r < l.length + 1 := by rw [← hr]; exact restV_lt x (by omega)
  have HRe : Hid (∀ X, Calls Tryz.prog 16 #[.int .i64 x, .int .i64 (l.length + 1 : Nat)] X fun e w' => e = .returned (.int .i64 r) ∧ X = w') := Lib.hid fun X => by
    have := rest_any X x (l.length + 1) (by omega) (by omega)
    rw [hr] at this
    exact this
  rw [hr]
  clear hpv hl hr h
  have m0 := HM0.out.a.cell 0
  have m1 := HM0.out.a.cell 1
  simp at m0 m1
  go_enter Tryz.func15, Tryz.ntmps15
  go_upto_region 2 with (go_at_call 10; (with_reducible refine HO.out.mono ?_); go_must (rintro e w2 ⟨lv, rfl, hlv, hb2⟩; obtain ⟨Al, cl, rfl⟩ := own_form hlv; have HV := Lib.hid (own_row hlv); have HM2 := Lib.hid (HM0.out.after hb2); clear hlv hb2))
  by_cases hrn : r = l.length
  · have HD : Hid (l.getD r 0 = 0) := Lib.hid (by rw [hrn, List.getD_eq_getElem?_getD, List.getElem?_eq_none (Nat.le_refl _)]; rfl)
    have he : ((r : Int) == (l.length : Int)) = true := by rw [beq_iff_eq]; omega
    have HRN := Lib.hid hrn
    clear hrn
    go_wp2_with (go_at_call 16; go_must (refine (HRe.out _).mono ?_; rintro e w3 ⟨rfl, rfl⟩))
    go_ret
    exact ⟨by rw [HD.out]; rfl, HM2.out.bel⟩
  · have hlt : r < l.length := by omega
    have he : ((r : Int) == (l.length : Int)) = false := by rw [beq_eq_false_iff_ne]; omega
    obtain ⟨b, o, hA, _, _, hc⟩ := HV.out.at_ (Nat.lt_of_le_of_lt (Nat.zero_le _) hlt)
    subst hA
    have hcm := HV.out.2.2.1
    have hcn := HV.out.2.1
    unfold maxLen at hcm
    have c0 := hc r _ (intCells_get (List.getElem?_eq_getElem hlt))
    have HD : Hid (l.getD r 0 = l[r]) := Lib.hid (by rw [List.getD_eq_getElem?_getD, List.getElem?_eq_getElem hlt]; rfl)
    obtain ⟨y, hy⟩ : ∃ y, l[r] = y := ⟨_, rfl⟩
    rw [hy] at c0 HD
    clear hc hy
    have HRN := Lib.hid hrn
    clear hrn
    go_wp2_with (go_at_call 16; go_must (refine (HRe.out _).mono ?_; rintro e w3 ⟨rfl, rfl⟩))
    go_ret
    exact ⟨by rw [HD.out]; rfl, HM2.out.bel⟩
end Go.Proofs.YtbkmdlfenbfdlaaGreat
namespace Go.Proofs.YtbkmdlfenbfdlaaGreat
open Go Go.RowKit Go.Sort
set_option linter.unusedVariables false
attribute [local go_sem ↓] Go.wp_at_zero Go.wp_at_succ
/-- lists without room; an empty one is nil -/
structure Tight (M : Leaf) : Prop where
  pc : M.p.c = M.p.n
  kc : M.k.c = M.k.n
  rc : M.r.c = M.r.n
  p0 : M.p.n = 0 → M.p.A = none
  k0 : M.k.n = 0 → M.k.A = none
  r0 : M.r.n = 0 → M.r.A = none
def NoClash (s s' : Sl) : Prop := ∀ g, s.v.ownBlock = some g → s'.v.ownBlock ≠ some g
/-- no two nodes' lists lie in one block -/
structure Dist (l : List (Nd × Leaf)) : Prop where
  tight : ∀ p ∈ l, Tight p.2
  apart : ∀ (i j : Nat) p q, i ≠ j → l[i]? = some p → l[j]? = some q → NoClash p.2.p q.2.p ∧ NoClash p.2.r q.2.r
theorem Dist.push {l : List (Nd × Leaf)} {p : Nd × Leaf} {X X' : World} {B : Nat} (h : Dist l) (hl : ∀ q ∈ l, OwnLeaf X B q.1 q.2) (hp : OwnLeaf X' X.heap.size p.1 p.2) (ht : Tight p.2) : Dist (l ++ [p]) := by
  have old : ∀ q ∈ l, NoClash q.2.p p.2.p ∧ NoClash q.2.r p.2.r ∧ NoClash p.2.p q.2.p ∧ NoClash p.2.r q.2.r := by
    intro q hq
    have ho := hl q hq
    refine ⟨fun g h1 h2 => ?_, fun g h1 h2 => ?_, fun g h1 h2 => ?_, fun g h1 h2 => ?_⟩
    · have := own_lt ho.p h1; have := own_base hp.p h2; omega
    · have := own_lt ho.r h1; have := own_base hp.r h2; omega
    · have := own_lt ho.p h2; have := own_base hp.p h1; omega
    · have := own_lt ho.r h2; have := own_base hp.r h1; omega
  have last : ∀ (i : Nat) q, (l ++ [p])[i]? = some q → (i < l.length ∧ l[i]? = some q) ∨ (i = l.length ∧ q = p) := by
    intro i q hq
    rcases Nat.lt_or_ge i l.length with hi | hi
    · rw [List.getElem?_append_left hi] at hq; exact .inl ⟨hi, hq⟩
    · rw [List.getElem?_append_right hi] at hq
      have h0 : i - l.length = 0 := by
        rcases Nat.eq_zero_or_pos (i - l.length) with h0 | h0
        · exact h0
        · rw [List.getElem?_eq_none (by simp; omega)] at hq; cases hq
      rw [h0] at hq
      exact .inr ⟨by omega, by simpa using hq.symm⟩
  refine ⟨fun q hq => ?_, fun i j q r hij hq hr => ?_⟩
  · rcases List.mem_append.1 hq with hq | hq
    · exact h.tight q hq
    · obtain rfl : q = p := by simpa using hq
      exact ht
  · rcases last i q hq with ⟨h1, h2⟩ | ⟨h1, rfl⟩ <;> rcases last j r hr with ⟨h3, h4⟩ | ⟨h3, rfl⟩
    · exact h.apart i j q r hij h2 h4
    · have := old q (List.mem_of_getElem? h2); exact ⟨this.1, this.2.1⟩
    · have := old r (List.mem_of_getElem? h4); exact ⟨this.2.2.1, this.2.2.2⟩
    · omega
set_option maxHeartbeats 1600000 in
theorem ownProps_tight (w : World) (lo hi : Nat) (A : Option Addr) (n c : Nat) (l : List (ByteArray × ByteArray)) (h : Row w lo hi 2 A n c (propCells l)) (hh : hi ≤ w.heap.size) (hl : n * 32 ≤ 140737488355328) :
    Calls Tryz.prog 78 #[.slice A n c] w fun e w' => ∃ A', e = .returned (.slice A' n n) ∧ w'.ownsRow w.heap.size 94 2 (.slice A' n n) n (propCells l) ∧ Below w.heap.size w w' ∧ (n = 0 → A' = none) := by
  have hc := h.2.2.1
  have hnc := h.2.1
  unfold maxLen at hc
  by_cases h0 : n = 0
  · subst h0
    have hx : propCells l = [] := List.eq_nil_of_length_eq_zero (by have := h.1; omega)
    rw [hx]
    clear h hx
    go_enter Tryz.func78, Tryz.ntmps78
    go_wp2_with fail
    go_ret
    exact ⟨none, rfl, ⟨by simp, .inl ⟨rfl, rfl⟩⟩, Below.refl _ _, fun _ => rfl⟩
  · obtain ⟨i0, hi0, hz0, hz1, hz2⟩ := info_parts propInfo
    obtain ⟨cur, hcs, hmk⟩ := make_rows 38 94 i0 _ 2 32 Tryz.underlying38 hi0 hz0 hz1 hz2 rfl n hl (by omega)
    have h' := h.mono (Nat.le_refl lo) hh
    have d0 : ((n : Int) == 0) = false := by rw [beq_eq_false_iff_ne]; omega
    have hcp := fun ty => run_copy_all (P := Tryz.prog) (w.alloc (.cells cur 94)) 38 38 ty 94 i0 2 Tryz.underlying38 hi0 hz1 w.heap.size n n 0 A c cur 94 (Blk.new w 94 cur) hcs lo w.heap.size (propCells l) (h'.keep (fun b o hb => (below_more (Below.refl _ _) _).cell (p := ⟨b, o, none⟩) hb)) (by omega) (propCells_one l)
    have hof : ((w.alloc (.cells cur 94)).setRow w.heap.size (propCells l).toArray).ownsRow w.heap.size 94 2 (.slice (some ⟨w.heap.size, 0, none⟩) n n) n (propCells l) := own_filled (w := w) (Blk.new w 94 cur) (Nat.le_refl _) (Nat.le_trans hnc (by unfold maxLen; omega)) h.1
    have hbl : Below w.heap.size w ((w.alloc (.cells cur 94)).setRow w.heap.size (propCells l).toArray) := below_setRow (below_more (Below.refl _ _) _) (Nat.le_refl _) _
    generalize (w.alloc (.cells cur 94)).setRow w.heap.size (propCells l).toArray = X at hcp hof hbl
    have HO := Lib.hid hof
    have HB := Lib.hid hbl
    have HN0 := Lib.hid h0
    clear h h' h0 hof hbl hcs
    go_enter Tryz.func78, Tryz.ntmps78
    go_wp2_with fail
    go_ret
    exact ⟨some ⟨w.heap.size, 0, none⟩, rfl, HO.out, HB.out, fun e => absurd e HN0.out⟩
set_option maxHeartbeats 1600000 in
theorem ownKids_tight (w : World) (lo hi : Nat) (A : Option Addr) (n c : Nat) (l : List Int) (h : Row w lo hi 1 A n c (intCells l)) (hh : hi ≤ w.heap.size) (hl : n * 8 ≤ 140737488355328) :
    Calls Tryz.prog 79 #[.slice A n c] w fun e w' => ∃ A', e = .returned (.slice A' n n) ∧ w'.ownsRow w.heap.size 3 1 (.slice A' n n) n (intCells l) ∧ Below w.heap.size w w' ∧ (n = 0 → A' = none) := by
  have hc := h.2.2.1
  have hnc := h.2.1
  unfold maxLen at hc
  by_cases h0 : n = 0
  · subst h0
    have hx : intCells l = [] := List.eq_nil_of_length_eq_zero (by have := h.1; omega)
    rw [hx]
    clear h hx
    go_enter Tryz.func79, Tryz.ntmps79
    go_wp2_with fail
    go_ret
    exact ⟨none, rfl, ⟨by simp, .inl ⟨rfl, rfl⟩⟩, Below.refl _ _, fun _ => rfl⟩
  · obtain ⟨i0, hi0, hz0, hz1, hz2⟩ := info_parts intInfo
    obtain ⟨cur, hcs, hmk⟩ := make_rows 33 3 i0 _ 1 8 Tryz.underlying33 hi0 hz0 hz1 hz2 rfl n hl (by omega)
    have h' := h.mono (Nat.le_refl lo) hh
    have d0 : ((n : Int) == 0) = false := by rw [beq_eq_false_iff_ne]; omega
    have hcp := fun ty => run_copy_all (P := Tryz.prog) (w.alloc (.cells cur 3)) 33 33 ty 3 i0 1 Tryz.underlying33 hi0 hz1 w.heap.size n n 0 A c cur 3 (Blk.new w 3 cur) hcs lo w.heap.size (intCells l) (h'.keep (fun b o hb => (below_more (Below.refl _ _) _).cell (p := ⟨b, o, none⟩) hb)) (by omega) (intCells_one l)
    have hof : ((w.alloc (.cells cur 3)).setRow w.heap.size (intCells l).toArray).ownsRow w.heap.size 3 1 (.slice (some ⟨w.heap.size, 0, none⟩) n n) n (intCells l) := own_filled (w := w) (Blk.new w 3 cur) (Nat.le_refl _) (Nat.le_trans hnc (by unfold maxLen; omega)) h.1
    have hbl : Below w.heap.size w ((w.alloc (.cells cur 3)).setRow w.heap.size (intCells l).toArray) := below_setRow (below_more (Below.refl _ _) _) (Nat.le_refl _) _
    generalize (w.alloc (.cells cur 3)).setRow w.heap.size (intCells l).toArray = X at hcp hof hbl
    have HO := Lib.hid hof
    have HB := Lib.hid hbl
    have HN0 := Lib.hid h0
    clear h h' h0 hof hbl hcs
    go_enter Tryz.func79, Tryz.ntmps79
    go_wp2_with fail
    go_ret
    exact ⟨some ⟨w.heap.size, 0, none⟩, rfl, HO.out, HB.out, fun e => absurd e HN0.out⟩
set_option maxHeartbeats 1600000 in
theorem ownRefs_tight (w : World) (lo hi : Nat) (A : Option Addr) (n c : Nat) (l : List (ByteArray × Int)) (h : Row w lo hi 2 A n c (refCells l)) (hh : hi ≤ w.heap.size) (hl : n * 24 ≤ 140737488355328) :
    Calls Tryz.prog 80 #[.slice A n c] w fun e w' => ∃ A', e = .returned (.slice A' n n) ∧ w'.ownsRow w.heap.size 60 2 (.slice A' n n) n (refCells l) ∧ Below w.heap.size w w' ∧ (n = 0 → A' = none) := by
  have hc := h.2.2.1
  have hnc := h.2.1
  unfold maxLen at hc
  by_cases h0 : n = 0
  · subst h0
    have hx : refCells l = [] := List.eq_nil_of_length_eq_zero (by have := h.1; omega)
    rw [hx]
    clear h hx
    go_enter Tryz.func80, Tryz.ntmps80
    go_wp2_with fail
    go_ret
    exact ⟨none, rfl, ⟨by simp, .inl ⟨rfl, rfl⟩⟩, Below.refl _ _, fun _ => rfl⟩
  · obtain ⟨i0, hi0, hz0, hz1, hz2⟩ := info_parts refInfo
    obtain ⟨cur, hcs, hmk⟩ := make_rows 39 60 i0 _ 2 24 Tryz.underlying39 hi0 hz0 hz1 hz2 rfl n hl (by omega)
    have h' := h.mono (Nat.le_refl lo) hh
    have d0 : ((n : Int) == 0) = false := by rw [beq_eq_false_iff_ne]; omega
    have hcp := fun ty => run_copy_all (P := Tryz.prog) (w.alloc (.cells cur 60)) 39 39 ty 60 i0 2 Tryz.underlying39 hi0 hz1 w.heap.size n n 0 A c cur 60 (Blk.new w 60 cur) hcs lo w.heap.size (refCells l) (h'.keep (fun b o hb => (below_more (Below.refl _ _) _).cell (p := ⟨b, o, none⟩) hb)) (by omega) (refCells_one l)
    have hof : ((w.alloc (.cells cur 60)).setRow w.heap.size (refCells l).toArray).ownsRow w.heap.size 60 2 (.slice (some ⟨w.heap.size, 0, none⟩) n n) n (refCells l) := own_filled (w := w) (Blk.new w 60 cur) (Nat.le_refl _) (Nat.le_trans hnc (by unfold maxLen; omega)) h.1
    have hbl : Below w.heap.size w ((w.alloc (.cells cur 60)).setRow w.heap.size (refCells l).toArray) := below_setRow (below_more (Below.refl _ _) _) (Nat.le_refl _) _
    generalize (w.alloc (.cells cur 60)).setRow w.heap.size (refCells l).toArray = X at hcp hof hbl
    have HO := Lib.hid hof
    have HB := Lib.hid hbl
    have HN0 := Lib.hid h0
    clear h h' h0 hof hbl hcs
    go_enter Tryz.func80, Tryz.ntmps80
    go_wp2_with fail
    go_ret
    exact ⟨some ⟨w.heap.size, 0, none⟩, rfl, HO.out, HB.out, fun e => absurd e HN0.out⟩
set_option maxRecDepth 100000 in
set_option maxHeartbeats 3200000 in
theorem ownNode_tight (w : World) (hi : Nat) (nd : Nd) (L : Leaf) (h : LeafIn w 0 hi nd L) (hh : hi ≤ w.heap.size) (hf : Fits 1 nd) :
    Calls Tryz.prog 41 #[.agg #[.int .i64 nd.id, .string nd.con, .int .i64 nd.par, .string nd.role, .slice L.p.A L.p.n L.p.c, .slice L.k.A L.k.n L.k.c, .slice L.r.A L.r.n L.r.c]] w fun e w' => ∃ M : Leaf, e = .returned (.agg #[.int .i64 nd.id, .string nd.con, .int .i64 nd.par, .string nd.role, .slice M.p.A M.p.n M.p.c, .slice M.k.A M.k.n M.k.c, .slice M.r.A M.r.n M.r.c]) ∧ OwnLeaf w' w.heap.size nd M ∧ Below w.heap.size w w' ∧ Tight M := by
  obtain ⟨⟨Ap, np, cp⟩, ⟨Ak, nk, ck⟩, ⟨Ar, nr, cr⟩⟩ := L
  obtain ⟨f1, f2, f3, f4, f5, f6, f7⟩ := h
  simp only at f1 f2 f3 f4 f5 f6
  have g1 := hf.p
  have g2 := hf.k
  have g3 := hf.r
  have hBx0 : Blk ((w.alloc (.cells #[.int .i64 nd.id, .string nd.con, .int .i64 nd.par, .string nd.role, .slice Ap np cp, .slice Ak nk ck, .slice Ar nr cr] 41)).alloc (.cells #[.int .i64 0, .string ⟨#[]⟩, .int .i64 0, .string ⟨#[]⟩, .slice none 0 0, .slice none 0 0, .slice none 0 0] 41)) w.heap.size 41 #[.int .i64 nd.id, .string nd.con, .int .i64 nd.par, .string nd.role, .slice Ap np cp, .slice Ak nk ck, .slice Ar nr cr] := (Blk.new w _ _).alloc _
  have hBz0 : Blk ((w.alloc (.cells #[.int .i64 nd.id, .string nd.con, .int .i64 nd.par, .string nd.role, .slice Ap np cp, .slice Ak nk ck, .slice Ar nr cr] 41)).alloc (.cells #[.int .i64 0, .string ⟨#[]⟩, .int .i64 0, .string ⟨#[]⟩, .slice none 0 0, .slice none 0 0, .slice none 0 0] 41)) (w.heap.size + 1) 41 #[.int .i64 0, .string ⟨#[]⟩, .int .i64 0, .string ⟨#[]⟩, .slice none 0 0, .slice none 0 0, .slice none 0 0] := Blk.new' (by simp)
  have hbw0 : Below w.heap.size w ((w.alloc (.cells #[.int .i64 nd.id, .string nd.con, .int .i64 nd.par, .string nd.role, .slice Ap np cp, .slice Ak nk ck, .slice Ar nr cr] 41)).alloc (.cells #[.int .i64 0, .string ⟨#[]⟩, .int .i64 0, .string ⟨#[]⟩, .slice none 0 0, .slice none 0 0, .slice none 0 0] 41)) := below_more (below_more (Below.refl _ _) _) _
  have HBx1 := Lib.hid hBx0
  have HBz1 := Lib.hid hBz0
  have HBW1 := Lib.hid hbw0
  clear hBx0 hBz0 hbw0
  have HF1 := Lib.hid f1
  have HF2 := Lib.hid f2
  have HF3 := Lib.hid f3
  have b1 : np * 32 ≤ 140737488355328 := by omega
  have b2 : nk * 8 ≤ 140737488355328 := by omega
  have b3 : nr * 24 ≤ 140737488355328 := by omega
  clear f1 f2 f3
  go_enter Tryz.func41, Tryz.ntmps41
  go_upto_region 1 with (fail)
  generalize ((w.alloc (.cells #[.int .i64 nd.id, .string nd.con, .int .i64 nd.par, .string nd.role, .slice Ap np cp, .slice Ak nk ck, .slice Ar nr cr] 41)).alloc (.cells #[.int .i64 0, .string ⟨#[]⟩, .int .i64 0, .string ⟨#[]⟩, .slice none 0 0, .slice none 0 0, .slice none 0 0] 41)) = W2 at HBx1 HBz1 HBW1 ⊢
  have HBx := HBx1
  have HBz := HBz1
  have HBw := HBW1
  clear HBx1 HBz1 HBW1
  have HSof : Hid (∀ X, Below W2.heap.size W2 X → Below W2.heap.size W2 X ∧ X.cell? ⟨w.heap.size, 4, none⟩ = some (.slice Ap np cp) ∧ X.cell? ⟨w.heap.size, 5, none⟩ = some (.slice Ak nk ck) ∧ X.cell? ⟨w.heap.size, 6, none⟩ = some (.slice Ar nr cr)) := Lib.hid fun X hb => ⟨hb, (hb.cell (p := ⟨_, _, none⟩) HBx.out.lt).trans ((HBx.out.cell 4).trans rfl), (hb.cell (p := ⟨_, _, none⟩) HBx.out.lt).trans ((HBx.out.cell 5).trans rfl), (hb.cell (p := ⟨_, _, none⟩) HBx.out.lt).trans ((HBx.out.cell 6).trans rfl)⟩
  have HCp := Lib.hid fun (X : World) (hb : Below W2.heap.size W2 X) => ownProps_tight X 0 hi Ap np cp nd.props (f4.below ((HBw.out.trans (hb.mono HBw.out.size)).mono hh)) (Nat.le_trans hh (HBw.out.trans (hb.mono HBw.out.size)).size) (by omega)
  have HCk := Lib.hid fun (X : World) (hb : Below W2.heap.size W2 X) => ownKids_tight X 0 hi Ak nk ck nd.kids (f5.below ((HBw.out.trans (hb.mono HBw.out.size)).mono hh)) (Nat.le_trans hh (HBw.out.trans (hb.mono HBw.out.size)).size) (by omega)
  have HCr := Lib.hid fun (X : World) (hb : Below W2.heap.size W2 X) => ownRefs_tight X 0 hi Ar nr cr nd.refs (f6.below ((HBw.out.trans (hb.mono HBw.out.size)).mono hh)) (Nat.le_trans hh (HBw.out.trans (hb.mono HBw.out.size)).size) (by omega)
  have HSZ := Lib.hid f7
  have HBW := Lib.hid (Below.refl W2.heap.size W2)
  clear f4 f5 f6 f7 g1 g2 g3 hf b1 b2 b3
  refine wp_region_held_tail 10 (fun w' => Below W2.heap.size W2 w' ∧ w'.cell? ⟨w.heap.size, 4, none⟩ = some (.slice Ap np cp) ∧ w'.cell? ⟨w.heap.size, 5, none⟩ = some (.slice Ak nk ck) ∧ w'.cell? ⟨w.heap.size, 6, none⟩ = some (.slice Ar nr cr)) (by kernel_rfl) (by kernel_rfl) ?hSn (fun hHeld => ?qn0)
  case hSn => exact HSof.out _ (below_drew (Below.refl _ _))
  case qn0 =>
    replace HBW := Lib.hid (below_drew HBW.out)
    simp only [List.take_succ_cons, List.take_zero, List.drop_succ_cons, List.drop_zero]
    refine wpAnyH_take (i := 0) (v := (.pointer (some ⟨w.heap.size, 4, none⟩))) rfl (by kernel_rfl) (by kernel_rfl) (by kernel_rfl) (fun _ _ _ h => h) (Or.inl ⟨by rfl, ?yn_1⟩) (by assumption) ?qn_1
    case yn_1 => (intro w hSw; (try dsimp only at hSw); go_simp)
    case qn_1 =>
      (try simp only [Act.put]); (try simp only [List.setIfInBounds_toArray])
      refine wpAnyH_take (i := 1) (v := (.slice Ap np cp)) rfl (by kernel_rfl) (by kernel_rfl) (by kernel_rfl) (fun _ _ _ h => h) (Or.inl ⟨by rfl, ?yn_2⟩) (by assumption) ?qn_2
      case yn_2 => (intro w hSw; (try dsimp only at hSw); go_simp)
      case qn_2 =>
        (try simp only [Act.put]); (try simp only [List.setIfInBounds_toArray])
        refine wpAnyH_take (i := 3) (v := (.pointer (some ⟨w.heap.size, 5, none⟩))) rfl (by kernel_rfl) (by kernel_rfl) (by kernel_rfl) (fun _ _ _ h => h) (Or.inl ⟨by rfl, ?yn_3⟩) (by assumption) ?qn_3
        case yn_3 => (intro w hSw; (try dsimp only at hSw); go_simp)
        case qn_3 =>
          (try simp only [Act.put]); (try simp only [List.setIfInBounds_toArray])
          refine wpAnyH_take (i := 4) (v := (.slice Ak nk ck)) rfl (by kernel_rfl) (by kernel_rfl) (by kernel_rfl) (fun _ _ _ h => h) (Or.inl ⟨by rfl, ?yn_4⟩) (by assumption) ?qn_4
          case yn_4 => (intro w hSw; (try dsimp only at hSw); go_simp)
          case qn_4 =>
            (try simp only [Act.put]); (try simp only [List.setIfInBounds_toArray])
            refine wpAnyH_take (i := 6) (v := (.pointer (some ⟨w.heap.size, 6, none⟩))) rfl (by kernel_rfl) (by kernel_rfl) (by kernel_rfl) (fun _ _ _ h => h) (Or.inl ⟨by rfl, ?yn_5⟩) (by assumption) ?qn_5
            case yn_5 => (intro w hSw; (try dsimp only at hSw); go_simp)
            case qn_5 =>
              (try simp only [Act.put]); (try simp only [List.setIfInBounds_toArray])
              refine wpAnyH_take (i := 7) (v := (.slice Ar nr cr)) rfl (by kernel_rfl) (by kernel_rfl) (by kernel_rfl) (fun _ _ _ h => h) (Or.inl ⟨by rfl, ?yn_6⟩) (by assumption) ?qn_6
              case yn_6 => (intro w hSw; (try dsimp only at hSw); go_simp)
              case qn_6 =>
                (try simp only [Act.put]); (try simp only [List.setIfInBounds_toArray])
                refine wpAnyH_ready (rs := [2]) (by kernel_rfl) (by simp) ?_
                refine AllReadyH.cons rfl (fun K hK => ?sn_7) ?mn_7
                case sn_7 =>
                  (refine step_call _ (by rfl) 78 #[.slice Ap np cp] (by go_simp) (HCp.out _ HBW.out) ?_; rintro e Y1 ⟨A1, rfl, ho1, hb1, ht1⟩; have HT1 := Lib.hid ht1; clear ht1; have hz1 := HBW.out.size; refine ⟨_, rfl, ?_⟩; replace HBW := Lib.hid (HBW.out.trans (hb1.mono HBW.out.size)); have HP := Lib.hid (own_mono ho1 hz1); clear ho1 hb1)
                  refine hK.out _ _ ?kn_7 (fun hHeld => ?qn_7)
                  case kn_7 => ((try dsimp only); exact HSof.out _ HBW.out)
                  case qn_7 =>
                    clear hK K
                    (try simp only [Act.put]); (try simp only [List.setIfInBounds_toArray])
                    refine wpAnyH_take (i := 9) (v := (.pointer (some ⟨w.heap.size, 4, none⟩))) rfl (by kernel_rfl) (by kernel_rfl) (by kernel_rfl) (fun _ _ _ h => h) (Or.inl ⟨by rfl, ?yn_8⟩) (by assumption) ?qn_8
                    case yn_8 => (intro w hSw; (try dsimp only at hSw); go_simp)
                    case qn_8 =>
                      (try simp only [Act.put]); (try simp only [List.setIfInBounds_toArray])
                      refine wpAnyH_ready (rs := [5]) (by kernel_rfl) (by simp) ?_
                      refine AllReadyH.cons rfl (fun K hK => ?sn_9) ?mn_9
                      case sn_9 =>
                        (refine step_call _ (by rfl) 79 #[.slice Ak nk ck] (by go_simp) (HCk.out _ HBW.out) ?_; rintro e Y2 ⟨A2, rfl, ho2, hb2, ht2⟩; have HT2 := Lib.hid ht2; clear ht2; have hz2 := HBW.out.size; refine ⟨_, rfl, ?_⟩; replace HP := Lib.hid (own_after HP.out hb2); replace HBW := Lib.hid (HBW.out.trans (hb2.mono HBW.out.size)); have HK := Lib.hid (own_mono ho2 hz2); clear ho2 hb2)
                        refine hK.out _ _ ?kn_9 (fun hHeld => ?qn_9)
                        case kn_9 => ((try dsimp only); exact HSof.out _ HBW.out)
                        case qn_9 =>
                          clear hK K
                          (try simp only [Act.put]); (try simp only [List.setIfInBounds_toArray])
                          refine wpAnyH_ready (rs := [8]) (by kernel_rfl) (by simp) ?_
                          refine AllReadyH.cons rfl (fun K hK => ?sn_10) ?mn_10
                          case sn_10 =>
                            (refine step_call _ (by rfl) 80 #[.slice Ar nr cr] (by go_simp) (HCr.out _ HBW.out) ?_; rintro e Y3 ⟨A3, rfl, ho3, hb3, ht3⟩; have HT3 := Lib.hid ht3; clear ht3; have hz3 := HBW.out.size; refine ⟨_, rfl, ?_⟩; replace HP := Lib.hid (own_after HP.out hb3); replace HK := Lib.hid (own_after HK.out hb3); replace HBW := Lib.hid (HBW.out.trans (hb3.mono HBW.out.size)); have HR := Lib.hid (own_mono ho3 hz3); clear ho3 hb3)
                            refine hK.out _ _ ?kn_10 (fun hHeld => ?qn_10)
                            case kn_10 => ((try dsimp only); exact HSof.out _ HBW.out)
                            case qn_10 =>
                              clear hK K
                              (try simp only [Act.put]); (try simp only [List.setIfInBounds_toArray])
                              refine wpAnyH_done (by kernel_rfl) ?_ _
                              obtain ⟨hBe, he0, he1, he2⟩ := hHeld
                              show wpList _ _ _ _ _ _
                              have hb5 := HBx.out.after HBW.out
                              have hb6 := HBz.out.after HBW.out
                              have x0 := hb5.cell 0
                              have x1 := hb5.cell 1
                              have x2 := hb5.cell 2
                              have x3 := hb5.cell 3
                              have x4 := hb5.frozen 4
                              have x5 := hb5.frozen 5
                              have x6 := hb5.frozen 6
                              have z0 := hb6.cell 0
                              have z1 := hb6.cell 1
                              have z2 := hb6.cell 2
                              have z3 := hb6.cell 3
                              have z4 := hb6.cell 4
                              have z5 := hb6.cell 5
                              have z6 := hb6.cell 6
                              have y0 := hb6.frozen 0
                              have y1 := hb6.frozen 1
                              have y2 := hb6.frozen 2
                              have y3 := hb6.frozen 3
                              have y4 := hb6.frozen 4
                              have y5 := hb6.frozen 5
                              have y6 := hb6.frozen 6
                              simp at x0 x1 x2 x3 z0 z1 z2 z3 z4 z5 z6
                              have HB5 := Lib.hid hb5
                              have HB6 := Lib.hid hb6
                              clear hb5 hb6
                              go_wp2_with fail
                              (try rw [Exit.noGoto_ret])
                              (try simp only [Exit.inBlock, Exit.then])
                              have hres : Tryz.f41.results = #[.cell 2 41] := by kernel_rfl
                              refine bodyPost_ret (v := .agg #[.int .i64 nd.id, .string nd.con, .int .i64 nd.par, .string nd.role, .slice A1 np np, .slice A2 nk nk, .slice A3 nr nr]) ?hr rfl ?_
                              case hr =>
                                simp only [results, hres]
                                go_simp
                              have hle : w.heap.size ≤ W2.heap.size := HBw.out.size
                              have hR : NodeR w nd ⟨⟨A1, np, np⟩, ⟨A2, nk, nk⟩, ⟨A3, nr, nr⟩⟩ w.heap.size (w.heap.size + 1) Y3 := ⟨⟨HF1.out, HF2.out, HF3.out, own_mono HP.out hle, own_mono HK.out hle, own_mono HR.out hle, HSZ.out⟩, ⟨_, HB5.out⟩, ⟨_, HB6.out⟩, HBw.out.trans (HBW.out.mono hle)⟩
                              have hE := (((((((((hR.s5 (Nat.le_refl _) 4 (.slice A1 np np)).s5 (Nat.le_refl _) 5 (.slice A2 nk nk)).s5 (Nat.le_refl _) 6 (.slice A3 nr nr)).s6 (by omega) 0 (.int .i64 nd.id)).s6 (by omega) 1 (.string nd.con)).s6 (by omega) 2 (.int .i64 nd.par)).s6 (by omega) 3 (.string nd.role)).s6 (by omega) 4 (.slice A1 np np)).s6 (by omega) 5 (.slice A2 nk nk)).s6 (by omega) 6 (.slice A3 nr nr)
                              exact ⟨⟨⟨A1, np, np⟩, ⟨A2, nk, nk⟩, ⟨A3, nr, nr⟩⟩, rfl, hE.leaf, hE.bel, ⟨rfl, rfl, rfl, HT1.out, HT2.out, HT3.out⟩⟩
                          case mn_10 =>
                            exact AllReadyH.nil
                      case mn_9 =>
                        exact AllReadyH.nil
                case mn_7 =>
                  exact AllReadyH.nil
set_option maxRecDepth 100000 in
set_option maxHeartbeats 3200000 in
theorem own_dist (w : World) (hi : Nat) (next : Int) (A : Option Addr) (n c : Nat) (nds : List Nd) (h : NodesIn w 0 hi A n c nds) (hh : hi ≤ w.heap.size) (hn : n ≤ 4096) (hf : ∀ nd ∈ nds, Fits 1 nd) :
    Calls Tryz.prog 46 #[.agg #[.int .i64 next, .slice A n c]] w fun e w' => ∃ g l, e = .returned (.agg #[.int .i64 next, .slice (some ⟨g, 0, none⟩) n n]) ∧ OwnM w' w.heap.size (.slice (some ⟨g, 0, none⟩) n n) l ∧ l.map (·.1) = nds ∧ Dist l ∧ Below w.heap.size w w' := by
  have hc := h.2.2.1
  have hnc := h.2.1
  have HL := Lib.hid h.1
  unfold maxLen at hc
  obtain ⟨i0, hi0, hz0, hz1, hz2⟩ := info_parts nodeInfo
  obtain ⟨cur, hcs, hmk⟩ := make_rows 24 41 i0 _ 7 120 Tryz.underlying24 hi0 hz0 hz1 hz2 rfl n (by omega) (by omega)
  have HCS := Lib.hid hcs
  clear hcs hz0 hz1 hz2 hi0
  go_enter Tryz.func46, Tryz.ntmps46
  go_wp2_with fail
  go_loopw [4, 11] (fun i4 i wr => ∃ (k : Nat) (xs : List Value) (l : List (Nd × Leaf)), k ≤ n ∧ i = .int .i64 k ∧ Filling w next A n c k (w.heap.size + 1 + 1) xs l wr ∧ Hid (l.map (·.1) = nds.take k) ∧ Hid (Dist l)) (fun _ i _ => n - (intOf i).toNat)
  case atStart => exact ⟨0, cur.toList, [], Nat.zero_le _, rfl, filling_start w next A n c cur HCS.out (by unfold maxLen; omega), Lib.hid rfl, Lib.hid ⟨by simp, by simp⟩⟩
  case round =>
    obtain ⟨k, xs, l, hk, rfl, F, HT, HDi⟩ := hrel
    have c1 := F.md.cell 1
    simp at c1
    have hbel := F.bel
    have hwz := hbel.size
    have HF := Lib.hid F
    clear F
    by_cases hlt : k < n
    · obtain ⟨b, o, hA, _, hb, V, hV⟩ := h.all (by omega)
      obtain ⟨nd, hnd⟩ : ∃ nd, nds[k]? = some nd := ⟨nds[k]'(by have := HL.out; omega), List.getElem?_eq_getElem _⟩
      have hat := (hV k nd hnd).1.below hbel (by omega)
      have hlf := (hV k nd hnd).2.below (hbel.mono hh)
      have hfi := hf nd (List.mem_of_getElem? hnd)
      generalize V k = Lk at hat hlf
      subst hA
      have HON := Lib.hid (ownNode_tight wr hi nd Lk hlf (by omega) hfi)
      have HND := Lib.hid hnd
      obtain ⟨⟨Ap, np, cp⟩, ⟨Ak, nk, ck⟩, ⟨Ar, nr, cr⟩⟩ := Lk
      obtain ⟨a0, a1, a2, a3, a4, a5, a6⟩ := hat
      simp only at a4 a5 a6
      have hlk : l.length = k := by have := congrArg List.length HT.out; rw [List.length_map, List.length_take, HL.out] at this; omega
      have HLK := Lib.hid hlk
      clear hV hnd hfi hlf hlk
      go_wp2_with (go_at_call 41; go_must (refine HON.out.mono ?_; rintro e w2 ⟨⟨⟨A1, n1, k1⟩, ⟨A2, n2, k2⟩, ⟨A3, n3, k3⟩⟩, rfl, hl2, hb2, ht2⟩; have HD2 := Lib.hid (HDi.out.push (p := (nd, ⟨⟨A1, n1, k1⟩, ⟨A2, n2, k2⟩, ⟨A3, n3, k3⟩⟩)) (fun p hp => HF.out.leaf p hp) hl2 ht2); have hF2 := HF.out.after hb2; obtain ⟨⟨u0, r0, s0⟩, ⟨u1, r1, s1⟩, ⟨u2, r2, s2⟩, ⟨u3, r3, s3⟩, ⟨u4, r4, s4⟩, ⟨u5, r5, s5⟩, ⟨u6, r6, s6⟩⟩ := hF2.room hlt; have HF2 := Lib.hid hF2; have HL2 := Lib.hid (hl2.mono hwz); clear hF2 hl2 hb2))
      obtain ⟨xs', hF'⟩ := HF2.out.push (p := (nd, ⟨⟨A1, n1, k1⟩, ⟨A2, n2, k2⟩, ⟨A3, n3, k3⟩⟩)) hlt HLK.out HL2.out rfl
      exact ⟨⟨k + 1, xs', l ++ [(nd, ⟨⟨A1, n1, k1⟩, ⟨A2, n2, k2⟩, ⟨A3, n3, k3⟩⟩)], by omega, by simp, hF', Lib.hid (by rw [List.map_append, HT.out, List.take_add_one, HND.out]; rfl), HD2⟩, by simp only [intOf]; omega⟩
    · have hkn : k = n := by omega
      subst hkn
      have m0 := HF.out.md.cell 0
      have m1 := HF.out.md.frozen 1
      have t0 := HF.out.rs.cell 0
      have t1 := HF.out.rs.cell 1
      have t2 := HF.out.rs.frozen 0
      have t3 := HF.out.rs.frozen 1
      simp at m0 t0 t1
      have hnn : l.map (·.1) = nds := by rw [HT.out, List.take_of_length_le (by rw [HL.out]; omega)]
      have HNN := Lib.hid hnn
      have HLN : Hid (l.length = k) := Lib.hid (by have := congrArg List.length hnn; rw [List.length_map, HL.out] at this; exact this)
      clear h hf hnn
      go_wp2_with fail
      (try rw [Exit.noGoto_ret])
      (try simp only [Exit.inBlock, Exit.then])
      have hres : Tryz.f46.results = #[.cell 2 26] := by kernel_rfl
      refine bodyPost_ret (v := .agg #[.int .i64 next, .slice (some ⟨w.heap.size + 1 + 1, 0, none⟩) k k]) ?hr rfl ?_
      case hr =>
        simp only [results, hres]
        go_simp
      have hm : OwnM wr w.heap.size (.slice (some ⟨w.heap.size + 1 + 1, 0, none⟩) k k) l := HF.out.ownM HLN.out
      refine ⟨_, l, rfl, ?_, HNN.out, HDi.out, ?_⟩
      · exact ((hm.other HF.out.md 1 _).other (HF.out.rs.far (p := ⟨w.heap.size, 1, none⟩) (by simp) _) 0 _).other ((HF.out.rs.far (p := ⟨w.heap.size, 1, none⟩) (by simp) _).set_ 0 _) 1 _
      · exact ((HF.out.bel.setCell (p := ⟨w.heap.size, 1, none⟩) (by simp) _).setCell (p := ⟨w.heap.size + 1, 0, none⟩) (by simp) _).setCell (p := ⟨w.heap.size + 1, 1, none⟩) (by simp) _
end Go.Proofs.YtbkmdlfenbfdlaaGreat
namespace Go.Proofs.YtbkmdlfenbfdlaaGreat
open Go Go.RowKit Go.Sort
set_option linter.unusedVariables false
attribute [local go_sem ↓] Go.wp_at_zero Go.wp_at_succ
/-- the error of a name -/
def nameE (next : Int) (nds : List Nd) (name : ByteArray) : Int := if rightB next nds = true then (if wordB name = true then 0 else 2) else 29
set_option maxHeartbeats 800000 in
theorem nameable_any (w : World) (hi : Nat) (next : Int) (name : ByteArray) (A : Option Addr) (n c : Nat) (nds : List Nd) (h : NodesIn w 0 hi A n c nds) (hh : hi ≤ w.heap.size) (hs : name.size ≤ maxLen) :
    Calls Tryz.prog 61 #[.agg #[.int .i64 next, .slice A n c], .string name] w (Ret w (.int .i64 (nameE next nds name))) := by
  have HM0 := Lib.hid (M1.start w next A n c)
  have HCh := Lib.hid (check_any _ hi next A n c nds (h.below (HM0.out.bel.mono hh)) (Nat.le_trans hh HM0.out.bel.size))
  have a0 := (HM0.out.a.cell 0).trans (show _ = some (.int .i64 next) from rfl)
  have a1 := (HM0.out.a.cell 1).trans (show _ = some (.slice A n c) from rfl)
  cases hrt : rightB next nds with
  | false =>
    have HX : Hid (nameE next nds name = 29) := Lib.hid (by unfold nameE; rw [hrt]; rfl)
    have HV := Lib.hid (checkV_no hrt)
    clear hrt h hs
    go_enter Tryz.func61, Tryz.ntmps61
    go_wp2_with (go_at_call 12; go_must (refine HCh.out.mono ?_; rintro e w2 ⟨rfl, hb2⟩; rw [HV.out]; have HM2 := Lib.hid (HM0.out.after hb2); clear hb2))
    go_ret
    exact ret_i HX.out rfl HM2.out.bel
  | true =>
    have HV := Lib.hid (checkV_yes hrt)
    have HW : Hid (∀ X b, wordB name = b → Calls Tryz.prog 43 #[.string name] X (Says X b)) := Lib.hid fun X b hb => word_is name b X hs hb
    cases hw : wordB name with
    | false =>
      have HX : Hid (nameE next nds name = 2) := Lib.hid (by unfold nameE; rw [hrt, hw]; rfl)
      have HWW := Lib.hid hw
      clear hrt h hs hw
      go_enter Tryz.func61, Tryz.ntmps61
      go_wp2_with (first | (go_at_call 12; go_must (refine HCh.out.mono ?_; rintro e w2 ⟨rfl, hb2⟩; rw [HV.out]; have HM2 := Lib.hid (HM0.out.after hb2); clear hb2)) | (go_at_call 43; go_must (refine (HW.out _ _ HWW.out).mono ?_; rintro e w3 ⟨rfl, rfl⟩)))
      go_ret
      exact ret_i HX.out rfl HM2.out.bel
    | true =>
      have HX : Hid (nameE next nds name = 0) := Lib.hid (by unfold nameE; rw [hrt, hw]; rfl)
      have HWW := Lib.hid hw
      clear hrt h hs hw
      go_enter Tryz.func61, Tryz.ntmps61
      go_wp2_with (first | (go_at_call 12; go_must (refine HCh.out.mono ?_; rintro e w2 ⟨rfl, hb2⟩; rw [HV.out]; have HM2 := Lib.hid (HM0.out.after hb2); clear hb2)) | (go_at_call 43; go_must (refine (HW.out _ _ HWW.out).mono ?_; rintro e w3 ⟨rfl, rfl⟩)))
      go_ret
      exact ret_i HX.out rfl HM2.out.bel
/-- the boxes of a model, and of what is answered -/
structure CB (w : World) (next : Int) (A : Option Addr) (n c : Nat) (X : World) : Prop where
  m : Blk X w.heap.size 26 #[.int .i64 next, .slice A n c]
  r : Blk X (w.heap.size + 1) 26 #[.int .i64 0, .slice none 0 0]
  bel : Below w.heap.size w X
section
variable {w X X' : World} {next : Int} {A : Option Addr} {n c : Nat}
theorem CB.start (w : World) (next : Int) (A : Option Addr) (n c : Nat) : CB w next A n c ((w.alloc (.cells #[.int .i64 next, .slice A n c] 26)).alloc (.cells #[.int .i64 0, .slice none 0 0] 26)) :=
  ⟨(Blk.new _ _ _).alloc _, Blk.new' (by simp), below_more (below_more (Below.refl _ _) _) _⟩
theorem CB.after (h : CB w next A n c X) (hb : Below X.heap.size X X') : CB w next A n c X' := ⟨h.m.after hb, h.r.after hb, h.bel.trans (hb.mono h.bel.size)⟩
theorem CB.m1 (h : CB w next A n c X) : M1 w next A n c X := ⟨h.m, h.bel⟩
theorem CB.lay (h : CB w next A n c X) (u v : Value) : Below w.heap.size w ((X.setCell ⟨w.heap.size + 1, 0, none⟩ u).setCell ⟨w.heap.size + 1, 1, none⟩ v) :=
  (h.bel.setCell (p := ⟨w.heap.size + 1, 0, none⟩) (by simp) u).setCell (p := ⟨w.heap.size + 1, 1, none⟩) (by simp) v
end
/-- what is done to one node of a list of the call's own -/
def Change (w : World) (n : Nat) (F : FuncId) (caps : Array Value) (nd nd' : Nd) : Prop :=
  ∀ (X : World) (g i : Nat) (l : List (Nd × Leaf)) (p : Nd × Leaf), OwnM X w.heap.size (.slice (some ⟨g, 0, none⟩) n n) l → Dist l → l.length = n → l[i]? = some p → p.1 = nd → Below w.heap.size w X →
    Calls Tryz.prog F (#[.pointer (some ⟨g, i * 7, none⟩)] ++ caps) X fun e X' => e = .returned (.tuple #[]) ∧ ∃ l', OwnM X' w.heap.size (.slice (some ⟨g, 0, none⟩) n n) l' ∧ l'.map (·.1) = (l.map (·.1)).set i nd' ∧ Below w.heap.size w X' ∧ ∀ gb cs, Blk X gb 26 cs → Blk X' gb 26 cs
/-- the error that is told -/
def chE (told : Int) (nds : List Nd) (id : Int) : Int := if told ≠ 0 then told else if (ixOf nds id).isSome = true then 0 else 20
set_option maxRecDepth 20000 in
set_option maxHeartbeats 3200000 in
theorem changed_no (w : World) (hi : Nat) (next id told : Int) (A : Option Addr) (n c : Nat) (F : FuncId) (caps : Array Value) (h0 : told ≠ 0) :
    Calls Tryz.prog 62 #[.agg #[.int .i64 next, .slice A n c], .int .i64 id, .int .i64 told, .func (.func F) #[] caps] w fun e w' => e = .returned (.tuple #[.agg #[.int .i64 0, .slice none 0 0], .int .i64 told]) ∧ Below w.heap.size w w' := by
  have HM0 := Lib.hid (CB.start w next A n c)
  have d0 : (told != 0) = true := by rw [bne_iff_ne]; exact h0
  clear h0
  go_enter Tryz.func62, Tryz.ntmps62
  go_wp2_with fail
  (try rw [Exit.noGoto_ret])
  (try simp only [Exit.inBlock, Exit.then])
  have hres : Tryz.f62.results = #[.cell 8 26, .tmp 9] := by kernel_rfl
  refine bodyPost_ret (v := .tuple #[.agg #[.int .i64 0, .slice none 0 0], .int .i64 told]) ?hr rfl ?_
  case hr =>
    simp only [results, hres]
    go_simp
  exact ⟨rfl, HM0.out.bel⟩
end Go.Proofs.YtbkmdlfenbfdlaaGreat

/-
  WALKS: properties and references are set and taken away as the document says.
  A MODEL AS AN ARGUMENT: what the reading of it tells of the cells, and how long its lists are.
-/
import Derived.Test.YteccblmdfjbljaaZ17
import Derived.Test.YteccblmdfjbljaaRows
import Derived.Deep.Slices
import Derived.Deep.SlicePairs
import Derived.Deep.Fields
import Derived.ChangeSame
import Derived.ChangeSlices
import Derived.Lib.SmallJoins
import Derived.Carry
namespace Go.Proofs.Yteccblmdfjbljaa
open Go Go.RowKit Go.Sort
set_option linter.unusedVariables false
attribute [local go_sem ↓] Go.wp_at_zero Go.wp_at_succ
theorem LentAt.other' {w : World} {B n c : Nat} {A : Option Addr} {nds : List Nd} {l : List (Nd × Leaf)} (h : LentAt w B A n c nds l) {g : Nat} {cs : Array Value} (hg : Blk w g 24 cs) (i : Nat) (u : Value) : LentAt (w.setCell ⟨g, i, none⟩ u) B A n c nds l :=
  ⟨h.nds_, h.len, fun p hp => (h.leaf p hp).other hg (by decide) (by decide) (by decide) i u, h.some_, own_other h.own hg (by decide) i u, h.le, h.max⟩
/-- the argument's box, what was lent, the boxes of models, the models of the call's own -/
structure AW (w : World) (next : Int) (A : Option Addr) (n c : Nat) (nds : List Nd) (A1 : Option Addr) (c1 B : Nat) (l : List (Nd × Leaf)) (bs : List (Nat × Int × Sl)) (os : List (Nat × Sl × List (Nd × Leaf))) (X : World) : Prop where
  m : M1 w next A n c X
  L : LentAt X B A1 n c1 nds l
  up : ∀ q ∈ bs, w.heap.size < q.1
  b : ∀ q ∈ bs, Blk X q.1 24 #[.int .i64 q.2.1, .slice q.2.2.A q.2.2.n q.2.2.c]
  ne : (bs.map (·.1)).Nodup
  o : ∀ q ∈ os, OwnM X q.1 (.slice q.2.1.A q.2.1.n q.2.1.c) q.2.2 ∧ q.2.2.length = q.2.1.n
section
variable {w X X' : World} {next : Int} {A A1 : Option Addr} {n c c1 B : Nat} {nds : List Nd} {l : List (Nd × Leaf)} {bs : List (Nat × Int × Sl)} {os : List (Nat × Sl × List (Nd × Leaf))}
theorem AW.start (hm : M1 w next A n c X) (hl : LentAt X B A1 n c1 nds l) : AW w next A n c nds A1 c1 B l [] [] X := ⟨hm, hl, by simp, by simp, by simp, by simp⟩
theorem AW.after (h : AW w next A n c nds A1 c1 B l bs os X) (hb : Below X.heap.size X X') : AW w next A n c nds A1 c1 B l bs os X' :=
  ⟨h.m.after hb, h.L.after hb, h.up, fun q hq => (h.b q hq).after hb, h.ne, fun q hq => ⟨(h.o q hq).1.after hb, (h.o q hq).2⟩⟩
theorem AW.own (h : AW w next A n c nds A1 c1 B l bs os X) {B' m' c' : Nat} {A' : Option Addr} {l' : List (Nd × Leaf)} (ho : OwnM X B' (.slice A' m' c') l') (hl : l'.length = m') : AW w next A n c nds A1 c1 B l bs (os ++ [(B', ⟨A', m', c'⟩, l')]) X :=
  ⟨h.m, h.L, h.up, h.b, h.ne, fun q hq => by
    rcases List.mem_append.1 hq with hq | hq
    · exact h.o q hq
    · obtain rfl : q = (B', ⟨A', m', c'⟩, l') := by simpa using hq
      exact ⟨ho, hl⟩⟩
theorem AW.more (h : AW w next A n c nds A1 c1 B l bs os X) (x : Int) (A' : Option Addr) (m' c' : Nat) : AW w next A n c nds A1 c1 B l (bs ++ [(X.heap.size, x, ⟨A', m', c'⟩)]) os (X.alloc (.cells #[.int .i64 x, .slice A' m' c'] 24)) := by
  have ha := h.after (below_more (Below.refl _ _) (.cells #[.int .i64 x, .slice A' m' c'] 24))
  refine ⟨ha.m, ha.L, fun q hq => ?_, fun q hq => ?_, ?_, ha.o⟩
  · rcases List.mem_append.1 hq with hq | hq
    · exact h.up q hq
    · obtain rfl : q = (X.heap.size, x, ⟨A', m', c'⟩) := by simpa using hq
      exact h.m.a.lt
  · rcases List.mem_append.1 hq with hq | hq
    · exact ha.b q hq
    · obtain rfl : q = (X.heap.size, x, ⟨A', m', c'⟩) := by simpa using hq
      exact Blk.new _ _ _
  · rw [List.map_append, List.nodup_append]
    refine ⟨h.ne, by simp, fun a ha' b hb => ?_⟩
    obtain ⟨q, hq, rfl⟩ := List.mem_map.1 ha'
    obtain rfl : b = X.heap.size := by simpa using hb
    exact Nat.ne_of_lt (h.b q hq).lt
theorem AW.set {pre post : List (Nat × Int × Sl)} {g : Nat} {x : Int} {s : Sl} (h : AW w next A n c nds A1 c1 B l (pre ++ (g, x, s) :: post) os X) (x' : Int) (A' : Option Addr) (m' c' : Nat) :
    AW w next A n c nds A1 c1 B l (pre ++ (g, x', ⟨A', m', c'⟩) :: post) os ((X.setCell ⟨g, 0, none⟩ (.int .i64 x')).setCell ⟨g, 1, none⟩ (.slice A' m' c')) := by
  have hb := h.b (g, x, s) (by simp)
  have hu := h.up (g, x, s) (by simp)
  simp only at hb hu
  have hnd := h.ne
  rw [List.map_append, List.nodup_append] at hnd
  obtain ⟨n1, n2, n3⟩ := hnd
  rw [List.map_cons, List.nodup_cons] at n2
  refine ⟨⟨(h.m.a.far (p := ⟨g, 0, none⟩) (Nat.ne_of_lt hu) _).far (p := ⟨g, 1, none⟩) (Nat.ne_of_lt hu) _, (h.m.bel.setCell (p := ⟨g, 0, none⟩) (Nat.le_of_lt hu) _).setCell (p := ⟨g, 1, none⟩) (Nat.le_of_lt hu) _⟩, (h.L.other' hb 0 _).other' (hb.set_ 0 _) 1 _, fun q hq => ?_, fun q hq => ?_, ?_, fun q hq => ⟨((h.o q hq).1.other hb 0 _).other (hb.set_ 0 _) 1 _, (h.o q hq).2⟩⟩
  · rcases List.mem_append.1 hq with hq | hq
    · exact h.up q (by simp [hq])
    · rcases List.mem_cons.1 hq with rfl | hq
      · exact hu
      · exact h.up q (by simp [hq])
  · have far : ∀ q : Nat × Int × Sl, q ∈ pre ++ (g, x, s) :: post → q.1 ≠ g → Blk ((X.setCell ⟨g, 0, none⟩ (.int .i64 x')).setCell ⟨g, 1, none⟩ (.slice A' m' c')) q.1 24 #[.int .i64 q.2.1, .slice q.2.2.A q.2.2.n q.2.2.c] := fun q hq hne => ((h.b q hq).far (p := ⟨g, 0, none⟩) hne _).far (p := ⟨g, 1, none⟩) hne _
    rcases List.mem_append.1 hq with hq | hq
    · exact far q (by simp [hq]) (n3 q.1 (List.mem_map_of_mem hq) g (by simp))
    · rcases List.mem_cons.1 hq with rfl | hq
      · simpa using (hb.set_ 0 (.int .i64 x')).set_ 1 (.slice A' m' c')
      · exact far q (by simp [hq]) (fun e => n2.1 (by show g ∈ _; rw [← e]; exact List.mem_map_of_mem (f := fun z : Nat × Int × Sl => z.1) hq))
  · have := h.ne
    simpa using this
/-- a result of the call's own -/
def SetOwn (w : World) (r : Int × Int × List Nd) (e : Ending) (w' : World) : Prop :=
  ∃ (A : Option Addr) (m c : Nat) (l : List (Nd × Leaf)), e = .returned (.tuple #[.agg #[.int .i64 r.1, .slice A m c], .int .i64 r.2.1]) ∧ OwnM w' w.heap.size (.slice A m c) l ∧ l.length = m ∧ l.map (·.1) = r.2.2 ∧ Below w.heap.size w w'
theorem set_own {w w' : World} {next er : Int} {nds' : List Nd} {e : Ending} (h : SetPost w next er nds' e w') : SetOwn w (setR next er nds') e w' := by
  obtain ⟨nx, A, n, c, he, hb, h1, h2⟩ := h
  unfold setR
  by_cases h0 : er = 0
  · rw [if_pos h0]
    obtain ⟨rfl, l, ho, hl, hm⟩ := h2 h0
    subst h0
    exact ⟨A, n, c, l, he, ho, hl, hm, hb⟩
  · rw [if_neg h0]
    obtain ⟨rfl, rfl, rfl, rfl⟩ := h1 h0
    exact ⟨none, 0, 0, [], he, ⟨by unfold OwnN; exact ⟨by simp [allCells], .inl ⟨rfl, rfl⟩⟩, by simp⟩, rfl, rfl, hb⟩
end
set_option maxRecDepth 100000 in
set_option maxHeartbeats 3200000 in
theorem sets_any (w : World) (hi : Nat) (next id target : Int) (name val : ByteArray) (A : Option Addr) (n c : Nat) (nds : List Nd) (h : NodesIn w 0 hi A n c nds) (hh : hi ≤ w.heap.size) (hsn : name.size ≤ maxLen) (hsv : val.size ≤ maxLen) (hf : ∀ nd ∈ nds, Fits 1 nd) :
    Calls Try.prog 4 #[.agg #[.int .i64 next, .slice A n c], .int .i64 id, .string name, .string val, .int .i64 target] w (Ret w (.bool true)) := by
  have hc := h.2.2.1
  have hnc := h.2.1
  have HM0 := Lib.hid (M1.start w next A n c)
  by_cases hg : 300 < n
  · have HG : Hid (∀ X, Calls Try.prog 7 #[.agg #[.int .i64 next, .slice A n c]] X (Ret X (.bool true))) := Lib.hid fun X => great_any X next A n c hc hnc true (by rw [decide_eq_true_eq]; omega)
    clear h hf hc hnc hg
    go_enter Try.func4, Try.ntmps4
    go_wp2_with (go_at_call 7; go_must (refine (HG.out _).mono ?_; rintro e w1 ⟨rfl, hb1⟩; have HM1 := Lib.hid (HM0.out.after hb1); clear hb1))
    go_ret
    exact ret_b rfl rfl HM1.out.bel
  · have HG : Hid (∀ X, Calls Try.prog 7 #[.agg #[.int .i64 next, .slice A n c]] X (Ret X (.bool false))) := Lib.hid fun X => great_any X next A n c hc hnc false (by rw [decide_eq_false_iff_not]; omega)
    have HLe : Hid (∀ X, Below w.heap.size w X → Calls Try.prog 8 #[.agg #[.int .i64 next, .slice A n c]] X fun e w' => ∃ A1 c1 l, e = .returned (.agg #[.int .i64 next, .slice A1 n c1]) ∧ Below X.heap.size X w' ∧ LentAt w' X.heap.size A1 n c1 nds l) := Lib.hid fun X hX => lent_any X hi next A n c nds (h.below (hX.mono hh)) (Nat.le_trans hh hX.size) (by omega) hf
    have lent_in : ∀ {X A1 c1 l B}, LentAt X B A1 n c1 nds l → NodesIn X 0 X.heap.size A1 n c1 nds := fun hl => hl.nodesIn.mono (Nat.zero_le _) (Nat.le_refl _)
    have hrr : rightB next nds = true → Rise nds ∧ n ≤ 4096 ∧ (∀ nd ∈ nds, Fits 1 nd) ∧ ∀ nd ∈ nds, SortS (nd.props.map (·.1)) := fun hrt => ⟨(rightM hrt).rise, by omega, hf, fun nd hnd => (right_sorts hrt nd hnd).1⟩
    have hrr2 : rightB next nds = true → Rise nds ∧ n ≤ 4096 ∧ (∀ nd ∈ nds, Fits 1 nd) ∧ ∀ nd ∈ nds, SortS (nd.refs.map (·.1)) := fun hrt => ⟨(rightM hrt).rise, by omega, hf, fun nd hnd => (right_sorts hrt nd hnd).2⟩
    obtain ⟨RP, hRP⟩ : ∃ R, setR next (chE (putE next nds name val) nds id) (chL nds id (fun nd => putN nd name val)) = R := ⟨_, rfl⟩
    have HPP : Hid (∀ X A1 c1 l B, LentAt X B A1 n c1 nds l → Calls Try.prog 17 #[.agg #[.int .i64 next, .slice A1 n c1], .int .i64 id, .string name, .string val] X (SetOwn X RP)) := Lib.hid fun X A1 c1 l B hl => (put_any X X.heap.size next id A1 n c1 nds name val hsv (lent_in hl) (Nat.le_refl _) hsn hrr).mono fun e w' he => hRP ▸ set_own he
    have HRP : Hid (∀ X, Below w.heap.size w X → Calls Try.prog 18 #[.agg #[.int .i64 next, .slice A n c], .int .i64 id, .string name, .string val] X (SetOwn X RP)) := Lib.hid fun X hX => (refPut_any' X hi next id A n c nds name (h.below (hX.mono hh)) (Nat.le_trans hh hX.size) hsn hf val).mono fun e w' he => hRP ▸ set_own he
    clear hRP
    obtain ⟨RD, hRD⟩ : ∃ R, setR next (chE (nameE next nds name) nds id) (chL nds id (fun nd => dropN nd name)) = R := ⟨_, rfl⟩
    have HPD : Hid (∀ X A1 c1 l B, LentAt X B A1 n c1 nds l → Calls Try.prog 19 #[.agg #[.int .i64 next, .slice A1 n c1], .int .i64 id, .string name] X (SetOwn X RD)) := Lib.hid fun X A1 c1 l B hl => (drop_any X X.heap.size next id A1 n c1 nds name (lent_in hl) (Nat.le_refl _) hsn hrr).mono fun e w' he => hRD ▸ set_own he
    have HRD : Hid (∀ X, Below w.heap.size w X → Calls Try.prog 20 #[.agg #[.int .i64 next, .slice A n c], .int .i64 id, .string name] X (SetOwn X RD)) := Lib.hid fun X hX => (refDrop_any X hi next id A n c nds name (h.below (hX.mono hh)) (Nat.le_trans hh hX.size) hsn hf).mono fun e w' he => hRD ▸ set_own he
    clear hRD
    obtain ⟨RI, hRI⟩ : ∃ R, setR next (chE (aimE next nds name target) nds id) (chL nds id (fun nd => aimN nd name target)) = R := ⟨_, rfl⟩
    have HPI : Hid (∀ X A1 c1 l B, LentAt X B A1 n c1 nds l → Calls Try.prog 21 #[.agg #[.int .i64 next, .slice A1 n c1], .int .i64 id, .string name, .int .i64 target] X (SetOwn X RI)) := Lib.hid fun X A1 c1 l B hl => (aim_any X X.heap.size next id A1 n c1 nds name target (lent_in hl) (Nat.le_refl _) hsn hrr2).mono fun e w' he => hRI ▸ set_own he
    have HRI : Hid (∀ X, Below w.heap.size w X → Calls Try.prog 22 #[.agg #[.int .i64 next, .slice A n c], .int .i64 id, .string name, .int .i64 target] X (SetOwn X RI)) := Lib.hid fun X hX => (refAim_any' X hi next id A n c nds name (h.below (hX.mono hh)) (Nat.le_trans hh hX.size) hsn hf target).mono fun e w' he => hRI ▸ set_own he
    clear hRI
    obtain ⟨RL, hRL⟩ : ∃ R, setR next (chE (nameE next nds name) nds id) (chL nds id (fun nd => looseN nd name)) = R := ⟨_, rfl⟩
    have HPL : Hid (∀ X A1 c1 l B, LentAt X B A1 n c1 nds l → Calls Try.prog 23 #[.agg #[.int .i64 next, .slice A1 n c1], .int .i64 id, .string name] X (SetOwn X RL)) := Lib.hid fun X A1 c1 l B hl => (loose_any X X.heap.size next id A1 n c1 nds name (lent_in hl) (Nat.le_refl _) hsn hrr2).mono fun e w' he => hRL ▸ set_own he
    have HRL : Hid (∀ X, Below w.heap.size w X → Calls Try.prog 24 #[.agg #[.int .i64 next, .slice A n c], .int .i64 id, .string name] X (SetOwn X RL)) := Lib.hid fun X hX => (refLoose_any X hi next id A n c nds name (h.below (hX.mono hh)) (Nat.le_trans hh hX.size) hsn hf).mono fun e w' he => hRL ▸ set_own he
    clear hRL
    have HKe : Hid (∀ X, Below w.heap.size w X → ∀ A1 c1 l B, LentAt X B A1 n c1 nds l → Calls Try.prog 16 #[.agg #[.int .i64 next, .slice A1 n c1], .agg #[.int .i64 next, .slice A n c]] X (Ret X (.bool true))) := Lib.hid fun X hX A1 c1 l B hl => kept_any X B hi next A1 A n c1 n c nds l hl (h.below (hX.mono hh)) (Nat.le_trans hh hX.size)
    have HSa : Hid (∀ X (x : Int) (q : List Nd) Bx Ax mx cx lx By Ay my cy ly, OwnM X Bx (.slice Ax mx cx) lx → lx.length = mx → lx.map (·.1) = q → OwnM X By (.slice Ay my cy) ly → ly.length = my → ly.map (·.1) = q → Calls Try.prog 15 #[.agg #[.int .i64 x, .slice Ax mx cx], .agg #[.int .i64 x, .slice Ay my cy]] X (Ret X (.bool true))) := Lib.hid fun X x q Bx Ax mx cx lx By Ay my cy ly h1 h2 h3 h4 h5 h6 => by
      rw [← mdE_refl x q]
      exact refSame_any X X.heap.size _ _ Ax Ay mx cx my cy _ _ (by rw [← h3]; exact (h1.nodesIn h2).mono (Nat.zero_le _) (Nat.le_refl _)) (by rw [← h6]; exact (h4.nodesIn h5).mono (Nat.zero_le _) (Nat.le_refl _)) (Nat.le_refl _)
    obtain ⟨x1, e1, q1⟩ := RP
    obtain ⟨x2, e2, q2⟩ := RD
    obtain ⟨x3, e3, q3⟩ := RI
    obtain ⟨x4, e4, q4⟩ := RL
    clear h hf hc hnc hg lent_in hrr hrr2 hsn hsv
    go_enter Try.func4, Try.ntmps4
    go_upto_region 3 with (go_at_call 7; go_must (refine (HG.out _).mono ?_; rintro e w1 ⟨rfl, hb1⟩; have hm1 := HM0.out.after hb1; have m10 := hm1.a.cell 0; have m11 := hm1.a.cell 1; simp at m10 m11; have HM1 := Lib.hid hm1; clear hm1 hb1))
    go_upto_region 4 with (go_at_call 8; go_must (refine (HLe.out _ HM1.out.bel).mono ?_; rintro e w2 ⟨A1, c1, l, rfl, hb2, hl2⟩; have HS2 := Lib.hid (AW.start (HM1.out.after hb2) hl2); clear hb2 hl2))
    clear m10 m11
    have HS3 := Lib.hid (HS2.out.more next A1 n c1)
    generalize w2.alloc (.cells #[.int .i64 next, .slice A1 n c1] 24) = X3 at HS3 ⊢
    generalize w2.heap.size = g1 at HS3 ⊢
    have hks := HS3.out.b (g1, next, (⟨A1, n, c1⟩ : Sl)) (by simp)
    have ks0 := (hks.cell 0).trans (show _ = some (.int .i64 next) from rfl)
    have ks1 := (hks.cell 1).trans (show _ = some (.slice (A1) n c1) from rfl)
    clear hks
    go_upto_region 5 with (go_at_call 17; (with_reducible refine (HPP.out _ _ _ _ _ HS3.out.L).mono ?_); go_must (rintro e w4 ⟨A4, n4, d4, l4, rfl, hoo4, hl4, hm4, hb4⟩; obtain ⟨B4, ho4⟩ : ∃ B, OwnM w4 B (.slice A4 n4 d4) l4 := ⟨_, hoo4⟩; have HS4 := Lib.hid ((HS3.out.after hb4).own ho4 hl4); have HQ4 := Lib.hid hm4; clear hoo4 ho4 hl4 hm4 hb4))
    have HT4 := Lib.hid (HS4.out.more x1 A4 n4 d4)
    generalize w4.alloc (.cells #[.int .i64 x1, .slice A4 n4 d4] 24) = X4 at HT4 ⊢
    generalize w4.heap.size = g4 at HT4 ⊢
    clear ks0 ks1
    clear HS3 HS4
    have ks0 := (HT4.out.m.a.cell 0).trans (show _ = some (.int .i64 next) from rfl)
    have ks1 := (HT4.out.m.a.cell 1).trans (show _ = some (.slice A n c) from rfl)
    go_upto_region 6 with (go_at_call 18; (with_reducible refine (HRP.out _ HT4.out.m.bel).mono ?_); go_must (rintro e w5 ⟨A5, n5, d5, l5, rfl, hoo5, hl5, hm5, hb5⟩; obtain ⟨B5, ho5⟩ : ∃ B, OwnM w5 B (.slice A5 n5 d5) l5 := ⟨_, hoo5⟩; have HS5 := Lib.hid ((HT4.out.after hb5).own ho5 hl5); have HQ5 := Lib.hid hm5; clear hoo5 ho5 hl5 hm5 hb5))
    have HT5 := Lib.hid (HS5.out.more x1 A5 n5 d5)
    generalize w5.alloc (.cells #[.int .i64 x1, .slice A5 n5 d5] 24) = X5 at HT5 ⊢
    generalize w5.heap.size = g5 at HT5 ⊢
    clear ks0 ks1
    clear HT4 HS5
    have hks := HT5.out.b (g1, next, (⟨A1, n, c1⟩ : Sl)) (by simp)
    have ks0 := (hks.cell 0).trans (show _ = some (.int .i64 next) from rfl)
    have ks1 := (hks.cell 1).trans (show _ = some (.slice (A1) n c1) from rfl)
    clear hks
    go_upto_region 7 with (go_at_call 19; (with_reducible refine (HPD.out _ _ _ _ _ HT5.out.L).mono ?_); go_must (rintro e w6 ⟨A6, n6, d6, l6, rfl, hoo6, hl6, hm6, hb6⟩; obtain ⟨B6, ho6⟩ : ∃ B, OwnM w6 B (.slice A6 n6 d6) l6 := ⟨_, hoo6⟩; have HS6 := Lib.hid ((HT5.out.after hb6).own ho6 hl6); have HQ6 := Lib.hid hm6; clear hoo6 ho6 hl6 hm6 hb6))
    have HT6 := Lib.hid (HS6.out.more x2 A6 n6 d6)
    generalize w6.alloc (.cells #[.int .i64 x2, .slice A6 n6 d6] 24) = X6 at HT6 ⊢
    generalize w6.heap.size = g6 at HT6 ⊢
    clear ks0 ks1
    clear HT5 HS6
    have ks0 := (HT6.out.m.a.cell 0).trans (show _ = some (.int .i64 next) from rfl)
    have ks1 := (HT6.out.m.a.cell 1).trans (show _ = some (.slice A n c) from rfl)
    go_upto_region 8 with (go_at_call 20; (with_reducible refine (HRD.out _ HT6.out.m.bel).mono ?_); go_must (rintro e w7 ⟨A7, n7, d7, l7, rfl, hoo7, hl7, hm7, hb7⟩; obtain ⟨B7, ho7⟩ : ∃ B, OwnM w7 B (.slice A7 n7 d7) l7 := ⟨_, hoo7⟩; have HS7 := Lib.hid ((HT6.out.after hb7).own ho7 hl7); have HQ7 := Lib.hid hm7; clear hoo7 ho7 hl7 hm7 hb7))
    have HT7 := Lib.hid (HS7.out.more x2 A7 n7 d7)
    generalize w7.alloc (.cells #[.int .i64 x2, .slice A7 n7 d7] 24) = X7 at HT7 ⊢
    generalize w7.heap.size = g7 at HT7 ⊢
    clear ks0 ks1
    clear HT6 HS7
    have hka := HT7.out.b (g4, x1, (⟨A4, n4, d4⟩ : Sl)) (by simp)
    have ka0 := (hka.cell 0).trans (show _ = some (.int .i64 x1) from rfl)
    have ka1 := (hka.cell 1).trans (show _ = some (.slice (A4) n4 d4) from rfl)
    clear hka
    have hkb := HT7.out.b (g5, x1, (⟨A5, n5, d5⟩ : Sl)) (by simp)
    have kb0 := (hkb.cell 0).trans (show _ = some (.int .i64 x1) from rfl)
    have kb1 := (hkb.cell 1).trans (show _ = some (.slice (A5) n5 d5) from rfl)
    clear hkb
    go_upto_region 10 with (first | (go_at_call 15; (with_reducible refine (HSa.out _ x1 _ _ _ _ _ _ _ _ _ _ _ (HT7.out.o (B4, ⟨A4, n4, d4⟩, l4) (by simp)).1 (HT7.out.o (B4, ⟨A4, n4, d4⟩, l4) (by simp)).2 HQ4.out (HT7.out.o (B5, ⟨A5, n5, d5⟩, l5) (by simp)).1 (HT7.out.o (B5, ⟨A5, n5, d5⟩, l5) (by simp)).2 HQ5.out).mono ?_); go_must (rintro e wa1 ⟨rfl, hbwa1⟩; have HSa1 := Lib.hid (HT7.out.after hbwa1); have hkc := HSa1.out.b (g6, x2, (⟨A6, n6, d6⟩ : Sl)) (by simp); have kc0 := (hkc.cell 0).trans (show _ = some (.int .i64 x2) from rfl); have kc1 := (hkc.cell 1).trans (show _ = some (.slice (A6) n6 d6) from rfl); clear hkc; have hkd := HSa1.out.b (g7, x2, (⟨A7, n7, d7⟩ : Sl)) (by simp); have kd0 := (hkd.cell 0).trans (show _ = some (.int .i64 x2) from rfl); have kd1 := (hkd.cell 1).trans (show _ = some (.slice (A7) n7 d7) from rfl); clear hkd; clear hbwa1)) | (go_at_call 15; (with_reducible refine (HSa.out _ x2 _ _ _ _ _ _ _ _ _ _ _ (HSa1.out.o (B6, ⟨A6, n6, d6⟩, l6) (by simp)).1 (HSa1.out.o (B6, ⟨A6, n6, d6⟩, l6) (by simp)).2 HQ6.out (HSa1.out.o (B7, ⟨A7, n7, d7⟩, l7) (by simp)).1 (HSa1.out.o (B7, ⟨A7, n7, d7⟩, l7) (by simp)).2 HQ7.out).mono ?_); go_must (rintro e wa2 ⟨rfl, hbwa2⟩; have HSa2 := Lib.hid (HSa1.out.after hbwa2); clear hbwa2)))
    clear ka0 ka1 kb0 kb1 kc0 kc1 kd0 kd1
    have hks := HSa2.out.b (g1, next, (⟨A1, n, c1⟩ : Sl)) (by simp)
    have ks0 := (hks.cell 0).trans (show _ = some (.int .i64 next) from rfl)
    have ks1 := (hks.cell 1).trans (show _ = some (.slice (A1) n c1) from rfl)
    clear hks
    go_upto_region 11 with (go_at_call 21; (with_reducible refine (HPI.out _ _ _ _ _ HSa2.out.L).mono ?_); go_must (rintro e w8 ⟨A8, n8, d8, l8, rfl, hoo8, hl8, hm8, hb8⟩; obtain ⟨B8, ho8⟩ : ∃ B, OwnM w8 B (.slice A8 n8 d8) l8 := ⟨_, hoo8⟩; have HS8 := Lib.hid ((HSa2.out.after hb8).own ho8 hl8); have HQ8 := Lib.hid hm8; have hkt := HS8.out.b (g4, x1, (⟨A4, n4, d4⟩ : Sl)) (by simp); have kt0 := (hkt.cell 0).trans (show _ = some (.int .i64 x1) from rfl); have kt1 := (hkt.cell 1).trans (show _ = some (.slice (A4) n4 d4) from rfl); have kt2 := hkt.frozen 0; have kt3 := hkt.frozen 1; clear hkt; clear hoo8 ho8 hl8 hm8 hb8))
    have HT8 := Lib.hid (AW.set (pre := [(g1, next, (⟨A1, n, c1⟩ : Sl))]) (post := [(g5, x1, (⟨A5, n5, d5⟩ : Sl)), (g6, x2, (⟨A6, n6, d6⟩ : Sl)), (g7, x2, (⟨A7, n7, d7⟩ : Sl))]) HS8.out x3 A8 n8 d8)
    generalize (w8.setCell ⟨g4, 0, none⟩ (.int .i64 x3)).setCell ⟨g4, 1, none⟩ (.slice A8 n8 d8) = X8 at HT8 ⊢
    clear ks0 ks1 kt0 kt1 kt2 kt3
    clear HSa1 HSa2 HS8
    have ks0 := (HT8.out.m.a.cell 0).trans (show _ = some (.int .i64 next) from rfl)
    have ks1 := (HT8.out.m.a.cell 1).trans (show _ = some (.slice A n c) from rfl)
    go_upto_region 12 with (go_at_call 22; (with_reducible refine (HRI.out _ HT8.out.m.bel).mono ?_); go_must (rintro e w9 ⟨A9, n9, d9, l9, rfl, hoo9, hl9, hm9, hb9⟩; obtain ⟨B9, ho9⟩ : ∃ B, OwnM w9 B (.slice A9 n9 d9) l9 := ⟨_, hoo9⟩; have HS9 := Lib.hid ((HT8.out.after hb9).own ho9 hl9); have HQ9 := Lib.hid hm9; have hkt := HS9.out.b (g5, x1, (⟨A5, n5, d5⟩ : Sl)) (by simp); have kt0 := (hkt.cell 0).trans (show _ = some (.int .i64 x1) from rfl); have kt1 := (hkt.cell 1).trans (show _ = some (.slice (A5) n5 d5) from rfl); have kt2 := hkt.frozen 0; have kt3 := hkt.frozen 1; clear hkt; clear hoo9 ho9 hl9 hm9 hb9))
    have HT9 := Lib.hid (AW.set (pre := [(g1, next, (⟨A1, n, c1⟩ : Sl)), (g4, x3, (⟨A8, n8, d8⟩ : Sl))]) (post := [(g6, x2, (⟨A6, n6, d6⟩ : Sl)), (g7, x2, (⟨A7, n7, d7⟩ : Sl))]) HS9.out x3 A9 n9 d9)
    generalize (w9.setCell ⟨g5, 0, none⟩ (.int .i64 x3)).setCell ⟨g5, 1, none⟩ (.slice A9 n9 d9) = X9 at HT9 ⊢
    clear ks0 ks1 kt0 kt1 kt2 kt3
    clear HT8 HS9
    have hks := HT9.out.b (g1, next, (⟨A1, n, c1⟩ : Sl)) (by simp)
    have ks0 := (hks.cell 0).trans (show _ = some (.int .i64 next) from rfl)
    have ks1 := (hks.cell 1).trans (show _ = some (.slice (A1) n c1) from rfl)
    clear hks
    go_upto_region 13 with (go_at_call 23; (with_reducible refine (HPL.out _ _ _ _ _ HT9.out.L).mono ?_); go_must (rintro e w10 ⟨A10, n10, d10, l10, rfl, hoo10, hl10, hm10, hb10⟩; obtain ⟨B10, ho10⟩ : ∃ B, OwnM w10 B (.slice A10 n10 d10) l10 := ⟨_, hoo10⟩; have HS10 := Lib.hid ((HT9.out.after hb10).own ho10 hl10); have HQ10 := Lib.hid hm10; have hkt := HS10.out.b (g6, x2, (⟨A6, n6, d6⟩ : Sl)) (by simp); have kt0 := (hkt.cell 0).trans (show _ = some (.int .i64 x2) from rfl); have kt1 := (hkt.cell 1).trans (show _ = some (.slice (A6) n6 d6) from rfl); have kt2 := hkt.frozen 0; have kt3 := hkt.frozen 1; clear hkt; clear hoo10 ho10 hl10 hm10 hb10))
    have HT10 := Lib.hid (AW.set (pre := [(g1, next, (⟨A1, n, c1⟩ : Sl)), (g4, x3, (⟨A8, n8, d8⟩ : Sl)), (g5, x3, (⟨A9, n9, d9⟩ : Sl))]) (post := [(g7, x2, (⟨A7, n7, d7⟩ : Sl))]) HS10.out x4 A10 n10 d10)
    generalize (w10.setCell ⟨g6, 0, none⟩ (.int .i64 x4)).setCell ⟨g6, 1, none⟩ (.slice A10 n10 d10) = X10 at HT10 ⊢
    clear ks0 ks1 kt0 kt1 kt2 kt3
    clear HT9 HS10
    have ks0 := (HT10.out.m.a.cell 0).trans (show _ = some (.int .i64 next) from rfl)
    have ks1 := (HT10.out.m.a.cell 1).trans (show _ = some (.slice A n c) from rfl)
    go_upto_region 14 with (go_at_call 24; (with_reducible refine (HRL.out _ HT10.out.m.bel).mono ?_); go_must (rintro e w11 ⟨A11, n11, d11, l11, rfl, hoo11, hl11, hm11, hb11⟩; obtain ⟨B11, ho11⟩ : ∃ B, OwnM w11 B (.slice A11 n11 d11) l11 := ⟨_, hoo11⟩; have HS11 := Lib.hid ((HT10.out.after hb11).own ho11 hl11); have HQ11 := Lib.hid hm11; have hkt := HS11.out.b (g7, x2, (⟨A7, n7, d7⟩ : Sl)) (by simp); have kt0 := (hkt.cell 0).trans (show _ = some (.int .i64 x2) from rfl); have kt1 := (hkt.cell 1).trans (show _ = some (.slice (A7) n7 d7) from rfl); have kt2 := hkt.frozen 0; have kt3 := hkt.frozen 1; clear hkt; clear hoo11 ho11 hl11 hm11 hb11))
    have HT11 := Lib.hid (AW.set (pre := [(g1, next, (⟨A1, n, c1⟩ : Sl)), (g4, x3, (⟨A8, n8, d8⟩ : Sl)), (g5, x3, (⟨A9, n9, d9⟩ : Sl)), (g6, x4, (⟨A10, n10, d10⟩ : Sl))]) (post := []) HS11.out x4 A11 n11 d11)
    generalize (w11.setCell ⟨g7, 0, none⟩ (.int .i64 x4)).setCell ⟨g7, 1, none⟩ (.slice A11 n11 d11) = X11 at HT11 ⊢
    clear ks0 ks1 kt0 kt1 kt2 kt3
    clear HT10 HS11
    have hka := HT11.out.b (g4, x3, (⟨A8, n8, d8⟩ : Sl)) (by simp)
    have ka0 := (hka.cell 0).trans (show _ = some (.int .i64 x3) from rfl)
    have ka1 := (hka.cell 1).trans (show _ = some (.slice (A8) n8 d8) from rfl)
    clear hka
    have hkb := HT11.out.b (g5, x3, (⟨A9, n9, d9⟩ : Sl)) (by simp)
    have kb0 := (hkb.cell 0).trans (show _ = some (.int .i64 x3) from rfl)
    have kb1 := (hkb.cell 1).trans (show _ = some (.slice (A9) n9 d9) from rfl)
    clear hkb
    go_wp2_with (first | (go_at_call 15; (with_reducible refine (HSa.out _ x3 _ _ _ _ _ _ _ _ _ _ _ (HT11.out.o (B8, ⟨A8, n8, d8⟩, l8) (by simp)).1 (HT11.out.o (B8, ⟨A8, n8, d8⟩, l8) (by simp)).2 HQ8.out (HT11.out.o (B9, ⟨A9, n9, d9⟩, l9) (by simp)).1 (HT11.out.o (B9, ⟨A9, n9, d9⟩, l9) (by simp)).2 HQ9.out).mono ?_); go_must (rintro e wb1 ⟨rfl, hbwb1⟩; have HSb1 := Lib.hid (HT11.out.after hbwb1); have hkc := HSb1.out.b (g6, x4, (⟨A10, n10, d10⟩ : Sl)) (by simp); have kc0 := (hkc.cell 0).trans (show _ = some (.int .i64 x4) from rfl); have kc1 := (hkc.cell 1).trans (show _ = some (.slice (A10) n10 d10) from rfl); clear hkc; have hkd := HSb1.out.b (g7, x4, (⟨A11, n11, d11⟩ : Sl)) (by simp); have kd0 := (hkd.cell 0).trans (show _ = some (.int .i64 x4) from rfl); have kd1 := (hkd.cell 1).trans (show _ = some (.slice (A11) n11 d11) from rfl); clear hkd; clear hbwb1)) | (go_at_call 15; (with_reducible refine (HSa.out _ x4 _ _ _ _ _ _ _ _ _ _ _ (HSb1.out.o (B10, ⟨A10, n10, d10⟩, l10) (by simp)).1 (HSb1.out.o (B10, ⟨A10, n10, d10⟩, l10) (by simp)).2 HQ10.out (HSb1.out.o (B11, ⟨A11, n11, d11⟩, l11) (by simp)).1 (HSb1.out.o (B11, ⟨A11, n11, d11⟩, l11) (by simp)).2 HQ11.out).mono ?_); go_must (rintro e wb2 ⟨rfl, hbwb2⟩; have HSb2 := Lib.hid (HSb1.out.after hbwb2); have hke := HSb2.out.b (g1, next, (⟨A1, n, c1⟩ : Sl)) (by simp); have ke0 := (hke.cell 0).trans (show _ = some (.int .i64 next) from rfl); have ke1 := (hke.cell 1).trans (show _ = some (.slice (A1) n c1) from rfl); clear hke; have kf0 := (HSb2.out.m.a.cell 0).trans (show _ = some (.int .i64 next) from rfl); have kf1 := (HSb2.out.m.a.cell 1).trans (show _ = some (.slice A n c) from rfl); clear hbwb2)) | (go_at_call 16; (with_reducible refine (HKe.out _ HSb2.out.m.bel _ _ _ _ HSb2.out.L).mono ?_); go_must (rintro e wb3 ⟨rfl, hbb3⟩; have HSb3 := Lib.hid (HSb2.out.after hbb3); clear hbb3)))
    go_ret
    exact ret_b (by simp) rfl HSb3.out.m.bel
end Go.Proofs.Yteccblmdfjbljaa
namespace Go.Proofs.Yteccblmdfjbljaa
open Go Go.RowKit Go.Sort Go.ChangeShapes Go.WideShapes Go.Deep Go.Joins
set_option linter.unusedVariables false
theorem cell_spot {w : World} {a : Addr} {u : Value} (h : w.cell? a = some u) : a.spot = none := by
  unfold World.cell? at h
  split at h
  · split at h
    · cases h
    · rename_i hs
      cases ha : a.spot with
      | none => rfl
      | some k => rw [ha] at hs; simp at hs
  · cases h
theorem add_zero_ (a : Addr) : a.add 0 = a := by unfold Addr.add; simp
theorem addr_plain {a : Addr} (h : a.spot = none) : a = ⟨a.block, a.off, none⟩ := by
  obtain ⟨b, o, s⟩ := a
  obtain rfl : s = none := h
  rfl
/-- cells of an own kind, by the elements' index -/
theorem flat_cells {α : Type} {w : World} {f : α → List Value} {s : Nat} (hs : ∀ a, (f a).length = s) (h0 : 0 < s) (l : List α) (a : Addr)
    (h : ∀ i p, l[i]? = some p → ∀ r u, (f p)[r]? = some u → w.cell? (a.add (i * s + r)) = some u) : ∀ j u, (l.flatMap f)[j]? = some u → w.cell? (a.add j) = some u := by
  intro j u hj
  have hl : j < l.length * s := by rw [← flatN_len hs l]; exact (List.getElem?_eq_some_iff.1 hj).1
  have hd : j / s < l.length := Nat.div_lt_of_lt_mul (by rwa [Nat.mul_comm] at hl)
  have hr : j % s < s := Nat.mod_lt _ h0
  have he : j / s * s + j % s = j := by rw [Nat.mul_comm]; exact Nat.div_add_mod j s
  have hp : l[j / s]? = some l[j / s] := List.getElem?_eq_getElem hd
  have := h (j / s) _ hp (j % s) u (by rw [← flatN_get hs l (j / s) _ hp _ hr, he]; exact hj)
  rwa [he] at this
theorem row_of {w : World} {base n c size : Nat} {a : Addr} {xs : List Value} (hlen : xs.length = n * size) (h0 : 0 < size) (hn : n ≤ c) (hm : c ≤ maxLen) (hb : base ≤ a.block)
    (hc : ∀ j u, xs[j]? = some u → w.cell? (a.add j) = some u) : Row w base w.heap.size size (some a) n c xs := by
  refine ⟨hlen, hn, hm, fun hp => ?_⟩
  have hl : 0 < xs.length := by rw [hlen]; exact Nat.mul_pos hp h0
  have h1 := hc 0 _ (List.getElem?_eq_getElem hl)
  rw [add_zero_] at h1
  have ha := addr_plain (cell_spot h1)
  have hlt := block_lt_of_cell h1
  refine ⟨a.block, a.off, by rw [← ha], hb, hlt, fun j u hu => ?_⟩
  · have := hc j u hu
    rw [ha, Addr.add_lit] at this; exact this
section
variable {H : Type}
theorem bulk_pos (d : DataW H) : 1 ≤ Rows.uptoBulk d := by unfold Rows.uptoBulk; split <;> omega
theorem bulk_mem : ∀ {l : List (DataW H)} {d : DataW H}, d ∈ l → Rows.uptoBulk d ≤ Rows.uptoBulkAll l
  | x :: r, d, h => by
    rw [Rows.uptoBulkAll]
    rcases List.mem_cons.1 h with rfl | h
    · omega
    · have := bulk_mem h; omega
theorem bulk_len : ∀ (l : List (DataW H)), l.length ≤ Rows.uptoBulkAll l
  | [] => Nat.zero_le _
  | x :: r => by
    rw [Rows.uptoBulkAll, List.length_cons]
    have := bulk_len r
    have := bulk_pos x
    omega
end
section
variable {H : Type} {enc : TypeId × Value → H} {w : World} {base : Nat} {spare : Nat → Bool} {held : Bool}
theorem spare_le {spare : Nat → Bool} {b len cap m : Nat} (hl : len ≤ cap) (hm : m = (if spare b then cap else len)) : len ≤ m := by rw [hm]; split <;> omega
theorem props_open {fuel : Nat} {v : Value} {x : DataW H × List MemPlace} (h : DataW.trod enc Try.prog w base spare held fuel 77 [v] = some x) :
    ∃ (A : Option Addr) (n c : Nat) (l : List (ByteArray × ByteArray)), v = .slice A n c ∧ n = l.length ∧ Row w base w.heap.size 2 A n c (propCells l) ∧ (∀ p ∈ l, p.1.size ≤ maxLen ∧ p.2.size ≤ maxLen) ∧ n ≤ Rows.uptoBulk x.1 := by
  rcases open_slice_pairs Try.underlying77 Try.underlying83 (by kernel_rfl) rfl rfl (by kernel_rfl) (by kernel_rfl) h with ⟨hv, rfl⟩ | ⟨a, len, cap, m, n, V0, V1, D0, D1, P0, P1, hv, hb, hl, hm, hmm, rfl, hx⟩
  · obtain rfl : v = .slice none 0 0 := by simpa using hv
    exact ⟨none, 0, 0, [], rfl, rfl, Row.nil _ _ _ _, by simp, Nat.zero_le _⟩
  · obtain rfl : v = .slice (some a) len cap := by simpa using hv
    have hle := spare_le hl hmm
    obtain ⟨F, hF⟩ := choose_lt (α := ByteArray × ByteArray) (n := len) (p := fun i q => w.cell? (a.add (i * 2)) = some (.string q.1) ∧ w.cell? (a.add (i * 2 + 1)) = some (.string q.2) ∧ q.1.size ≤ maxLen ∧ q.2.size ≤ maxLen) (fun i hi => by
      obtain ⟨c0, c1, t0, t1⟩ := hx i (by omega)
      obtain ⟨s0, e0, _, z0⟩ := DataW.trod_string Try.underlying9 t0
      obtain ⟨s1, e1, _, z1⟩ := DataW.trod_string Try.underlying9 t1
      have e0' : V0 i = .string s0 := by simpa using e0
      have e1' : V1 i = .string s1 := by simpa using e1
      rw [e0'] at c0
      rw [e1'] at c1
      exact ⟨(s0, s1), c0, c1, z0, z1⟩)
    have hg : ∀ i p, ((List.range len).map F)[i]? = some p → i < len ∧ p = F i := by
      intro i p hp
      rw [List.getElem?_map] at hp
      obtain ⟨j, hj, rfl⟩ := Option.map_eq_some_iff.1 hp
      obtain ⟨h1, h2⟩ := List.getElem?_eq_some_iff.1 hj
      rw [List.getElem_range] at h2
      subst h2
      exact ⟨by simpa using h1, rfl⟩
    refine ⟨some a, len, cap, (List.range len).map F, rfl, by simp, ?_, fun p hp => ?_, ?_⟩
    · refine row_of (by rw [propCells_length]; simp) (by omega) hl hm hb ?_
      refine flat_cells (s := 2) (fun _ => rfl) (by omega) _ a (fun i p hp r u hr => ?_)
      obtain ⟨hi, rfl⟩ := hg i p hp
      match r, hr with
      | 0, hr => simp at hr; subst hr; exact (hF i hi).1
      | 1, hr => simp at hr; subst hr; exact (hF i hi).2.1
    · obtain ⟨i, hi⟩ := List.getElem?_of_mem hp
      obtain ⟨h1, rfl⟩ := hg i p hi
      exact (hF i h1).2.2
    · have := bulk_len ((List.range len).map fun i => DataW.agg [D0 i, D1 i])
      simp only [Rows.uptoBulk]
      simp at this
      omega
theorem refs_open {fuel : Nat} {v : Value} {x : DataW H × List MemPlace} (h : DataW.trod enc Try.prog w base spare held fuel 79 [v] = some x) :
    ∃ (A : Option Addr) (n c : Nat) (l : List (ByteArray × Int)), v = .slice A n c ∧ n = l.length ∧ Row w base w.heap.size 2 A n c (refCells l) ∧ (∀ p ∈ l, p.1.size ≤ maxLen) ∧ n ≤ Rows.uptoBulk x.1 := by
  rcases open_slice_pairs Try.underlying79 Try.underlying85 (by kernel_rfl) rfl rfl (by kernel_rfl) (by kernel_rfl) h with ⟨hv, rfl⟩ | ⟨a, len, cap, m, n, V0, V1, D0, D1, P0, P1, hv, hb, hl, hm, hmm, rfl, hx⟩
  · obtain rfl : v = .slice none 0 0 := by simpa using hv
    exact ⟨none, 0, 0, [], rfl, rfl, Row.nil _ _ _ _, by simp, Nat.zero_le _⟩
  · obtain rfl : v = .slice (some a) len cap := by simpa using hv
    have hle := spare_le hl hmm
    obtain ⟨F, hF⟩ := choose_lt (α := ByteArray × Int) (n := len) (p := fun i q => w.cell? (a.add (i * 2)) = some (.string q.1) ∧ w.cell? (a.add (i * 2 + 1)) = some (.int .i64 q.2) ∧ q.1.size ≤ maxLen) (fun i hi => by
      obtain ⟨c0, c1, t0, t1⟩ := hx i (by omega)
      obtain ⟨s0, e0, _, z0⟩ := DataW.trod_string Try.underlying9 t0
      obtain ⟨s1, e1, _, z1⟩ := DataW.trod_int Try.underlying3 t1
      have e0' : V0 i = .string s0 := by simpa using e0
      have e1' : V1 i = .int .i64 s1 := by simpa using e1
      rw [e0'] at c0
      rw [e1'] at c1
      exact ⟨(s0, s1), c0, c1, z0⟩)
    have hg : ∀ i p, ((List.range len).map F)[i]? = some p → i < len ∧ p = F i := by
      intro i p hp
      rw [List.getElem?_map] at hp
      obtain ⟨j, hj, rfl⟩ := Option.map_eq_some_iff.1 hp
      obtain ⟨h1, h2⟩ := List.getElem?_eq_some_iff.1 hj
      rw [List.getElem_range] at h2
      subst h2
      exact ⟨by simpa using h1, rfl⟩
    refine ⟨some a, len, cap, (List.range len).map F, rfl, by simp, ?_, fun p hp => ?_, ?_⟩
    · refine row_of (by rw [refCells_length]; simp) (by omega) hl hm hb ?_
      refine flat_cells (s := 2) (fun _ => rfl) (by omega) _ a (fun i p hp r u hr => ?_)
      obtain ⟨hi, rfl⟩ := hg i p hp
      match r, hr with
      | 0, hr => simp at hr; subst hr; exact (hF i hi).1
      | 1, hr => simp at hr; subst hr; exact (hF i hi).2.1
    · obtain ⟨i, hi⟩ := List.getElem?_of_mem hp
      obtain ⟨h1, rfl⟩ := hg i p hi
      exact (hF i h1).2.2
    · have := bulk_len ((List.range len).map fun i => DataW.agg [D0 i, D1 i])
      simp only [Rows.uptoBulk]
      simp at this
      omega
theorem kids_open {fuel : Nat} {v : Value} {x : DataW H × List MemPlace} (h : DataW.trod enc Try.prog w base spare held fuel 78 [v] = some x) :
    ∃ (A : Option Addr) (n c : Nat) (l : List Int), v = .slice A n c ∧ n = l.length ∧ Row w base w.heap.size 1 A n c (intCells l) ∧ n ≤ Rows.uptoBulk x.1 := by
  rcases open_ints Try.underlying78 Try.underlying3 (by kernel_rfl) h with ⟨hv, rfl⟩ | ⟨a, len, cap, zs, hv, hb, hl, hm, hz, rfl, hc, _⟩
  · obtain rfl : v = .slice none 0 0 := by simpa using hv
    exact ⟨none, 0, 0, [], rfl, rfl, Row.nil _ _ _ _, Nat.zero_le _⟩
  · obtain rfl : v = .slice (some a) len cap := by simpa using hv
    have hle := spare_le hl hz
    have hlt : (zs.take len).length = len := by rw [List.length_take]; omega
    refine ⟨some a, len, cap, zs.take len, rfl, hlt.symm, ?_, ?_⟩
    · refine row_of (by rw [intCells_length, hlt]; omega) (by omega) hl hm hb (fun j u hu => ?_)
      unfold intCells at hu
      rw [List.getElem?_map] at hu
      obtain ⟨z, hz', rfl⟩ := Option.map_eq_some_iff.1 hu
      have hj : j < len := by rw [← hlt]; exact (List.getElem?_eq_some_iff.1 hz').1
      rw [List.getElem?_take_of_lt hj] at hz'
      have := hc j (by omega)
      rwa [List.getD_eq_getElem?_getD, hz'] at this
    · have h1 := bulk_len (H := H) (lits .i64 (zs.take len))
      have h2 : (lits (H := H) .i64 (zs.take len)).length = len := by unfold lits; rw [List.length_map, hlt]
      simp only [Rows.uptoBulk]
      omega
instance ndLeafInhabited : Inhabited (Nd × Leaf) := ⟨(⟨0, ByteArray.empty, 0, ByteArray.empty, [], [], []⟩, ⟨⟨none, 0, 0⟩, ⟨none, 0, 0⟩, ⟨none, 0, 0⟩⟩)⟩
/-- a struct of one-cell fields that lies in memory: each field's cell, with its reading -/
theorem fields_at {P : Program} {e : TypeId} {fs : Array Field} {fuel : Nat} {a : Addr} {cs : List Value} {x : DataW H × List MemPlace} (he : P.underlying e = some (.struct fs)) (hone : oneCellFields P fs = true) (hC : P.cellsOf e = fs.size)
    (hc : w.cells? base a (P.cellsOf e) = some cs) (h : DataW.trod enc P w base spare held fuel e cs = some x) :
    ∃ (ys : List (DataW H × List MemPlace)) (n : Nat), x.1 = .agg (ys.map (·.1)) ∧ ys.length = fs.size ∧
      ∀ j f, fs[j]? = some f → ∃ v y, w.cell? (a.add j) = some v ∧ ys[j]? = some y ∧ DataW.trod enc P w base spare held n f.type [v] = some y := by
  obtain ⟨ys, n, _, rfl, hl, hys, hf⟩ := DataW.trod_struct he h
  obtain ⟨_, hlen, hat⟩ := World.cells?_some hc
  refine ⟨ys, n, rfl, hys, fun j f hj => ?_⟩
  have hjs : j < fs.size := (Array.getElem?_eq_some_iff.1 hj).1
  have hjl : j < cs.length := by omega
  have hjy : j < ys.length := by omega
  obtain ⟨o1, o2⟩ := hone_of hone j f hj
  have h1 := hf j f hj
  rw [o1, o2, List.drop_eq_getElem_cons hjl, List.take_succ_cons, List.take_zero, List.getElem?_eq_getElem hjy] at h1
  exact ⟨cs[j], ys[j], by rw [hat j (by omega), List.getElem?_eq_getElem hjl], List.getElem?_eq_getElem hjy, h1⟩
/-- the lists of a node are no longer than its reading is great -/
structure Small (b : Nat) (nd : Nd) : Prop where
  p : nd.props.length ≤ b
  k : nd.kids.length ≤ b
  r : nd.refs.length ≤ b
theorem node_open {fuel : Nat} {a : Addr} {cs : List Value} {x : DataW H × List MemPlace} (hc : w.cells? base a (Try.prog.cellsOf 81) = some cs) (h : DataW.trod enc Try.prog w base spare held fuel 81 cs = some x) :
    ∃ q : Nd × Leaf, (∀ r u, (ndCells q)[r]? = some u → w.cell? (a.add r) = some u) ∧ LeafIn w base w.heap.size q.1 q.2 ∧ Small (Rows.uptoBulk x.1) q.1 := by
  obtain ⟨ys, n, hx, hys, hf⟩ := fields_at Try.underlying81 (by kernel_rfl) (by kernel_rfl) hc h
  obtain ⟨v0, y0, c0, g0, t0⟩ := hf 0 _ rfl
  obtain ⟨v1, y1, c1, g1, t1⟩ := hf 1 _ rfl
  obtain ⟨v2, y2, c2, g2, t2⟩ := hf 2 _ rfl
  obtain ⟨v3, y3, c3, g3, t3⟩ := hf 3 _ rfl
  obtain ⟨v4, y4, c4, g4, t4⟩ := hf 4 _ rfl
  obtain ⟨v5, y5, c5, g5, t5⟩ := hf 5 _ rfl
  obtain ⟨v6, y6, c6, g6, t6⟩ := hf 6 _ rfl
  obtain ⟨i0, e0, _, _⟩ := DataW.trod_int Try.underlying3 t0
  obtain ⟨s1, e1, _, z1⟩ := DataW.trod_string Try.underlying9 t1
  obtain ⟨i2, e2, _, _⟩ := DataW.trod_int Try.underlying3 t2
  obtain ⟨s3, e3, _, z3⟩ := DataW.trod_string Try.underlying9 t3
  obtain rfl : v0 = .int .i64 i0 := by simpa using e0
  obtain rfl : v1 = .string s1 := by simpa using e1
  obtain rfl : v2 = .int .i64 i2 := by simpa using e2
  obtain rfl : v3 = .string s3 := by simpa using e3
  obtain ⟨Ap, np, cp, lp, rfl, hp1, hp2, hp3, hp4⟩ := props_open t4
  obtain ⟨Ak, nk, ck, lk, rfl, hk1, hk2, hk4⟩ := kids_open t5
  obtain ⟨Ar, nr, cr, lr, rfl, hr1, hr2, hr3, hr4⟩ := refs_open t6
  have big : ∀ (j : Nat) (y : DataW H × List MemPlace), ys[j]? = some y → Rows.uptoBulk y.1 ≤ Rows.uptoBulk x.1 := by
    intro j y hy
    have := bulk_mem (List.mem_map_of_mem (f := (·.1)) (List.mem_of_getElem? hy))
    rw [hx]
    simp only [Rows.uptoBulk]
    omega
  have b4 := big 4 _ g4
  have b5 := big 5 _ g5
  have b6 := big 6 _ g6
  refine ⟨(⟨i0, s1, i2, s3, lp, lk, lr⟩, ⟨⟨Ap, np, cp⟩, ⟨Ak, nk, ck⟩, ⟨Ar, nr, cr⟩⟩), fun r u hr => ?_, ⟨hp1, hk1, hr1, hp2, hk2, hr2, ⟨z1, z3, hp3, hr3⟩⟩, ⟨(by omega : lp.length ≤ _), (by omega : lk.length ≤ _), (by omega : lr.length ≤ _)⟩⟩
  match r, hr with
  | 0, hr => simp [ndCells] at hr; subst hr; exact c0
  | 1, hr => simp [ndCells] at hr; subst hr; exact c1
  | 2, hr => simp [ndCells] at hr; subst hr; exact c2
  | 3, hr => simp [ndCells] at hr; subst hr; exact c3
  | 4, hr => simp [ndCells] at hr; subst hr; exact c4
  | 5, hr => simp [ndCells] at hr; subst hr; exact c5
  | 6, hr => simp [ndCells] at hr; subst hr; exact c6
theorem nodes_open {fuel : Nat} {v : Value} {x : DataW H × List MemPlace} (h : DataW.trod enc Try.prog w base spare held fuel 22 [v] = some x) :
    ∃ (A : Option Addr) (n c : Nat) (nds : List Nd), v = .slice A n c ∧ NodesIn w base w.heap.size A n c nds ∧ (∀ nd ∈ nds, Small (Rows.uptoBulk x.1) nd) ∧ n ≤ Rows.uptoBulk x.1 := by
  rcases open_slice Try.underlying22 h with ⟨hv, rfl⟩ | ⟨a, len, cap, m, n, D, Pl, hv, hb, hl, hm, hmm, rfl, hx⟩
  · obtain rfl : v = .slice none 0 0 := by simpa using hv
    exact ⟨none, 0, 0, [], rfl, NodesIn.nil _ _ _, by simp, Nat.zero_le _⟩
  · obtain rfl : v = .slice (some a) len cap := by simpa using hv
    have hle := spare_le hl hmm
    obtain ⟨F, hF⟩ := choose_lt (α := Nd × Leaf) (n := len) (p := fun i q => (∀ r u, (ndCells q)[r]? = some u → w.cell? (a.add (i * 7 + r)) = some u) ∧ LeafIn w base w.heap.size q.1 q.2 ∧ Small (Rows.uptoBulk (D i)) q.1) (fun i hi => by
      obtain ⟨cs', h1, h2⟩ := hx i (by omega)
      obtain ⟨q, q1, q2, q3⟩ := node_open h1 h2
      refine ⟨q, fun r u hr => ?_, q2, q3⟩
      have := q1 r u hr
      rwa [show Try.prog.cellsOf 81 = 7 from by kernel_rfl, Go.Deep.add_add] at this)
    have hg : ∀ i p, ((List.range len).map F)[i]? = some p → i < len ∧ p = F i := by
      intro i p hp
      rw [List.getElem?_map] at hp
      obtain ⟨j, hj, rfl⟩ := Option.map_eq_some_iff.1 hp
      obtain ⟨h1, h2⟩ := List.getElem?_eq_some_iff.1 hj
      rw [List.getElem_range] at h2
      subst h2
      exact ⟨by simpa using h1, rfl⟩
    have hrow : Row w base w.heap.size 7 (some a) len cap (allCells ((List.range len).map F)) := by
      refine row_of (by rw [allCells_len]; simp) (by omega) hl hm hb ?_
      refine flat_cells ndCells_len (by omega) _ a (fun i p hp r u hr => ?_)
      obtain ⟨hi, rfl⟩ := hg i p hp
      exact (hF i hi).1 r u hr
    refine ⟨some a, len, cap, ((List.range len).map F).map (·.1), rfl, ⟨by simp, hl, hm, fun h0 => ?_⟩, fun nd hnd => ?_, ?_⟩
    · obtain ⟨b, o, hA, hb1, hb2, hc⟩ := hrow.2.2.2 h0
      refine ⟨b, o, hA, hb1, hb2, fun i => (F i).2, fun i nd hi => ?_⟩
      rw [List.getElem?_map] at hi
      obtain ⟨p, hp, rfl⟩ := Option.map_eq_some_iff.1 hi
      obtain ⟨hil, rfl⟩ := hg i p hp
      have key : ∀ j u, j < 7 → (ndCells (F i))[j]? = some u → w.cell? ⟨b, o + i * 7 + j, none⟩ = some u := by
        intro j u hj hu
        have := hc (i * 7 + j) u (by unfold allCells; rw [flatN_get ndCells_len _ i _ hp j hj]; exact hu)
        rwa [Nat.add_assoc]
      exact ⟨⟨key 0 _ (by omega) rfl, key 1 _ (by omega) rfl, key 2 _ (by omega) rfl, key 3 _ (by omega) rfl, key 4 _ (by omega) rfl, key 5 _ (by omega) rfl, key 6 _ (by omega) rfl⟩, (hF i hil).2.1⟩
    · obtain ⟨p, hp, rfl⟩ := List.mem_map.1 hnd
      obtain ⟨i, hi⟩ := List.getElem?_of_mem hp
      obtain ⟨hil, rfl⟩ := hg i p hi
      have h1 := (hF i hil).2.2
      have h2 := bulk_mem (List.mem_map_of_mem (f := D) (List.mem_range.2 hil))
      simp only [Rows.uptoBulk]
      exact ⟨by have := h1.p; omega, by have := h1.k; omega, by have := h1.r; omega⟩
    · have h1 := bulk_len ((List.range len).map D)
      simp only [Rows.uptoBulk]
      simp at h1
      omega
set_option maxRecDepth 20000 in
/-- a model handed in, opened -/
theorem model_open {r : Reach} {b0 : Nat} {v : Value} {d : DataW H} {p : List MemPlace} (hv : Value.okWide Try.prog w r b0 24 v) (h : DataW.Trod enc Try.prog w base spare held 24 v d p) :
    ∃ (next : Int) (A : Option Addr) (n c : Nat) (nds : List Nd), v = .agg #[.int .i64 next, .slice A n c] ∧ NodesIn w base w.heap.size A n c nds ∧ (∀ nd ∈ nds, Small (Rows.uptoBulk d) nd) ∧ n ≤ Rows.uptoBulk d := by
  obtain ⟨v0, v1, y0, y1, n, rfl, rfl, rfl, t0, t1⟩ := open_agg2 Try.underlying24 (by kernel_rfl) (by kernel_rfl) hv h
  obtain ⟨i0, e0, _, _⟩ := DataW.trod_int Try.underlying3 t0
  obtain rfl : v0 = .int .i64 i0 := by simpa using e0
  obtain ⟨A, k, c, nds, rfl, h1, h2, h3⟩ := nodes_open t1
  have hb : Rows.uptoBulk y1.1 ≤ Rows.uptoBulk (DataW.agg [y0.1, y1.1]) := by
    simp only [Rows.uptoBulk, Rows.uptoBulkAll]; omega
  exact ⟨i0, A, k, c, nds, rfl, h1, fun nd hnd => ⟨Nat.le_trans (h2 nd hnd).p hb, Nat.le_trans (h2 nd hnd).k hb, Nat.le_trans (h2 nd hnd).r hb⟩, Nat.le_trans h3 hb⟩
end
section
variable {H : Type} {enc : TypeId × Value → H} {P : Program}
/-- what the row asks behind the call, where all that was there before lies as it lay: the same readings again -/
theorem post_read {f : Func} {s : ChangeSpec} {W W' : World} {args : Array Value} {v : Value} {ds gs : List (DataW H)} {before q : List MemPlace} (hW : DataW.Whole enc P f.params.toList s.vars false W args.toList ds gs before)
    (hres : DataW.TrodAll enc P W' W.heap.size (fun _ => false) false f.resultTypes.toList (v.resultList f.resultTypes.size) (s.fn H (ds ++ gs)).results [])
    (hargs : DataW.TrodAll enc P W' 0 (fun b => decide (b < W.heap.size)) true f.params.toList args.toList (s.fn H (ds ++ gs)).args q)
    (hvars : DataW.TrodVars enc P W' (fun b => decide (b < W.heap.size)) s.vars (s.fn H (ds ++ gs)).vars []) (hb : Below W.heap.size W W') :
    s.post enc P f false true false false W args v W' :=
  ⟨ds, gs, before, [], q, [], hW, hres, hargs, hvars, hb.frame _, fun h => by cases h⟩
end
end Go.Proofs.Yteccblmdfjbljaa

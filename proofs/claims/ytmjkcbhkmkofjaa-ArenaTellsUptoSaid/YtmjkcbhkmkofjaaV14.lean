/-
  WALKS: a model's lists are written over.
-/
import Derived.Test.YtmjkcbhkmkofjaaV13
namespace Go.Proofs.Ytmjkcbhkmkofjaa
open Go Go.RowKit Go.Sort
set_option linter.unusedVariables false
attribute [local go_sem ↓] Go.wp_at_zero Go.wp_at_succ

/-- lists of the call's own, whatever they hold -/
structure SpL (w : World) (B : Nat) (L : Leaf) : Prop where
  p : ∃ xs, w.ownsRow B 63 2 (.slice L.p.A L.p.n L.p.c) L.p.n xs
  k : ∃ xs, w.ownsRow B 3 1 (.slice L.k.A L.k.n L.k.c) L.k.n xs
  r : ∃ xs, w.ownsRow B 65 2 (.slice L.r.A L.r.n L.r.c) L.r.n xs
theorem OwnLeaf.spL {w : World} {B : Nat} {nd : Nd} {L : Leaf} (h : OwnLeaf w B nd L) : SpL w B L := ⟨⟨_, h.p⟩, ⟨_, h.k⟩, ⟨_, h.r⟩⟩
theorem own_ex_set {w : World} {B size n : Nat} {e : TypeId} {v : Value} (h : ∃ xs, w.ownsRow B e size v n xs) (g i : Nat) (u : Value) : ∃ xs, (w.setCell ⟨g, i, none⟩ u).ownsRow B e size v n xs := by
  obtain ⟨xs, h⟩ := h
  rcases h.2 with ⟨hv, hn⟩ | ⟨g', cap, cur, rfl, hb, hg, rest⟩
  · exact ⟨xs, h.1, .inl ⟨hv, hn⟩⟩
  · by_cases e1 : g' = g
    · subst e1
      exact ⟨_, (World.ownsRow.stored h i u).1⟩
    · refine ⟨xs, h.1, .inr ⟨g', cap, cur, rfl, hb, ?_, rest⟩⟩
      rw [Below.heap_setCell _ ⟨g, i, none⟩ _ _ e1]
      exact hg
theorem SpL.set {w : World} {B : Nat} {L : Leaf} (h : SpL w B L) (g i : Nat) (u : Value) : SpL (w.setCell ⟨g, i, none⟩ u) B L := ⟨own_ex_set h.p g i u, own_ex_set h.k g i u, own_ex_set h.r g i u⟩
theorem SpL.after {w w' : World} {B : Nat} {L : Leaf} (h : SpL w B L) (hb : Below w.heap.size w w') : SpL w' B L := by
  obtain ⟨⟨a, h1⟩, ⟨b, h2⟩, ⟨c, h3⟩⟩ := h
  exact ⟨⟨a, own_after h1 hb⟩, ⟨b, own_after h2 hb⟩, ⟨c, own_after h3 hb⟩⟩
/-- a cell of such a list can be written -/
theorem own_cell {w : World} {B size n c : Nat} {e : TypeId} {A : Option Addr} (h : ∃ xs, w.ownsRow B e size (.slice A n c) n xs) (hn : 0 < n) :
    ∃ g cs, A = some ⟨g, 0, none⟩ ∧ Blk w g e cs ∧ B ≤ g ∧ n ≤ c ∧ c ≤ maxLen ∧ ∀ j, j < n * size → (∃ u, w.cell? ⟨g, j, none⟩ = some u) ∧ w.frozen? ⟨g, j, none⟩ = false := by
  obtain ⟨xs, h⟩ := h
  have hr := own_row h
  rcases h.2 with ⟨hv, h0⟩ | ⟨g, cap, cur, hv, hb, hg, h1, h2, rest⟩
  · omega
  · injection hv with hA _ hc
    subst hA hc
    refine ⟨g, cur, rfl, hg, hb, h1, h2, fun j hj => ⟨?_, World.ownsRow.frozenAt h j⟩⟩
    rw [World.ownsRow.cellAt h j hj, List.getElem?_eq_getElem (by rw [h.1]; exact hj)]
    exact ⟨_, rfl⟩

/-- a model of the call's own, whose lists are written over -/
structure SP (w : World) (B : Nat) (x : Int) (A : Option Addr) (n c : Nat) (l : List (Nd × Leaf)) (X : World) : Prop where
  m : Blk X w.heap.size 24 #[.int .i64 x, .slice A n c]
  own : OwnN X B (.slice A n c) l
  leaf : ∀ p ∈ l, SpL X B p.2
  bel : Below B w X
structure SB (w : World) (B : Nat) (x : Int) (A : Option Addr) (n c : Nat) (l : List (Nd × Leaf)) (g : Nat) (cs : Array Value) (X : World) : Prop where
  s : SP w B x A n c l X
  b : Blk X g 51 cs
section
variable {w X X' : World} {B : Nat} {x : Int} {A : Option Addr} {n c : Nat} {l : List (Nd × Leaf)}
theorem SP.after (h : SP w B x A n c l X) (hB : B ≤ X.heap.size) (hb : Below X.heap.size X X') : SP w B x A n c l X' := ⟨h.m.after hb, own_after h.own hb, fun p hp => (h.leaf p hp).after hb, h.bel.trans (hb.mono hB)⟩
theorem SP.set (h : SP w B x A n c l X) {g : Nat} {t : TypeId} {cs : Array Value} (hg : Blk X g t cs) (hB : B ≤ g) (h1 : 24 ≠ t) (h2 : 51 ≠ t) (i : Nat) (u : Value) : SP w B x A n c l (X.setCell ⟨g, i, none⟩ u) :=
  ⟨h.m.far (p := ⟨g, i, none⟩) (h.m.ne_ hg h1) u, own_other h.own hg h2 i u, fun p hp => (h.leaf p hp).set g i u, h.bel.setCell (p := ⟨g, i, none⟩) hB u⟩
theorem SB.set {gb : Nat} {cb : Array Value} (h : SB w B x A n c l gb cb X) {g : Nat} {t : TypeId} {cs : Array Value} (hg : Blk X g t cs) (hB : B ≤ g) (h1 : 24 ≠ t) (h2 : 51 ≠ t) (i : Nat) (u : Value) : SB w B x A n c l gb cb (X.setCell ⟨g, i, none⟩ u) :=
  ⟨h.s.set hg hB h1 h2 i u, h.b.far (p := ⟨g, i, none⟩) (h.b.ne_ hg h2) u⟩
theorem SP.node (h : SP w B x A n c l X) (hn : l.length = n) {i : Nat} {p : Nd × Leaf} (hp : l[i]? = some p) : ∃ g, A = some ⟨g, 0, none⟩ ∧ B ≤ g ∧ n ≤ c ∧ c ≤ maxLen ∧ NodeAt X g (i * 7) p.1 p.2 ∧ X.frozen? ⟨g, i * 7, none⟩ = false := by
  subst hn
  have hi : i < l.length := (List.getElem?_eq_some_iff.1 hp).1
  have h0 : X.ownsRow B 51 7 (.slice A l.length c) l.length (allCells l) := h.own
  obtain ⟨g, cs, rfl, hg, hB, h1, h2, hc⟩ := own_cell ⟨_, h0⟩ (by omega)
  have key : ∀ j u, j < 7 → (ndCells p)[j]? = some u → X.cell? ⟨g, i * 7 + j, none⟩ = some u := by
    intro j u hj hu
    rw [World.ownsRow.cellAt h0 (i * 7 + j) (by omega)]
    unfold allCells
    rw [flatN_get ndCells_len l i p hp j hj]
    exact hu
  exact ⟨g, rfl, hB, h1, h2, ⟨key 0 _ (by omega) rfl, key 1 _ (by omega) rfl, key 2 _ (by omega) rfl, key 3 _ (by omega) rfl, key 4 _ (by omega) rfl, key 5 _ (by omega) rfl, key 6 _ (by omega) rfl⟩, (hc (i * 7) (by omega)).2⟩
theorem SP.setId {g : Nat} (h : SP w B x (some ⟨g, 0, none⟩) n c l X) (hn : l.length = n) {i : Nat} {p : Nd × Leaf} (hp : l[i]? = some p) (z : Int) : SP w B x (some ⟨g, 0, none⟩) n c (l.set i ({ p.1 with id := z }, p.2)) (X.setCell ⟨g, i * 7, none⟩ (.int .i64 z)) := by
  subst hn
  have h0 : X.ownsRow B 51 7 (.slice (some ⟨g, 0, none⟩) l.length c) l.length (allCells l) := h.own
  obtain ⟨cs, hg, hB, _⟩ := own_blk h0
  have h2 := (World.ownsRow.stored h0 (i * 7 + 0) (.int .i64 z)).1
  rw [allCells_set hp (by omega) (q := ({ p.1 with id := z }, p.2)) rfl] at h2
  refine ⟨h.m.far (p := ⟨g, i * 7, none⟩) (h.m.ne_ hg (by decide)) _, ?_, fun q hq => ?_, h.bel.setCell (p := ⟨g, i * 7, none⟩) hB _⟩
  · unfold OwnN
    rw [List.length_set]
    exact h2
  · rcases List.mem_or_eq_of_mem_set hq with hq | rfl
    · exact (h.leaf q hq).set _ _ _
    · exact (h.leaf p (List.mem_of_getElem? hp)).set _ _ _
end

set_option maxRecDepth 20000 in
set_option maxHeartbeats 3200000 in
theorem spoil_any (w : World) (B : Nat) (x : Int) (A : Option Addr) (n c : Nat) (l0 : List (Nd × Leaf)) (hown : OwnN w B (.slice A n c) l0) (hln : l0.length = n) (hlf : ∀ p ∈ l0, SpL w B p.2) (hB : B ≤ w.heap.size) :
    Calls Try.prog 38 #[.agg #[.int .i64 x, .slice A n c]] w fun e w' => e = .returned (.tuple #[]) ∧ Below B w w' := by
  have hS0 : SP w B x A n c l0 (w.alloc (.cells #[.int .i64 x, .slice A n c] 24)) := by
    have hb := below_box w (.cells #[.int .i64 x, .slice A n c] 24)
    exact ⟨Blk.new _ _ _, own_after hown hb, fun p hp => (hlf p hp).after hb, hb.mono hB⟩
  have HS0 := Lib.hid hS0
  clear hown hlf hS0
  go_enter Try.func38, Try.ntmps38
  go_wp2_with fail
  go_loopw [2] (fun v2 wr => ∃ (i : Nat) (l : List (Nd × Leaf)), i ≤ n ∧ v2 = .int .i64 i ∧ SP w B x A n c l wr ∧ Hid (l.length = n) ∧ w.heap.size ≤ wr.heap.size) (fun v _ => n - (intOf v).toNat)
  case atStart => exact ⟨0, l0, Nat.zero_le _, rfl, HS0.out, Lib.hid hln, by simp⟩
  case round =>
    clear HS0 hln
    obtain ⟨i, l, hi, rfl, S, HLN, hsz⟩ := hrel
    rename World => wr
    have m1 := (S.m.cell 1).trans (show _ = some (.slice A n c) from rfl)
    have HS := Lib.hid S
    by_cases hlt : i < n
    · obtain ⟨pp, hp⟩ : ∃ p, l[i]? = some p := ⟨l[i]'(by have := HLN.out; omega), List.getElem?_eq_getElem _⟩
      obtain ⟨g, hA, hgB, hnc, hcm, hat, _⟩ := S.node HLN.out hp
      have hsl := S.leaf pp (List.mem_of_getElem? hp)
      have HP := Lib.hid hp
      obtain ⟨nd, ⟨⟨Ap, np, cp⟩, ⟨Ak, nk, ck⟩, ⟨Ar, nr, cr⟩⟩⟩ := pp
      subst hA
      unfold maxLen at hcm
      obtain ⟨a0, a1, a2, a3, a4, a5, a6⟩ := hat
      simp only at a4 a5 a6
      have hbb := below_box wr (.cells #[.int .i64 nd.id, .string nd.con, .int .i64 nd.par, .string nd.role, .slice Ap np cp, .slice Ak nk ck, .slice Ar nr cr] 51)
      have HSB : Hid (SB w B x (some ⟨g, 0, none⟩) n c l wr.heap.size #[.int .i64 nd.id, .string nd.con, .int .i64 nd.par, .string nd.role, .slice Ap np cp, .slice Ak nk ck, .slice Ar nr cr] (wr.alloc (.cells #[.int .i64 nd.id, .string nd.con, .int .i64 nd.par, .string nd.role, .slice Ap np cp, .slice Ak nk ck, .slice Ar nr cr] 51))) := Lib.hid ⟨S.after (Nat.le_trans (by omega) hsz) hbb, Blk.new _ _ _⟩
      have HSZ : Hid (w.heap.size ≤ (wr.alloc (.cells #[.int .i64 nd.id, .string nd.con, .int .i64 nd.par, .string nd.role, .slice Ap np cp, .slice Ak nk ck, .slice Ar nr cr] 51)).heap.size) := Lib.hid (Nat.le_trans hsz hbb.size)
      have HPM := Lib.hid (List.mem_of_getElem? hp)
      clear S hsl hp hbb
      go_upto_region 5 with (fail)
      obtain ⟨g8, hg8⟩ : ∃ g8, g8 = wr.heap.size := ⟨_, rfl⟩
      rw [← hg8] at HSB ⊢
      clear hg8 a0 a1 a2 a3 a4 a5 a6 m1
      generalize wr.alloc (.cells #[.int .i64 nd.id, .string nd.con, .int .i64 nd.par, .string nd.role, .slice Ap np cp, .slice Ak nk ck, .slice Ar nr cr] 51) = X0 at HSB HSZ ⊢
      have hsz0 := HSZ.out
      have r4 := HSB.out.b.cell 4
      simp at r4
      go_wp2_with fail
      clear r4
      go_loopw [4] (fun v wx => ∃ q : Nat, q ≤ np ∧ v = .int .i64 q ∧ SB w B x (some ⟨g, 0, none⟩) n c l g8 #[.int .i64 nd.id, .string nd.con, .int .i64 nd.par, .string nd.role, .slice Ap np cp, .slice Ak nk ck, .slice Ar nr cr] wx ∧ w.heap.size ≤ wx.heap.size) (fun v _ => np - (intOf v).toNat)
      case atStart => exact ⟨0, Nat.zero_le _, rfl, HSB.out, hsz0⟩
      case round =>
        clear HSB
        obtain ⟨q, hq, rfl, U, hsq⟩ := hrel
        rename World => w4
        have HU4 := Lib.hid U
        have rr := U.b.cell 4
        simp at rr
        by_cases hql : q < np
        · obtain ⟨gp, cs, hAp, hgb, hgB2, hnc2, hcm2, hcl⟩ := own_cell (U.s.leaf _ HPM.out).p (Nat.lt_of_le_of_lt (Nat.zero_le _) hql)
          simp only at hAp hgb hgB2 hnc2 hcm2 hcl
          subst hAp
          unfold maxLen at hcm2
          obtain ⟨⟨uz, hu1⟩, hu2⟩ := hcl (q * 2 + 1) (by omega)
          have HX := Lib.hid (U.set hgb hgB2 (by decide) (by decide) (q * 2 + 1) (.string ⟨#[115, 112, 111, 105, 108, 116]⟩))
          clear U hcl hgb
          skip
          go_wp2_with fail
          go_roundw
          case measure => simp only [intOf]; omega
          case rel => exact ⟨q + 1, by omega, by simp, HX.out, by simpa [World.setCell] using hsq⟩
        · have hqn : np = q := by omega
          subst hqn
          clear U
          have r5 := HU4.out.b.cell 5
          simp at r5
          go_wp2_with fail
          clear r5 rr
          go_loopw [5] (fun v wx => ∃ q : Nat, q ≤ nk ∧ v = .int .i64 q ∧ SB w B x (some ⟨g, 0, none⟩) n c l g8 #[.int .i64 nd.id, .string nd.con, .int .i64 nd.par, .string nd.role, .slice Ap np cp, .slice Ak nk ck, .slice Ar nr cr] wx ∧ w.heap.size ≤ wx.heap.size) (fun v _ => nk - (intOf v).toNat)
          case atStart => exact ⟨0, Nat.zero_le _, rfl, HU4.out, hsq⟩
          case round =>
            clear HU4
            obtain ⟨q, hq, rfl, U, hsq⟩ := hrel
            rename World => w5
            have HU5 := Lib.hid U
            have rr := U.b.cell 5
            simp at rr
            by_cases hql : q < nk
            · obtain ⟨gp, cs, hAp, hgb, hgB2, hnc2, hcm2, hcl⟩ := own_cell (U.s.leaf _ HPM.out).k (Nat.lt_of_le_of_lt (Nat.zero_le _) hql)
              simp only at hAp hgb hgB2 hnc2 hcm2 hcl
              subst hAp
              unfold maxLen at hcm2
              obtain ⟨⟨uz, hu1⟩, hu2⟩ := hcl (q * 1) (by omega)
              have HX := Lib.hid (U.set hgb hgB2 (by decide) (by decide) (q * 1) (.int .i64 (-9)))
              clear U hcl hgb
              simp only [Nat.mul_one] at hu1 hu2 HX
              go_wp2_with fail
              go_roundw
              case measure => simp only [intOf]; omega
              case rel => exact ⟨q + 1, by omega, by simp, HX.out, by simpa [World.setCell] using hsq⟩
            · have hqn : nk = q := by omega
              subst hqn
              clear U
              have r6 := HU5.out.b.cell 6
              simp at r6
              go_wp2_with fail
              clear r6 rr
              go_loopw [6] (fun v wx => ∃ q : Nat, q ≤ nr ∧ v = .int .i64 q ∧ SB w B x (some ⟨g, 0, none⟩) n c l g8 #[.int .i64 nd.id, .string nd.con, .int .i64 nd.par, .string nd.role, .slice Ap np cp, .slice Ak nk ck, .slice Ar nr cr] wx ∧ w.heap.size ≤ wx.heap.size) (fun v _ => nr - (intOf v).toNat)
              case atStart => exact ⟨0, Nat.zero_le _, rfl, HU5.out, hsq⟩
              case round =>
                clear HU5
                obtain ⟨q, hq, rfl, U, hsq⟩ := hrel
                rename World => w6
                have HU6 := Lib.hid U
                have rr := U.b.cell 6
                simp at rr
                by_cases hql : q < nr
                · obtain ⟨gp, cs, hAp, hgb, hgB2, hnc2, hcm2, hcl⟩ := own_cell (U.s.leaf _ HPM.out).r (Nat.lt_of_le_of_lt (Nat.zero_le _) hql)
                  simp only at hAp hgb hgB2 hnc2 hcm2 hcl
                  subst hAp
                  unfold maxLen at hcm2
                  obtain ⟨⟨uz, hu1⟩, hu2⟩ := hcl (q * 2 + 1) (by omega)
                  have HX := Lib.hid (U.set hgb hgB2 (by decide) (by decide) (q * 2 + 1) (.int .i64 (-9)))
                  clear U hcl hgb
                  skip
                  go_wp2_with fail
                  go_roundw
                  case measure => simp only [intOf]; omega
                  case rel => exact ⟨q + 1, by omega, by simp, HX.out, by simpa [World.setCell] using hsq⟩
                · have hqn : nr = q := by omega
                  subst hqn
                  clear U
                  have hgn : SP w B x (some ⟨g, 0, none⟩) n c l w6 := HU6.out.s
                  obtain ⟨g', hA', _, _, _, hat', hfr⟩ := hgn.node HLN.out HP.out
                  injection hA' with hA'
                  injection hA' with e1
                  subst e1
                  have b0 := hat'.c0
                  have m2 := (hgn.m.cell 1).trans (show _ = some (.slice (some ⟨g, 0, none⟩) n c) from rfl)
                  have HE := Lib.hid (hgn.setId HLN.out HP.out (-9))
                  clear hgn hat'
                  go_wp2_with fail
                  go_roundw
                  case measure => simp only [intOf]; omega
                  case rel => exact ⟨i + 1, _, by omega, by simp, HE.out, Lib.hid (by rw [List.length_set]; exact HLN.out), by simpa [World.setCell] using hsq⟩
    · have hin : i = n := by omega
      subst hin
      clear S
      go_wp2_with fail
      (try simp only [Exit.inBlock, Exit.then])
      first | refine bodyPost_ret (results_none (by kernel_rfl) _ _ _) rfl ?_ | refine bodyPost_end (results_none (by kernel_rfl) _ _ _) rfl ?_
      exact ⟨rfl, HS.out.bel⟩
end Go.Proofs.Ytmjkcbhkmkofjaa

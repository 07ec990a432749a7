/-
  WALKS: is a lent model as it was, with its marks?
-/
import Derived.Test.YtmjkcbhkmkofjaaW17
import Derived.Test.YtmjkcbhkmkofjaaW18
namespace Go.Proofs.Ytmjkcbhkmkofjaa
open Go Go.RowKit Go.Sort
set_option linter.unusedVariables false
attribute [local go_sem ↓] Go.wp_at_zero Go.wp_at_succ

theorem MarkIn.row {w : World} {B : Nat} {e : TypeId} {size n : Nat} {s : Sl} {xs mark : List Value} (h : MarkIn w B e size s n xs mark) (hx : xs.length = n * size) : Row w B w.heap.size size s.A s.n s.c xs := by
  have h1 := own_row (own_take h.2.2 (Nat.le_succ n) h.2.1)
  rw [show (xs ++ mark).take (n * size) = xs from by rw [← hx]; simp] at h1
  rw [h.1]
  exact h1
/-- the mark behind the end: the room is there, and what lies in it -/
theorem MarkIn.mark {w : World} {B : Nat} {e : TypeId} {size n : Nat} {s : Sl} {xs : List Value} {m0 : Value} {ms : List Value} (h : MarkIn w B e size s n xs (m0 :: ms)) (hx : xs.length = n * size) :
    ∃ b o, s.A = some ⟨b, o, none⟩ ∧ b < w.heap.size ∧ s.n + 1 ≤ s.c ∧ s.c ≤ maxLen ∧ w.cell? ⟨b, o + s.n * size, none⟩ = some m0 := by
  have h1 := own_row h.2.2
  obtain ⟨b, o, hA, _, hb, hc⟩ := h1.2.2.2 (Nat.succ_pos _)
  refine ⟨b, o, hA, hb, ?_, h1.2.2.1, hc _ _ ?_⟩
  · rw [h.1]; exact h1.2.1
  · rw [h.1, ← hx]; simp
theorem LentLeaf.leafIn {w : World} {B : Nat} {nd : Nd} {L : Leaf} (h : LentLeaf w B nd L) : LeafIn w B w.heap.size nd L :=
  ⟨h.p.1, h.k.1, h.r.1, h.p.row (propCells_length _), h.k.row (by rw [intCells_length]; omega), h.r.row (refCells_length _), h.sz⟩
theorem LentAt.ownN {w : World} {B n c : Nat} {A : Option Addr} {nds : List Nd} {l : List (Nd × Leaf)} (h : LentAt w B A n c nds l) : OwnN w B (.slice A n c) l := by
  have h1 := own_take h.own (Nat.le_succ n) h.some_
  rw [show (allCells l ++ markNd).take (n * 7) = allCells l from by rw [← h.len, ← allCells_len]; simp] at h1
  unfold OwnN
  rw [h.len]
  exact h1
theorem LentAt.nodesIn {w : World} {B n c : Nat} {A : Option Addr} {nds : List Nd} {l : List (Nd × Leaf)} (h : LentAt w B A n c nds l) : NodesIn w B w.heap.size A n c nds := by
  rw [← h.nds_]
  exact h.ownN.nodesIn h.len (fun p hp => (h.leaf p hp).leafIn) (Nat.le_refl _) (Nat.le_refl _)
theorem LentAt.after {w w' : World} {B n c : Nat} {A : Option Addr} {nds : List Nd} {l : List (Nd × Leaf)} (h : LentAt w B A n c nds l) (hb : Below w.heap.size w w') : LentAt w' B A n c nds l :=
  ⟨h.nds_, h.len, fun p hp => (h.leaf p hp).after hb, h.some_, own_after h.own hb, h.le, h.max⟩
/-- where the nodes lie, each with its marks, and the last mark -/
theorem LentAt.all {w : World} {B n c : Nat} {A : Option Addr} {nds : List Nd} {l : List (Nd × Leaf)} (h : LentAt w B A n c nds l) :
    ∃ b o, A = some ⟨b, o, none⟩ ∧ b < w.heap.size ∧ w.cell? ⟨b, o + n * 7, none⟩ = some (.int .i64 (-7)) ∧ ∀ i p, l[i]? = some p → NodeAt w b (o + i * 7) p.1 p.2 ∧ LentLeaf w B p.1 p.2 := by
  have h1 := own_row h.own
  obtain ⟨b, o, hA, _, hb, hc⟩ := h1.2.2.2 (Nat.succ_pos _)
  refine ⟨b, o, hA, hb, hc _ _ (by rw [← h.len, ← allCells_len]; simp [markNd]), fun i p hp => ?_⟩
  have hi : i < l.length := (List.getElem?_eq_some_iff.1 hp).1
  have key : ∀ j u, j < 7 → (ndCells p)[j]? = some u → w.cell? ⟨b, o + i * 7 + j, none⟩ = some u := by
    intro j u hj hu
    have hlt : i * 7 + j < (allCells l).length := by rw [allCells_len]; omega
    have := hc (i * 7 + j) u (by rw [List.getElem?_append_left hlt]; unfold allCells; rw [flatN_get ndCells_len l i p hp j hj]; exact hu)
    rwa [Nat.add_assoc]
  exact ⟨⟨key 0 _ (by omega) rfl, key 1 _ (by omega) rfl, key 2 _ (by omega) rfl, key 3 _ (by omega) rfl, key 4 _ (by omega) rfl, key 5 _ (by omega) rfl, key 6 _ (by omega) rfl⟩, h.leaf p (List.mem_of_getElem? hp)⟩

set_option maxRecDepth 100000 in
set_option maxHeartbeats 6400000 in
theorem kept_any (w : World) (B hi : Nat) (next : Int) (A A' : Option Addr) (n c n' c' : Nat) (nds : List Nd) (l : List (Nd × Leaf)) (h : LentAt w B A n c nds l) (h' : NodesIn w 0 hi A' n' c' nds) (hh : hi ≤ w.heap.size) :
    Calls Try.prog 15 #[.agg #[.int .i64 next, .slice A n c], .agg #[.int .i64 next, .slice A' n' c']] w (Ret w (.bool true)) := by
  have hle := h.le
  have hmx := h.max
  unfold maxLen at hmx
  have hM := M2.start w next next A A' n c n' c'
  have HM0 := Lib.hid hM
  obtain ⟨b, o, hA, hb, hmk, hall⟩ := h.all
  subst hA
  have q0 := cell_regrown ((hM.a.cell 0).trans (show _ = some (.int .i64 next) from rfl))
  have q1 := cell_regrown ((hM.a.cell 1).trans (show _ = some (.slice (some ⟨b, o, none⟩) n c) from rfl))
  have q2 := cell_regrown ((hM.b.cell 0).trans (show _ = some (.int .i64 next) from rfl))
  have q3 := cell_regrown ((hM.b.cell 1).trans (show _ = some (.slice A' n' c') from rfl))
  have qm := cell_regrown ((hM.bel.cell (p := ⟨b, _, none⟩) hb).trans hmk)
  have HS : Hid (∀ d os, Calls Try.prog 14 #[.agg #[.int .i64 next, .slice (some ⟨b, o, none⟩) n c], .agg #[.int .i64 next, .slice A' n' c']] (grow (redrawn ((w.alloc (.cells #[.int .i64 next, .slice (some ⟨b, o, none⟩) n c] 24)).alloc (.cells #[.int .i64 next, .slice A' n' c'] 24)) d) os) (Ret (grow (redrawn ((w.alloc (.cells #[.int .i64 next, .slice (some ⟨b, o, none⟩) n c] 24)).alloc (.cells #[.int .i64 next, .slice A' n' c'] 24)) d) os) (.bool true))) := Lib.hid fun d os => by
    have hbz := hM.bel.trans ((below_regrown _ d os).mono hM.bel.size)
    have := refSame_any _ (grow (redrawn ((w.alloc (.cells #[.int .i64 next, .slice (some ⟨b, o, none⟩) n c] 24)).alloc (.cells #[.int .i64 next, .slice A' n' c'] 24)) d) os).heap.size next next _ A' n c n' c' nds nds (((h.after hbz).nodesIn).mono (Nat.zero_le _) (Nat.le_refl _)) ((h'.below (hbz.mono hh)).mono (Nat.le_refl _) (Nat.le_trans hh hbz.size)) (Nat.le_refl _)
    rw [mdE_refl] at this
    exact this
  have hnl := h.len
  have HAll := Lib.hid hall
  have hbm := hM.bel
  clear hM hall hmk h h'
  go_enter Try.func15, Try.ntmps15
  go_wp2_with fail
  refine wp_region_quiet_below (by kernel_rfl) (by kernel_rfl) ?_
  repeat (go_big_quiet_step ((go_at_call 14; exact regrown_ret (HS.out _ _))))
  refine wpQuiet_nil ?_
  intro _ hw'
  obtain ⟨⟨dq, osq⟩, hw''⟩ := hw'
  subst hw''
  have HM2 := Lib.hid (HM0.out.after (below_regrown _ dq osq))
  generalize grow (redrawn _ dq) osq = w2 at HM2 ⊢
  clear q0 q1 q2 q3 qm HM0 HS hbm
  go_wp2_with fail
  go_loopw [5] (fun i wr => ∃ k : Nat, k ≤ n ∧ i = .int .i64 k ∧ M2 w next next (some ⟨b, o, none⟩) A' n c n' c' wr) (fun i _ => n - (intOf i).toNat)
  case atStart => exact ⟨0, by omega, rfl, HM2.out⟩
  case round =>
    clear HM2
    obtain ⟨k, hk, rfl, M⟩ := hrel
    have c1 := M.a.cell 1
    simp at c1
    have hbel := M.bel
    have hsz := M.size
    have HM := Lib.hid M
    clear M
    by_cases hlt : k < n
    · obtain ⟨⟨nd, L⟩, hp⟩ : ∃ p, l[k]? = some p := ⟨l[k]'(by omega), List.getElem?_eq_getElem _⟩
      obtain ⟨hat, hlf⟩ := HAll.out k _ hp
      have hat2 := hat.below hbel hb
      obtain ⟨a0, a1, a2, a3, a4, a5, a6⟩ := hat2
      obtain ⟨⟨Ap, np, cp⟩, ⟨Ak, nk, ck⟩, ⟨Ar, nr, cr⟩⟩ := L
      obtain ⟨bp, op, hAp, hbp, hrp, hxp, hcp⟩ := hlf.p.mark (propCells_length _)
      obtain ⟨bk, ok, hAk, hbk, hrk, hxk, hck⟩ := hlf.k.mark (by rw [intCells_length]; omega)
      obtain ⟨br, orr, hAr, hbr, hrr, hxr, hcr⟩ := hlf.r.mark (refCells_length _)
      simp only at a4 a5 a6 hAp hAk hAr hrp hrk hrr hxp hxk hxr hcp hck hcr
      subst hAp hAk hAr
      unfold maxLen at hxp hxk hxr
      rw [Nat.mul_one] at hck
      have e4 := (hbel.cell (p := ⟨bp, _, none⟩) hbp).trans hcp
      have e5 := (hbel.cell (p := ⟨bk, _, none⟩) hbk).trans hck
      have e6 := (hbel.cell (p := ⟨br, _, none⟩) hbr).trans hcr
      unfold markS at e4 e6
      have z4 := cell_alloc e4 (by omega) (.cells #[.int .i64 nd.id, .string nd.con, .int .i64 nd.par, .string nd.role, .slice (some ⟨bp, op, none⟩) np cp, .slice (some ⟨bk, ok, none⟩) nk ck, .slice (some ⟨br, orr, none⟩) nr cr] 51)
      have z5 := cell_alloc e5 (by omega) (.cells #[.int .i64 nd.id, .string nd.con, .int .i64 nd.par, .string nd.role, .slice (some ⟨bp, op, none⟩) np cp, .slice (some ⟨bk, ok, none⟩) nk ck, .slice (some ⟨br, orr, none⟩) nr cr] 51)
      have z6 := cell_alloc e6 (by omega) (.cells #[.int .i64 nd.id, .string nd.con, .int .i64 nd.par, .string nd.role, .slice (some ⟨bp, op, none⟩) np cp, .slice (some ⟨bk, ok, none⟩) nk ck, .slice (some ⟨br, orr, none⟩) nr cr] 51)
      have HBx := Lib.hid (Blk.new wr 51 #[.int .i64 nd.id, .string nd.con, .int .i64 nd.par, .string nd.role, .slice (some ⟨bp, op, none⟩) np cp, .slice (some ⟨bk, ok, none⟩) nk ck, .slice (some ⟨br, orr, none⟩) nr cr])
      clear hat hlf hp e4 e5 e6 hcp hck hcr
      go_upto_region 7 with (fail)
      obtain ⟨g6, hg6⟩ : ∃ g6, g6 = wr.heap.size := ⟨_, rfl⟩
      rw [← hg6] at HBx ⊢
      have HM3 := Lib.hid (HM.out.after (below_more (Below.refl _ _) (.cells #[.int .i64 nd.id, .string nd.con, .int .i64 nd.par, .string nd.role, .slice (some ⟨bp, op, none⟩) np cp, .slice (some ⟨bk, ok, none⟩) nk ck, .slice (some ⟨br, orr, none⟩) nr cr] 51)))
      have HG6 := Lib.hid hg6
      clear hg6
      generalize wr.alloc _ = X at z4 z5 z6 HBx HM3 ⊢
      have y4 := HBx.out.cell 4
      have y5 := HBx.out.cell 5
      have y6 := HBx.out.cell 6
      simp at y4 y5 y6
      go_quiet (fail)
      go_wp2_with fail
      go_roundw
      case measure => simp only [intOf]; omega
      case rel =>
        exact ⟨k + 1, by omega, by simp, HM3.out.after (below_drewN (Below.refl _ _) _)⟩
    · go_wp2_with fail
      go_ret
      exact ret_b rfl rfl HM.out.bel
end Go.Proofs.Ytmjkcbhkmkofjaa

/-
  WALKS: rest.
  WALKS: pick.
  WALKS: the program's own: what it lays is new for each node, and has no room behind it.
  WALKS: nameable; changed, whatever is done to the node.
  WALKS: changed, where nothing is told ahead: no such node; and the change.
-/
import Derived.Test.YtohinklkcinjpaaGreatZB8
import Derived.IntWalk
namespace Go.Proofs.YtohinklkcinjpaaGreat
open Go Go.RowKit
set_option linter.unusedVariables false
/-- a number's rest -/
def restV (x : Int) (n : Nat) : Nat := ((IntKind.u64.wrap x).tmod n).toNat
theorem u64_pos (x : Int) : 0 ≤ IntKind.u64.wrap x := by
  simp only [IntKind.wrap, IntKind.bits, IntKind.signed]
  first | exact Int.emod_nonneg _ (by decide) | (split <;> first | exact Int.emod_nonneg _ (by decide) | omega)
theorem restV_eq (x : Int) (n : Nat) : (IntKind.u64.wrap x).tmod n = (restV x n : Int) := by
  unfold restV
  rw [Int.toNat_of_nonneg (Int.tmod_nonneg _ (u64_pos x))]
theorem restV_lt (x : Int) {n : Nat} (h : 0 < n) : restV x n < n := by
  have h1 := Int.tmod_lt_of_pos (IntKind.u64.wrap x) (b := (n : Int)) (by omega)
  rw [restV_eq] at h1
  omega
set_option maxRecDepth 20000 in
set_option maxHeartbeats 800000 in
theorem rest_any (w : World) (x : Int) (n : Nat) (h0 : 0 < n) (h1 : n ≤ 5000) :
    Calls Tryz.prog 16 #[.int .i64 x, .int .i64 n] w fun e w' => e = .returned (.int .i64 (restV x n)) ∧ w = w' := by
  have hlt := restV_lt x h0
  have HW : Hid (wrap64 ((IntKind.u64.wrap x).tmod n) = (restV x n : Int)) := Lib.hid (by
    rw [restV_eq]
    exact IntWalk.wrap64_in (restV x n : Int) (by omega))
  clear hlt
  go_enter Tryz.func16, Tryz.ntmps16
  go_wp2_with fail
  go_ret
  exact ⟨by rw [HW.out]; rfl, rfl⟩
end Go.Proofs.YtohinklkcinjpaaGreat
namespace Go.Proofs.YtohinklkcinjpaaGreat
open Go Go.RowKit Go.Sort
set_option linter.unusedVariables false
attribute [local go_sem ↓] Go.wp_at_zero Go.wp_at_succ
/-- one of a model's numbers, or 0 -/
def pickV (next : Int) (nds : List Nd) (x : Int) : Int := (orderR next nds).getD (restV x ((orderR next nds).length + 1)) 0
theorem orderR_len {next : Int} {nds : List Nd} : (orderR next nds).length ≤ 4096 := by
  unfold orderR
  cases hr : rightB next nds with
  | false => simp
  | true => rw [if_pos rfl]; exact Nat.le_trans (order_len (rightM hr)) (rightM hr).len
set_option maxRecDepth 20000 in
set_option maxHeartbeats 1600000 in
theorem pick_any (w : World) (hi : Nat) (next x : Int) (A : Option Addr) (n c : Nat) (nds : List Nd) (h : NodesIn w 0 hi A n c nds) (hh : hi ≤ w.heap.size) :
    Calls Tryz.prog 15 #[.agg #[.int .i64 next, .slice A n c], .int .i64 x] w (Ret w (.int .i64 (pickV next nds x))) := by
  have HM0 := Lib.hid (M1.start w next A n c)
  have HO := Lib.hid (order_any _ hi next A n c nds (h.below (HM0.out.bel.mono hh)) (Nat.le_trans hh HM0.out.bel.size))
  have hl4 := orderR_len (next := next) (nds := nds)
  have hpv : pickV next nds x = (orderR next nds).getD (restV x ((orderR next nds).length + 1)) 0 := rfl
  rw [hpv]
  obtain ⟨l, hl⟩ : ∃ l, orderR next nds = l := ⟨_, rfl⟩
  rw [hl] at HO hl4 ⊢
  obtain ⟨r, hr⟩ : ∃ r, restV x (l.length + 1) = r := ⟨_, rfl⟩
  have hrl : r < l.length + 1 := by rw [← hr]; exact restV_lt x (by omega)
  have HRe : Hid (∀ X, Calls Tryz.prog 16 #[.int .i64 x, .int .i64 (l.length + 1 : Nat)] X fun e w' => e = .returned (.int .i64 r) ∧ X = w') := Lib.hid fun X => by
    have := rest_any X x (l.length + 1) (by omega) (by omega)
    rw [hr] at this
    exact this
  rw [hr]
  clear hpv hl hr h
  have m0 := HM0.out.a.cell 0
  have m1 := HM0.out.a.cell 1
  simp at m0 m1
  go_enter Tryz.func15, Tryz.ntmps15
  go_upto_region 2 with (go_at_call 10; (with_reducible refine HO.out.mono ?_); go_must (rintro e w2 ⟨lv, rfl, hlv, hb2⟩; obtain ⟨Al, cl, rfl⟩ := own_form hlv; have HV := Lib.hid (own_row hlv); have HM2 := Lib.hid (HM0.out.after hb2); clear hlv hb2))
  by_cases hrn : r = l.length
  · have HD : Hid (l.getD r 0 = 0) := Lib.hid (by rw [hrn, List.getD_eq_getElem?_getD, List.getElem?_eq_none (Nat.le_refl _)]; rfl)
    have he : ((r : Int) == (l.length : Int)) = true := by rw [beq_iff_eq]; omega
    have HRN := Lib.hid hrn
    clear hrn
    go_wp2_with (go_at_call 16; go_must (refine (HRe.out _).mono ?_; rintro e w3 ⟨rfl, rfl⟩))
    go_ret
    exact ⟨by rw [HD.out]; rfl, HM2.out.bel⟩
  · have hlt : r < l.length := by omega
    have he : ((r : Int) == (l.length : Int)) = false := by rw [beq_eq_false_iff_ne]; omega
    obtain ⟨b, o, hA, _, _, hc⟩ := HV.out.at_ (Nat.lt_of_le_of_lt (Nat.zero_le _) hlt)
    subst hA
    have hcm := HV.out.2.2.1
    have hcn := HV.out.2.1
    unfold maxLen at hcm
    have c0 := hc r _ (intCells_get (List.getElem?_eq_getElem hlt))
    have HD : Hid (l.getD r 0 = l[r]) := Lib.hid (by rw [List.getD_eq_getElem?_getD, List.getElem?_eq_getElem hlt]; rfl)
    obtain ⟨y, hy⟩ : ∃ y, l[r] = y := ⟨_, rfl⟩
    rw [hy] at c0 HD
    clear hc hy
    have HRN := Lib.hid hrn
    clear hrn
    go_wp2_with (go_at_call 16; go_must (refine (HRe.out _).mono ?_; rintro e w3 ⟨rfl, rfl⟩))
    go_ret
    exact ⟨by rw [HD.out]; rfl, HM2.out.bel⟩
end Go.Proofs.YtohinklkcinjpaaGreat
namespace Go.Proofs.YtohinklkcinjpaaGreat
open Go Go.RowKit Go.Sort
set_option linter.unusedVariables false
attribute [local go_sem ↓] Go.wp_at_zero Go.wp_at_succ
/-- lists without room; an empty one is nil -/
structure Tight (M : Leaf) : Prop where
  pc : M.p.c = M.p.n
  kc : M.k.c = M.k.n
  rc : M.r.c = M.r.n
  p0 : M.p.n = 0 → M.p.A = none
  k0 : M.k.n = 0 → M.k.A = none
  r0 : M.r.n = 0 → M.r.A = none
def NoClash (s s' : Sl) : Prop := ∀ g, s.v.ownBlock = some g → s'.v.ownBlock ≠ some g
/-- no two nodes' lists lie in one block -/
structure Dist (l : List (Nd × Leaf)) : Prop where
  tight : ∀ p ∈ l, Tight p.2
  apart : ∀ (i j : Nat) p q, i ≠ j → l[i]? = some p → l[j]? = some q → NoClash p.2.p q.2.p ∧ NoClash p.2.r q.2.r
theorem Dist.push {l : List (Nd × Leaf)} {p : Nd × Leaf} {X X' : World} {B : Nat} (h : Dist l) (hl : ∀ q ∈ l, OwnLeaf X B q.1 q.2) (hp : OwnLeaf X' X.heap.size p.1 p.2) (ht : Tight p.2) : Dist (l ++ [p]) := by
  have old : ∀ q ∈ l, NoClash q.2.p p.2.p ∧ NoClash q.2.r p.2.r ∧ NoClash p.2.p q.2.p ∧ NoClash p.2.r q.2.r := by
    intro q hq
    have ho := hl q hq
    refine ⟨fun g h1 h2 => ?_, fun g h1 h2 => ?_, fun g h1 h2 => ?_, fun g h1 h2 => ?_⟩
    · have := own_lt ho.p h1; have := own_base hp.p h2; omega
    · have := own_lt ho.r h1; have := own_base hp.r h2; omega
    · have := own_lt ho.p h2; have := own_base hp.p h1; omega
    · have := own_lt ho.r h2; have := own_base hp.r h1; omega
  have last : ∀ (i : Nat) q, (l ++ [p])[i]? = some q → (i < l.length ∧ l[i]? = some q) ∨ (i = l.length ∧ q = p) := by
    intro i q hq
    rcases Nat.lt_or_ge i l.length with hi | hi
    · rw [List.getElem?_append_left hi] at hq; exact .inl ⟨hi, hq⟩
    · rw [List.getElem?_append_right hi] at hq
      have h0 : i - l.length = 0 := by
        rcases Nat.eq_zero_or_pos (i - l.length) with h0 | h0
        · exact h0
        · rw [List.getElem?_eq_none (by simp; omega)] at hq; cases hq
      rw [h0] at hq
      exact .inr ⟨by omega, by simpa using hq.symm⟩
  refine ⟨fun q hq => ?_, fun i j q r hij hq hr => ?_⟩
  · rcases List.mem_append.1 hq with hq | hq
    · exact h.tight q hq
    · obtain rfl : q = p := by simpa using hq
      exact ht
  · rcases last i q hq with ⟨h1, h2⟩ | ⟨h1, rfl⟩ <;> rcases last j r hr with ⟨h3, h4⟩ | ⟨h3, rfl⟩
    · exact h.apart i j q r hij h2 h4
    · have := old q (List.mem_of_getElem? h2); exact ⟨this.1, this.2.1⟩
    · have := old r (List.mem_of_getElem? h4); exact ⟨this.2.2.1, this.2.2.2⟩
    · omega
set_option maxHeartbeats 1600000 in
theorem ownProps_tight (w : World) (lo hi : Nat) (A : Option Addr) (n c : Nat) (l : List (ByteArray × ByteArray)) (h : Row w lo hi 2 A n c (propCells l)) (hh : hi ≤ w.heap.size) (hl : n * 32 ≤ 140737488355328) :
    Calls Tryz.prog 78 #[.slice A n c] w fun e w' => ∃ A', e = .returned (.slice A' n n) ∧ w'.ownsRow w.heap.size 94 2 (.slice A' n n) n (propCells l) ∧ Below w.heap.size w w' ∧ (n = 0 → A' = none) := by
  have hc := h.2.2.1
  have hnc := h.2.1
  unfold maxLen at hc
  by_cases h0 : n = 0
  · subst h0
    have hx : propCells l = [] := List.eq_nil_of_length_eq_zero (by have := h.1; omega)
    rw [hx]
    clear h hx
    go_enter Tryz.func78, Tryz.ntmps78
    go_wp2_with fail
    go_ret
    exact ⟨none, rfl, ⟨by simp, .inl ⟨rfl, rfl⟩⟩, Below.refl _ _, fun _ => rfl⟩
  · obtain ⟨i0, hi0, hz0, hz1, hz2⟩ := info_parts propInfo
    obtain ⟨cur, hcs, hmk⟩ := make_rows 38 94 i0 _ 2 32 Tryz.underlying38 hi0 hz0 hz1 hz2 rfl n hl (by omega)
    have h' := h.mono (Nat.le_refl lo) hh
    have d0 : ((n : Int) == 0) = false := by rw [beq_eq_false_iff_ne]; omega
    have hcp := fun ty => run_copy_all (P := Tryz.prog) (w.alloc (.cells cur 94)) 38 38 ty 94 i0 2 Tryz.underlying38 hi0 hz1 w.heap.size n n 0 A c cur 94 (Blk.new w 94 cur) hcs lo w.heap.size (propCells l) (h'.keep (fun b o hb => (below_more (Below.refl _ _) _).cell (p := ⟨b, o, none⟩) hb)) (by omega) (propCells_one l)
    have hof : ((w.alloc (.cells cur 94)).setRow w.heap.size (propCells l).toArray).ownsRow w.heap.size 94 2 (.slice (some ⟨w.heap.size, 0, none⟩) n n) n (propCells l) := own_filled (w := w) (Blk.new w 94 cur) (Nat.le_refl _) (Nat.le_trans hnc (by unfold maxLen; omega)) h.1
    have hbl : Below w.heap.size w ((w.alloc (.cells cur 94)).setRow w.heap.size (propCells l).toArray) := below_setRow (below_more (Below.refl _ _) _) (Nat.le_refl _) _
    generalize (w.alloc (.cells cur 94)).setRow w.heap.size (propCells l).toArray = X at hcp hof hbl
    have HO := Lib.hid hof
    have HB := Lib.hid hbl
    have HN0 := Lib.hid h0
    clear h h' h0 hof hbl hcs
    go_enter Tryz.func78, Tryz.ntmps78
    go_wp2_with fail
    go_ret
    exact ⟨some ⟨w.heap.size, 0, none⟩, rfl, HO.out, HB.out, fun e => absurd e HN0.out⟩
set_option maxHeartbeats 1600000 in
theorem ownKids_tight (w : World) (lo hi : Nat) (A : Option Addr) (n c : Nat) (l : List Int) (h : Row w lo hi 1 A n c (intCells l)) (hh : hi ≤ w.heap.size) (hl : n * 8 ≤ 140737488355328) :
    Calls Tryz.prog 79 #[.slice A n c] w fun e w' => ∃ A', e = .returned (.slice A' n n) ∧ w'.ownsRow w.heap.size 3 1 (.slice A' n n) n (intCells l) ∧ Below w.heap.size w w' ∧ (n = 0 → A' = none) := by
  have hc := h.2.2.1
  have hnc := h.2.1
  unfold maxLen at hc
  by_cases h0 : n = 0
  · subst h0
    have hx : intCells l = [] := List.eq_nil_of_length_eq_zero (by have := h.1; omega)
    rw [hx]
    clear h hx
    go_enter Tryz.func79, Tryz.ntmps79
    go_wp2_with fail
    go_ret
    exact ⟨none, rfl, ⟨by simp, .inl ⟨rfl, rfl⟩⟩, Below.refl _ _, fun _ => rfl⟩
  · obtain ⟨i0, hi0, hz0, hz1, hz2⟩ := info_parts intInfo
    obtain ⟨cur, hcs, hmk⟩ := make_rows 33 3 i0 _ 1 8 Tryz.underlying33 hi0 hz0 hz1 hz2 rfl n hl (by omega)
    have h' := h.mono (Nat.le_refl lo) hh
    have d0 : ((n : Int) == 0) = false := by rw [beq_eq_false_iff_ne]; omega
    have hcp := fun ty => run_copy_all (P := Tryz.prog) (w.alloc (.cells cur 3)) 33 33 ty 3 i0 1 Tryz.underlying33 hi0 hz1 w.heap.size n n 0 A c cur 3 (Blk.new w 3 cur) hcs lo w.heap.size (intCells l) (h'.keep (fun b o hb => (below_more (Below.refl _ _) _).cell (p := ⟨b, o, none⟩) hb)) (by omega) (intCells_one l)
    have hof : ((w.alloc (.cells cur 3)).setRow w.heap.size (intCells l).toArray).ownsRow w.heap.size 3 1 (.slice (some ⟨w.heap.size, 0, none⟩) n n) n (intCells l) := own_filled (w := w) (Blk.new w 3 cur) (Nat.le_refl _) (Nat.le_trans hnc (by unfold maxLen; omega)) h.1
    have hbl : Below w.heap.size w ((w.alloc (.cells cur 3)).setRow w.heap.size (intCells l).toArray) := below_setRow (below_more (Below.refl _ _) _) (Nat.le_refl _) _
    generalize (w.alloc (.cells cur 3)).setRow w.heap.size (intCells l).toArray = X at hcp hof hbl
    have HO := Lib.hid hof
    have HB := Lib.hid hbl
    have HN0 := Lib.hid h0
    clear h h' h0 hof hbl hcs
    go_enter Tryz.func79, Tryz.ntmps79
    go_wp2_with fail
    go_ret
    exact ⟨some ⟨w.heap.size, 0, none⟩, rfl, HO.out, HB.out, fun e => absurd e HN0.out⟩
set_option maxHeartbeats 1600000 in
theorem ownRefs_tight (w : World) (lo hi : Nat) (A : Option Addr) (n c : Nat) (l : List (ByteArray × Int)) (h : Row w lo hi 2 A n c (refCells l)) (hh : hi ≤ w.heap.size) (hl : n * 24 ≤ 140737488355328) :
    Calls Tryz.prog 80 #[.slice A n c] w fun e w' => ∃ A', e = .returned (.slice A' n n) ∧ w'.ownsRow w.heap.size 60 2 (.slice A' n n) n (refCells l) ∧ Below w.heap.size w w' ∧ (n = 0 → A' = none) := by
  have hc := h.2.2.1
  have hnc := h.2.1
  unfold maxLen at hc
  by_cases h0 : n = 0
  · subst h0
    have hx : refCells l = [] := List.eq_nil_of_length_eq_zero (by have := h.1; omega)
    rw [hx]
    clear h hx
    go_enter Tryz.func80, Tryz.ntmps80
    go_wp2_with fail
    go_ret
    exact ⟨none, rfl, ⟨by simp, .inl ⟨rfl, rfl⟩⟩, Below.refl _ _, fun _ => rfl⟩
  · obtain ⟨i0, hi0, hz0, hz1, hz2⟩ := info_parts refInfo
    obtain ⟨cur, hcs, hmk⟩ := make_rows 39 60 i0 _ 2 24 Tryz.underlying39 hi0 hz0 hz1 hz2 rfl n hl (by omega)
    have h' := h.mono (Nat.le_refl lo) hh
    have d0 : ((n : Int) == 0) = false := by rw [beq_eq_false_iff_ne]; omega
    have hcp := fun ty => run_copy_all (P := Tryz.prog) (w.alloc (.cells cur 60)) 39 39 ty 60 i0 2 Tryz.underlying39 hi0 hz1 w.heap.size n n 0 A c cur 60 (Blk.new w 60 cur) hcs lo w.heap.size (refCells l) (h'.keep (fun b o hb => (below_more (Below.refl _ _) _).cell (p := ⟨b, o, none⟩) hb)) (by omega) (refCells_one l)
    have hof : ((w.alloc (.cells cur 60)).setRow w.heap.size (refCells l).toArray).ownsRow w.heap.size 60 2 (.slice (some ⟨w.heap.size, 0, none⟩) n n) n (refCells l) := own_filled (w := w) (Blk.new w 60 cur) (Nat.le_refl _) (Nat.le_trans hnc (by unfold maxLen; omega)) h.1
    have hbl : Below w.heap.size w ((w.alloc (.cells cur 60)).setRow w.heap.size (refCells l).toArray) := below_setRow (below_more (Below.refl _ _) _) (Nat.le_refl _) _
    generalize (w.alloc (.cells cur 60)).setRow w.heap.size (refCells l).toArray = X at hcp hof hbl
    have HO := Lib.hid hof
    have HB := Lib.hid hbl
    have HN0 := Lib.hid h0
    clear h h' h0 hof hbl hcs
    go_enter Tryz.func80, Tryz.ntmps80
    go_wp2_with fail
    go_ret
    exact ⟨some ⟨w.heap.size, 0, none⟩, rfl, HO.out, HB.out, fun e => absurd e HN0.out⟩
set_option maxRecDepth 100000 in
set_option maxHeartbeats 3200000 in
theorem ownNode_tight (w : World) (hi : Nat) (nd : Nd) (L : Leaf) (h : LeafIn w 0 hi nd L) (hh : hi ≤ w.heap.size) (hf : Fits 1 nd) :
    Calls Tryz.prog 41 #[.agg #[.int .i64 nd.id, .string nd.con, .int .i64 nd.par, .string nd.role, .slice L.p.A L.p.n L.p.c, .slice L.k.A L.k.n L.k.c, .slice L.r.A L.r.n L.r.c]] w fun e w' => ∃ M : Leaf, e = .returned (.agg #[.int .i64 nd.id, .string nd.con, .int .i64 nd.par, .string nd.role, .slice M.p.A M.p.n M.p.c, .slice M.k.A M.k.n M.k.c, .slice M.r.A M.r.n M.r.c]) ∧ OwnLeaf w' w.heap.size nd M ∧ Below w.heap.size w w' ∧ Tight M := by
  obtain ⟨⟨Ap, np, cp⟩, ⟨Ak, nk, ck⟩, ⟨Ar, nr, cr⟩⟩ := L
  obtain ⟨f1, f2, f3, f4, f5, f6, f7⟩ := h
  simp only at f1 f2 f3 f4 f5 f6
  have g1 := hf.p
  have g2 := hf.k
  have g3 := hf.r
  have hBx0 : Blk ((w.alloc (.cells #[.int .i64 nd.id, .string nd.con, .int .i64 nd.par, .string nd.role, .slice Ap np cp, .slice Ak nk ck, .slice Ar nr cr] 41)).alloc (.cells #[.int .i64 0, .string ⟨#[]⟩, .int .i64 0, .string ⟨#[]⟩, .slice none 0 0, .slice none 0 0, .slice none 0 0] 41)) w.heap.size 41 #[.int .i64 nd.id, .string nd.con, .int .i64 nd.par, .string nd.role, .slice Ap np cp, .slice Ak nk ck, .slice Ar nr cr] := (Blk.new w _ _).alloc _
  have hBz0 : Blk ((w.alloc (.cells #[.int .i64 nd.id, .string nd.con, .int .i64 nd.par, .string nd.role, .slice Ap np cp, .slice Ak nk ck, .slice Ar nr cr] 41)).alloc (.cells #[.int .i64 0, .string ⟨#[]⟩, .int .i64 0, .string ⟨#[]⟩, .slice none 0 0, .slice none 0 0, .slice none 0 0] 41)) (w.heap.size + 1) 41 #[.int .i64 0, .string ⟨#[]⟩, .int .i64 0, .string ⟨#[]⟩, .slice none 0 0, .slice none 0 0, .slice none 0 0] := Blk.new' (by simp)
  have hbw0 : Below w.heap.size w ((w.alloc (.cells #[.int .i64 nd.id, .string nd.con, .int .i64 nd.par, .string nd.role, .slice Ap np cp, .slice Ak nk ck, .slice Ar nr cr] 41)).alloc (.cells #[.int .i64 0, .string ⟨#[]⟩, .int .i64 0, .string ⟨#[]⟩, .slice none 0 0, .slice none 0 0, .slice none 0 0] 41)) := below_more (below_more (Below.refl _ _) _) _
  have HBx1 := Lib.hid hBx0
  have HBz1 := Lib.hid hBz0
  have HBW1 := Lib.hid hbw0
  clear hBx0 hBz0 hbw0
  have HF1 := Lib.hid f1
  have HF2 := Lib.hid f2
  have HF3 := Lib.hid f3
  have b1 : np * 32 ≤ 140737488355328 := by omega
  have b2 : nk * 8 ≤ 140737488355328 := by omega
  have b3 : nr * 24 ≤ 140737488355328 := by omega
  clear f1 f2 f3
  go_enter Tryz.func41, Tryz.ntmps41
  go_upto_region 1 with (fail)
  generalize ((w.alloc (.cells #[.int .i64 nd.id, .string nd.con, .int .i64 nd.par, .string nd.role, .slice Ap np cp, .slice Ak nk ck, .slice Ar nr cr] 41)).alloc (.cells #[.int .i64 0, .string ⟨#[]⟩, .int .i64 0, .string ⟨#[]⟩, .slice none 0 0, .slice none 0 0, .slice none 0 0] 41)) = W2 at HBx1 HBz1 HBW1 ⊢
  have HBx := HBx1
  have HBz := HBz1
  have HBw := HBW1
  clear HBx1 HBz1 HBW1
  have HSof : Hid (∀ X, Below W2.heap.size W2 X → Below W2.heap.size W2 X ∧ X.cell? ⟨w.heap.size, 4, none⟩ = some (.slice Ap np cp) ∧ X.cell? ⟨w.heap.size, 5, none⟩ = some (.slice Ak nk ck) ∧ X.cell? ⟨w.heap.size, 6, none⟩ = some (.slice Ar nr cr)) := Lib.hid fun X hb => ⟨hb, (hb.cell (p := ⟨_, _, none⟩) HBx.out.lt).trans ((HBx.out.cell 4).trans rfl), (hb.cell (p := ⟨_, _, none⟩) HBx.out.lt).trans ((HBx.out.cell 5).trans rfl), (hb.cell (p := ⟨_, _, none⟩) HBx.out.lt).trans ((HBx.out.cell 6).trans rfl)⟩
  have HCp := Lib.hid fun (X : World) (hb : Below W2.heap.size W2 X) => ownProps_tight X 0 hi Ap np cp nd.props (f4.below ((HBw.out.trans (hb.mono HBw.out.size)).mono hh)) (Nat.le_trans hh (HBw.out.trans (hb.mono HBw.out.size)).size) (by omega)
  have HCk := Lib.hid fun (X : World) (hb : Below W2.heap.size W2 X) => ownKids_tight X 0 hi Ak nk ck nd.kids (f5.below ((HBw.out.trans (hb.mono HBw.out.size)).mono hh)) (Nat.le_trans hh (HBw.out.trans (hb.mono HBw.out.size)).size) (by omega)
  have HCr := Lib.hid fun (X : World) (hb : Below W2.heap.size W2 X) => ownRefs_tight X 0 hi Ar nr cr nd.refs (f6.below ((HBw.out.trans (hb.mono HBw.out.size)).mono hh)) (Nat.le_trans hh (HBw.out.trans (hb.mono HBw.out.size)).size) (by omega)
  have HSZ := Lib.hid f7
  have HBW := Lib.hid (Below.refl W2.heap.size W2)
  clear f4 f5 f6 f7 g1 g2 g3 hf b1 b2 b3
  refine wp_region_held_tail 10 (fun w' => Below W2.heap.size W2 w' ∧ w'.cell? ⟨w.heap.size, 4, none⟩ = some (.slice Ap np cp) ∧ w'.cell? ⟨w.heap.size, 5, none⟩ = some (.slice Ak nk ck) ∧ w'.cell? ⟨w.heap.size, 6, none⟩ = some (.slice Ar nr cr)) (by kernel_rfl) (by kernel_rfl) ?hSn (fun hHeld => ?qn0)
  case hSn => exact HSof.out _ (below_drew (Below.refl _ _))
  case qn0 =>
    replace HBW := Lib.hid (below_drew HBW.out)
    simp only [List.take_succ_cons, List.take_zero, List.drop_succ_cons, List.drop_zero]
    refine wpAnyH_take (i := 0) (v := (.pointer (some ⟨w.heap.size, 4, none⟩))) rfl (by kernel_rfl) (by kernel_rfl) (by kernel_rfl) (fun _ _ _ h => h) (Or.inl ⟨by rfl, ?yn_1⟩) (by assumption) ?qn_1
    case yn_1 => (intro w hSw; (try dsimp only at hSw); go_simp)
    case qn_1 =>
      (try simp only [Act.put]); (try simp only [List.setIfInBounds_toArray])
      refine wpAnyH_take (i := 1) (v := (.slice Ap np cp)) rfl (by kernel_rfl) (by kernel_rfl) (by kernel_rfl) (fun _ _ _ h => h) (Or.inl ⟨by rfl, ?yn_2⟩) (by assumption) ?qn_2
      case yn_2 => (intro w hSw; (try dsimp only at hSw); go_simp)
      case qn_2 =>
        (try simp only [Act.put]); (try simp only [List.setIfInBounds_toArray])
        refine wpAnyH_take (i := 3) (v := (.pointer (some ⟨w.heap.size, 5, none⟩))) rfl (by kernel_rfl) (by kernel_rfl) (by kernel_rfl) (fun _ _ _ h => h) (Or.inl ⟨by rfl, ?yn_3⟩) (by assumption) ?qn_3
        case yn_3 => (intro w hSw; (try dsimp only at hSw); go_simp)
        case qn_3 =>
          (try simp only [Act.put]); (try simp only [List.setIfInBounds_toArray])
          refine wpAnyH_take (i := 4) (v := (.slice Ak nk ck)) rfl (by kernel_rfl) (by kernel_rfl) (by kernel_rfl) (fun _ _ _ h => h) (Or.inl ⟨by rfl, ?yn_4⟩) (by assumption) ?qn_4
          case yn_4 => (intro w hSw; (try dsimp only at hSw); go_simp)
          case qn_4 =>
            (try simp only [Act.put]); (try simp only [List.setIfInBounds_toArray])
            refine wpAnyH_take (i := 6) (v := (.pointer (some ⟨w.heap.size, 6, none⟩))) rfl (by kernel_rfl) (by kernel_rfl) (by kernel_rfl) (fun _ _ _ h => h) (Or.inl ⟨by rfl, ?yn_5⟩) (by assumption) ?qn_5
            case yn_5 => (intro w hSw; (try dsimp only at hSw); go_simp)
            case qn_5 =>
              (try simp only [Act.put]); (try simp only [List.setIfInBounds_toArray])
              refine wpAnyH_take (i := 7) (v := (.slice Ar nr cr)) rfl (by kernel_rfl) (by kernel_rfl) (by kernel_rfl) (fun _ _ _ h => h) (Or.inl ⟨by rfl, ?yn_6⟩) (by assumption) ?qn_6
              case yn_6 => (intro w hSw; (try dsimp only at hSw); go_simp)
              case qn_6 =>
                (try simp only [Act.put]); (try simp only [List.setIfInBounds_toArray])
                refine wpAnyH_ready (rs := [2]) (by kernel_rfl) (by simp) ?_
                refine AllReadyH.cons rfl (fun K hK => ?sn_7) ?mn_7
                case sn_7 =>
                  (refine step_call _ (by rfl) 78 #[.slice Ap np cp] (by go_simp) (HCp.out _ HBW.out) ?_; rintro e Y1 ⟨A1, rfl, ho1, hb1, ht1⟩; have HT1 := Lib.hid ht1; clear ht1; have hz1 := HBW.out.size; refine ⟨_, rfl, ?_⟩; replace HBW := Lib.hid (HBW.out.trans (hb1.mono HBW.out.size)); have HP := Lib.hid (own_mono ho1 hz1); clear ho1 hb1)
                  refine hK.out _ _ ?kn_7 (fun hHeld => ?qn_7)
                  case kn_7 => ((try dsimp only); exact HSof.out _ HBW.out)
                  case qn_7 =>
                    clear hK K
                    (try simp only [Act.put]); (try simp only [List.setIfInBounds_toArray])
                    refine wpAnyH_take (i := 9) (v := (.pointer (some ⟨w.heap.size, 4, none⟩))) rfl (by kernel_rfl) (by kernel_rfl) (by kernel_rfl) (fun _ _ _ h => h) (Or.inl ⟨by rfl, ?yn_8⟩) (by assumption) ?qn_8
                    case yn_8 => (intro w hSw; (try dsimp only at hSw); go_simp)
                    case qn_8 =>
                      (try simp only [Act.put]); (try simp only [List.setIfInBounds_toArray])
                      refine wpAnyH_ready (rs := [5]) (by kernel_rfl) (by simp) ?_
                      refine AllReadyH.cons rfl (fun K hK => ?sn_9) ?mn_9
                      case sn_9 =>
                        (refine step_call _ (by rfl) 79 #[.slice Ak nk ck] (by go_simp) (HCk.out _ HBW.out) ?_; rintro e Y2 ⟨A2, rfl, ho2, hb2, ht2⟩; have HT2 := Lib.hid ht2; clear ht2; have hz2 := HBW.out.size; refine ⟨_, rfl, ?_⟩; replace HP := Lib.hid (own_after HP.out hb2); replace HBW := Lib.hid (HBW.out.trans (hb2.mono HBW.out.size)); have HK := Lib.hid (own_mono ho2 hz2); clear ho2 hb2)
                        refine hK.out _ _ ?kn_9 (fun hHeld => ?qn_9)
                        case kn_9 => ((try dsimp only); exact HSof.out _ HBW.out)
                        case qn_9 =>
                          clear hK K
                          (try simp only [Act.put]); (try simp only [List.setIfInBounds_toArray])
                          refine wpAnyH_ready (rs := [8]) (by kernel_rfl) (by simp) ?_
                          refine AllReadyH.cons rfl (fun K hK => ?sn_10) ?mn_10
                          case sn_10 =>
                            (refine step_call _ (by rfl) 80 #[.slice Ar nr cr] (by go_simp) (HCr.out _ HBW.out) ?_; rintro e Y3 ⟨A3, rfl, ho3, hb3, ht3⟩; have HT3 := Lib.hid ht3; clear ht3; have hz3 := HBW.out.size; refine ⟨_, rfl, ?_⟩; replace HP := Lib.hid (own_after HP.out hb3); replace HK := Lib.hid (own_after HK.out hb3); replace HBW := Lib.hid (HBW.out.trans (hb3.mono HBW.out.size)); have HR := Lib.hid (own_mono ho3 hz3); clear ho3 hb3)
                            refine hK.out _ _ ?kn_10 (fun hHeld => ?qn_10)
                            case kn_10 => ((try dsimp only); exact HSof.out _ HBW.out)
                            case qn_10 =>
                              clear hK K
                              (try simp only [Act.put]); (try simp only [List.setIfInBounds_toArray])
                              refine wpAnyH_done (by kernel_rfl) ?_ _
                              obtain ⟨hBe, he0, he1, he2⟩ := hHeld
                              show wpList _ _ _ _ _ _
                              have hb5 := HBx.out.after HBW.out
                              have hb6 := HBz.out.after HBW.out
                              have x0 := hb5.cell 0
                              have x1 := hb5.cell 1
                              have x2 := hb5.cell 2
                              have x3 := hb5.cell 3
                              have x4 := hb5.frozen 4
                              have x5 := hb5.frozen 5
                              have x6 := hb5.frozen 6
                              have z0 := hb6.cell 0
                              have z1 := hb6.cell 1
                              have z2 := hb6.cell 2
                              have z3 := hb6.cell 3
                              have z4 := hb6.cell 4
                              have z5 := hb6.cell 5
                              have z6 := hb6.cell 6
                              have y0 := hb6.frozen 0
                              have y1 := hb6.frozen 1
                              have y2 := hb6.frozen 2
                              have y3 := hb6.frozen 3
                              have y4 := hb6.frozen 4
                              have y5 := hb6.frozen 5
                              have y6 := hb6.frozen 6
                              simp at x0 x1 x2 x3 z0 z1 z2 z3 z4 z5 z6
                              have HB5 := Lib.hid hb5
                              have HB6 := Lib.hid hb6
                              clear hb5 hb6
                              go_wp2_with fail
                              (try rw [Exit.noGoto_ret])
                              (try simp only [Exit.inBlock, Exit.then])
                              have hres : Tryz.f41.results = #[.cell 2 41] := by kernel_rfl
                              refine bodyPost_ret (v := .agg #[.int .i64 nd.id, .string nd.con, .int .i64 nd.par, .string nd.role, .slice A1 np np, .slice A2 nk nk, .slice A3 nr nr]) ?hr rfl ?_
                              case hr =>
                                simp only [results, hres]
                                go_simp
                              have hle : w.heap.size ≤ W2.heap.size := HBw.out.size
                              have hR : NodeR w nd ⟨⟨A1, np, np⟩, ⟨A2, nk, nk⟩, ⟨A3, nr, nr⟩⟩ w.heap.size (w.heap.size + 1) Y3 := ⟨⟨HF1.out, HF2.out, HF3.out, own_mono HP.out hle, own_mono HK.out hle, own_mono HR.out hle, HSZ.out⟩, ⟨_, HB5.out⟩, ⟨_, HB6.out⟩, HBw.out.trans (HBW.out.mono hle)⟩
                              have hE := (((((((((hR.s5 (Nat.le_refl _) 4 (.slice A1 np np)).s5 (Nat.le_refl _) 5 (.slice A2 nk nk)).s5 (Nat.le_refl _) 6 (.slice A3 nr nr)).s6 (by omega) 0 (.int .i64 nd.id)).s6 (by omega) 1 (.string nd.con)).s6 (by omega) 2 (.int .i64 nd.par)).s6 (by omega) 3 (.string nd.role)).s6 (by omega) 4 (.slice A1 np np)).s6 (by omega) 5 (.slice A2 nk nk)).s6 (by omega) 6 (.slice A3 nr nr)
                              exact ⟨⟨⟨A1, np, np⟩, ⟨A2, nk, nk⟩, ⟨A3, nr, nr⟩⟩, rfl, hE.leaf, hE.bel, ⟨rfl, rfl, rfl, HT1.out, HT2.out, HT3.out⟩⟩
                          case mn_10 =>
                            exact AllReadyH.nil
                      case mn_9 =>
                        exact AllReadyH.nil
                case mn_7 =>
                  exact AllReadyH.nil
set_option maxRecDepth 100000 in
set_option maxHeartbeats 3200000 in
theorem own_dist (w : World) (hi : Nat) (next : Int) (A : Option Addr) (n c : Nat) (nds : List Nd) (h : NodesIn w 0 hi A n c nds) (hh : hi ≤ w.heap.size) (hn : n ≤ 4096) (hf : ∀ nd ∈ nds, Fits 1 nd) :
    Calls Tryz.prog 46 #[.agg #[.int .i64 next, .slice A n c]] w fun e w' => ∃ g l, e = .returned (.agg #[.int .i64 next, .slice (some ⟨g, 0, none⟩) n n]) ∧ OwnM w' w.heap.size (.slice (some ⟨g, 0, none⟩) n n) l ∧ l.map (·.1) = nds ∧ Dist l ∧ Below w.heap.size w w' := by
  have hc := h.2.2.1
  have hnc := h.2.1
  have HL := Lib.hid h.1
  unfold maxLen at hc
  obtain ⟨i0, hi0, hz0, hz1, hz2⟩ := info_parts nodeInfo
  obtain ⟨cur, hcs, hmk⟩ := make_rows 24 41 i0 _ 7 120 Tryz.underlying24 hi0 hz0 hz1 hz2 rfl n (by omega) (by omega)
  have HCS := Lib.hid hcs
  clear hcs hz0 hz1 hz2 hi0
  go_enter Tryz.func46, Tryz.ntmps46
  go_wp2_with fail
  go_loopw [4, 11] (fun i4 i wr => ∃ (k : Nat) (xs : List Value) (l : List (Nd × Leaf)), k ≤ n ∧ i = .int .i64 k ∧ Filling w next A n c k (w.heap.size + 1 + 1) xs l wr ∧ Hid (l.map (·.1) = nds.take k) ∧ Hid (Dist l)) (fun _ i _ => n - (intOf i).toNat)
  case atStart => exact ⟨0, cur.toList, [], Nat.zero_le _, rfl, filling_start w next A n c cur HCS.out (by unfold maxLen; omega), Lib.hid rfl, Lib.hid ⟨by simp, by simp⟩⟩
  case round =>
    obtain ⟨k, xs, l, hk, rfl, F, HT, HDi⟩ := hrel
    have c1 := F.md.cell 1
    simp at c1
    have hbel := F.bel
    have hwz := hbel.size
    have HF := Lib.hid F
    clear F
    by_cases hlt : k < n
    · obtain ⟨b, o, hA, _, hb, V, hV⟩ := h.all (by omega)
      obtain ⟨nd, hnd⟩ : ∃ nd, nds[k]? = some nd := ⟨nds[k]'(by have := HL.out; omega), List.getElem?_eq_getElem _⟩
      have hat := (hV k nd hnd).1.below hbel (by omega)
      have hlf := (hV k nd hnd).2.below (hbel.mono hh)
      have hfi := hf nd (List.mem_of_getElem? hnd)
      generalize V k = Lk at hat hlf
      subst hA
      have HON := Lib.hid (ownNode_tight wr hi nd Lk hlf (by omega) hfi)
      have HND := Lib.hid hnd
      obtain ⟨⟨Ap, np, cp⟩, ⟨Ak, nk, ck⟩, ⟨Ar, nr, cr⟩⟩ := Lk
      obtain ⟨a0, a1, a2, a3, a4, a5, a6⟩ := hat
      simp only at a4 a5 a6
      have hlk : l.length = k := by have := congrArg List.length HT.out; rw [List.length_map, List.length_take, HL.out] at this; omega
      have HLK := Lib.hid hlk
      clear hV hnd hfi hlf hlk
      go_wp2_with (go_at_call 41; go_must (refine HON.out.mono ?_; rintro e w2 ⟨⟨⟨A1, n1, k1⟩, ⟨A2, n2, k2⟩, ⟨A3, n3, k3⟩⟩, rfl, hl2, hb2, ht2⟩; have HD2 := Lib.hid (HDi.out.push (p := (nd, ⟨⟨A1, n1, k1⟩, ⟨A2, n2, k2⟩, ⟨A3, n3, k3⟩⟩)) (fun p hp => HF.out.leaf p hp) hl2 ht2); have hF2 := HF.out.after hb2; obtain ⟨⟨u0, r0, s0⟩, ⟨u1, r1, s1⟩, ⟨u2, r2, s2⟩, ⟨u3, r3, s3⟩, ⟨u4, r4, s4⟩, ⟨u5, r5, s5⟩, ⟨u6, r6, s6⟩⟩ := hF2.room hlt; have HF2 := Lib.hid hF2; have HL2 := Lib.hid (hl2.mono hwz); clear hF2 hl2 hb2))
      obtain ⟨xs', hF'⟩ := HF2.out.push (p := (nd, ⟨⟨A1, n1, k1⟩, ⟨A2, n2, k2⟩, ⟨A3, n3, k3⟩⟩)) hlt HLK.out HL2.out rfl
      exact ⟨⟨k + 1, xs', l ++ [(nd, ⟨⟨A1, n1, k1⟩, ⟨A2, n2, k2⟩, ⟨A3, n3, k3⟩⟩)], by omega, by simp, hF', Lib.hid (by rw [List.map_append, HT.out, List.take_add_one, HND.out]; rfl), HD2⟩, by simp only [intOf]; omega⟩
    · have hkn : k = n := by omega
      subst hkn
      have m0 := HF.out.md.cell 0
      have m1 := HF.out.md.frozen 1
      have t0 := HF.out.rs.cell 0
      have t1 := HF.out.rs.cell 1
      have t2 := HF.out.rs.frozen 0
      have t3 := HF.out.rs.frozen 1
      simp at m0 t0 t1
      have hnn : l.map (·.1) = nds := by rw [HT.out, List.take_of_length_le (by rw [HL.out]; omega)]
      have HNN := Lib.hid hnn
      have HLN : Hid (l.length = k) := Lib.hid (by have := congrArg List.length hnn; rw [List.length_map, HL.out] at this; exact this)
      clear h hf hnn
      go_wp2_with fail
      (try rw [Exit.noGoto_ret])
      (try simp only [Exit.inBlock, Exit.then])
      have hres : Tryz.f46.results = #[.cell 2 26] := by kernel_rfl
      refine bodyPost_ret (v := .agg #[.int .i64 next, .slice (some ⟨w.heap.size + 1 + 1, 0, none⟩) k k]) ?hr rfl ?_
      case hr =>
        simp only [results, hres]
        go_simp
      have hm : OwnM wr w.heap.size (.slice (some ⟨w.heap.size + 1 + 1, 0, none⟩) k k) l := HF.out.ownM HLN.out
      refine ⟨_, l, rfl, ?_, HNN.out, HDi.out, ?_⟩
      · exact ((hm.other HF.out.md 1 _).other (HF.out.rs.far (p := ⟨w.heap.size, 1, none⟩) (by simp) _) 0 _).other ((HF.out.rs.far (p := ⟨w.heap.size, 1, none⟩) (by simp) _).set_ 0 _) 1 _
      · exact ((HF.out.bel.setCell (p := ⟨w.heap.size, 1, none⟩) (by simp) _).setCell (p := ⟨w.heap.size + 1, 0, none⟩) (by simp) _).setCell (p := ⟨w.heap.size + 1, 1, none⟩) (by simp) _
end Go.Proofs.YtohinklkcinjpaaGreat
namespace Go.Proofs.YtohinklkcinjpaaGreat
open Go Go.RowKit Go.Sort
set_option linter.unusedVariables false
attribute [local go_sem ↓] Go.wp_at_zero Go.wp_at_succ
/-- the error of a name -/
def nameE (next : Int) (nds : List Nd) (name : ByteArray) : Int := if rightB next nds = true then (if wordB name = true then 0 else 2) else 29
set_option maxHeartbeats 800000 in
theorem nameable_any (w : World) (hi : Nat) (next : Int) (name : ByteArray) (A : Option Addr) (n c : Nat) (nds : List Nd) (h : NodesIn w 0 hi A n c nds) (hh : hi ≤ w.heap.size) (hs : name.size ≤ maxLen) :
    Calls Tryz.prog 61 #[.agg #[.int .i64 next, .slice A n c], .string name] w (Ret w (.int .i64 (nameE next nds name))) := by
  have HM0 := Lib.hid (M1.start w next A n c)
  have HCh := Lib.hid (check_any _ hi next A n c nds (h.below (HM0.out.bel.mono hh)) (Nat.le_trans hh HM0.out.bel.size))
  have a0 := (HM0.out.a.cell 0).trans (show _ = some (.int .i64 next) from rfl)
  have a1 := (HM0.out.a.cell 1).trans (show _ = some (.slice A n c) from rfl)
  cases hrt : rightB next nds with
  | false =>
    have HX : Hid (nameE next nds name = 29) := Lib.hid (by unfold nameE; rw [hrt]; rfl)
    have HV := Lib.hid (checkV_no hrt)
    clear hrt h hs
    go_enter Tryz.func61, Tryz.ntmps61
    go_wp2_with (go_at_call 12; go_must (refine HCh.out.mono ?_; rintro e w2 ⟨rfl, hb2⟩; rw [HV.out]; have HM2 := Lib.hid (HM0.out.after hb2); clear hb2))
    go_ret
    exact ret_i HX.out rfl HM2.out.bel
  | true =>
    have HV := Lib.hid (checkV_yes hrt)
    have HW : Hid (∀ X b, wordB name = b → Calls Tryz.prog 43 #[.string name] X (Says X b)) := Lib.hid fun X b hb => word_is name b X hs hb
    cases hw : wordB name with
    | false =>
      have HX : Hid (nameE next nds name = 2) := Lib.hid (by unfold nameE; rw [hrt, hw]; rfl)
      have HWW := Lib.hid hw
      clear hrt h hs hw
      go_enter Tryz.func61, Tryz.ntmps61
      go_wp2_with (first | (go_at_call 12; go_must (refine HCh.out.mono ?_; rintro e w2 ⟨rfl, hb2⟩; rw [HV.out]; have HM2 := Lib.hid (HM0.out.after hb2); clear hb2)) | (go_at_call 43; go_must (refine (HW.out _ _ HWW.out).mono ?_; rintro e w3 ⟨rfl, rfl⟩)))
      go_ret
      exact ret_i HX.out rfl HM2.out.bel
    | true =>
      have HX : Hid (nameE next nds name = 0) := Lib.hid (by unfold nameE; rw [hrt, hw]; rfl)
      have HWW := Lib.hid hw
      clear hrt h hs hw
      go_enter Tryz.func61, Tryz.ntmps61
      go_wp2_with (first | (go_at_call 12; go_must (refine HCh.out.mono ?_; rintro e w2 ⟨rfl, hb2⟩; rw [HV.out]; have HM2 := Lib.hid (HM0.out.after hb2); clear hb2)) | (go_at_call 43; go_must (refine (HW.out _ _ HWW.out).mono ?_; rintro e w3 ⟨rfl, rfl⟩)))
      go_ret
      exact ret_i HX.out rfl HM2.out.bel
/-- the boxes of a model, and of what is answered -/
structure CB (w : World) (next : Int) (A : Option Addr) (n c : Nat) (X : World) : Prop where
  m : Blk X w.heap.size 26 #[.int .i64 next, .slice A n c]
  r : Blk X (w.heap.size + 1) 26 #[.int .i64 0, .slice none 0 0]
  bel : Below w.heap.size w X
section
variable {w X X' : World} {next : Int} {A : Option Addr} {n c : Nat}
theorem CB.start (w : World) (next : Int) (A : Option Addr) (n c : Nat) : CB w next A n c ((w.alloc (.cells #[.int .i64 next, .slice A n c] 26)).alloc (.cells #[.int .i64 0, .slice none 0 0] 26)) :=
  ⟨(Blk.new _ _ _).alloc _, Blk.new' (by simp), below_more (below_more (Below.refl _ _) _) _⟩
theorem CB.after (h : CB w next A n c X) (hb : Below X.heap.size X X') : CB w next A n c X' := ⟨h.m.after hb, h.r.after hb, h.bel.trans (hb.mono h.bel.size)⟩
theorem CB.m1 (h : CB w next A n c X) : M1 w next A n c X := ⟨h.m, h.bel⟩
theorem CB.lay (h : CB w next A n c X) (u v : Value) : Below w.heap.size w ((X.setCell ⟨w.heap.size + 1, 0, none⟩ u).setCell ⟨w.heap.size + 1, 1, none⟩ v) :=
  (h.bel.setCell (p := ⟨w.heap.size + 1, 0, none⟩) (by simp) u).setCell (p := ⟨w.heap.size + 1, 1, none⟩) (by simp) v
end
/-- what is done to one node of a list of the call's own -/
def Change (w : World) (n : Nat) (F : FuncId) (caps : Array Value) (nd nd' : Nd) : Prop :=
  ∀ (X : World) (g i : Nat) (l : List (Nd × Leaf)) (p : Nd × Leaf), OwnM X w.heap.size (.slice (some ⟨g, 0, none⟩) n n) l → Dist l → l.length = n → l[i]? = some p → p.1 = nd → Below w.heap.size w X →
    Calls Tryz.prog F (#[.pointer (some ⟨g, i * 7, none⟩)] ++ caps) X fun e X' => e = .returned (.tuple #[]) ∧ ∃ l', OwnM X' w.heap.size (.slice (some ⟨g, 0, none⟩) n n) l' ∧ l'.map (·.1) = (l.map (·.1)).set i nd' ∧ Below w.heap.size w X' ∧ ∀ gb cs, Blk X gb 26 cs → Blk X' gb 26 cs
/-- the error that is told -/
def chE (told : Int) (nds : List Nd) (id : Int) : Int := if told ≠ 0 then told else if (ixOf nds id).isSome = true then 0 else 20
set_option maxRecDepth 20000 in
set_option maxHeartbeats 3200000 in
theorem changed_no (w : World) (hi : Nat) (next id told : Int) (A : Option Addr) (n c : Nat) (F : FuncId) (caps : Array Value) (h0 : told ≠ 0) :
    Calls Tryz.prog 62 #[.agg #[.int .i64 next, .slice A n c], .int .i64 id, .int .i64 told, .func (.func F) #[] caps] w fun e w' => e = .returned (.tuple #[.agg #[.int .i64 0, .slice none 0 0], .int .i64 told]) ∧ Below w.heap.size w w' := by
  have HM0 := Lib.hid (CB.start w next A n c)
  have d0 : (told != 0) = true := by rw [bne_iff_ne]; exact h0
  clear h0
  go_enter Tryz.func62, Tryz.ntmps62
  go_wp2_with fail
  (try rw [Exit.noGoto_ret])
  (try simp only [Exit.inBlock, Exit.then])
  have hres : Tryz.f62.results = #[.cell 8 26, .tmp 9] := by kernel_rfl
  refine bodyPost_ret (v := .tuple #[.agg #[.int .i64 0, .slice none 0 0], .int .i64 told]) ?hr rfl ?_
  case hr =>
    simp only [results, hres]
    go_simp
  exact ⟨rfl, HM0.out.bel⟩
end Go.Proofs.YtohinklkcinjpaaGreat
namespace Go.Proofs.YtohinklkcinjpaaGreat
open Go Go.RowKit Go.Sort
set_option linter.unusedVariables false
attribute [local go_sem ↓] Go.wp_at_zero Go.wp_at_succ
set_option maxRecDepth 20000 in
set_option maxHeartbeats 3200000 in
theorem changed_none (w : World) (hi : Nat) (next id : Int) (A : Option Addr) (n c : Nat) (nds : List Nd) (F : FuncId) (caps : Array Value) (h : NodesIn w 0 hi A n c nds) (hh : hi ≤ w.heap.size) (hr : Rise nds) (hn : n ≤ 4096) (hix : ixOf nds id = none) :
    Calls Tryz.prog 62 #[.agg #[.int .i64 next, .slice A n c], .int .i64 id, .int .i64 0, .func (.func F) #[] caps] w fun e w' => e = .returned (.tuple #[.agg #[.int .i64 0, .slice none 0 0], .int .i64 20]) ∧ Below w.heap.size w w' := by
  have HM0 := Lib.hid (CB.start w next A n c)
  have HCh := Lib.hid (has_any _ hi next id A n c nds (h.below (HM0.out.bel.mono hh)) (Nat.le_trans hh HM0.out.bel.size) hr hn)
  have HS : Hid ((ixOf nds id).isSome = false) := Lib.hid (by rw [hix]; rfl)
  have a0 := (HM0.out.m.cell 0).trans (show _ = some (.int .i64 next) from rfl)
  have a1 := (HM0.out.m.cell 1).trans (show _ = some (.slice A n c) from rfl)
  clear h hr hix
  go_enter Tryz.func62, Tryz.ntmps62
  go_wp2_with (go_at_call 40; go_must (refine HCh.out.mono ?_; rintro e w2 ⟨rfl, hb2⟩; rw [HS.out]; have HM2 := Lib.hid (HM0.out.after hb2); have r0 := HM2.out.r.frozen 0; have r1 := HM2.out.r.frozen 1; have r2 := HM2.out.r.cell 0; have r3 := HM2.out.r.cell 1; simp at r2 r3; clear hb2))
  (try rw [Exit.noGoto_ret])
  (try simp only [Exit.inBlock, Exit.then])
  have hres : Tryz.f62.results = #[.cell 8 26, .tmp 9] := by kernel_rfl
  refine bodyPost_ret (v := .tuple #[.agg #[.int .i64 0, .slice none 0 0], .int .i64 20]) ?hr rfl ?_
  case hr =>
    simp only [results, hres]
    go_simp
  exact ⟨rfl, HM2.out.lay _ _⟩
set_option maxRecDepth 20000 in
set_option maxHeartbeats 3200000 in
theorem changed_yes (w : World) (hi : Nat) (next id : Int) (A : Option Addr) (n c : Nat) (nds : List Nd) (F : FuncId) (caps : Array Value) (i : Nat) (nd nd' : Nd) (h : NodesIn w 0 hi A n c nds) (hh : hi ≤ w.heap.size) (hr : Rise nds) (hn : n ≤ 4096)
    (hf : ∀ nd ∈ nds, Fits 1 nd) (hix : ixOf nds id = some i) (hnd : nds[i]? = some nd) (hen : ∀ args w, Sem.run Tryz.prog (callFunc F args) w = .ok (.enter F args) w) (hC : Change w n F caps nd nd') :
    Calls Tryz.prog 62 #[.agg #[.int .i64 next, .slice A n c], .int .i64 id, .int .i64 0, .func (.func F) #[] caps] w fun e w' => ∃ g l, e = .returned (.tuple #[.agg #[.int .i64 next, .slice (some ⟨g, 0, none⟩) n n], .int .i64 0]) ∧
      OwnM w' w.heap.size (.slice (some ⟨g, 0, none⟩) n n) l ∧ l.map (·.1) = nds.set i nd' ∧ Below w.heap.size w w' := by
  have hlen := h.1
  have HM0 := Lib.hid (CB.start w next A n c)
  have HCh := Lib.hid (has_any _ hi next id A n c nds (h.below (HM0.out.bel.mono hh)) (Nat.le_trans hh HM0.out.bel.size) hr hn)
  have HOW := Lib.hid fun (X : World) (hX : CB w next A n c X) => own_dist X hi next A n c nds (h.below (hX.bel.mono hh)) (Nat.le_trans hh hX.bel.size) hn hf
  have HS : Hid ((ixOf nds id).isSome = true) := Lib.hid (by rw [hix]; rfl)
  have a0 := (HM0.out.m.cell 0).trans (show _ = some (.int .i64 next) from rfl)
  have a1 := (HM0.out.m.cell 1).trans (show _ = some (.slice A n c) from rfl)
  have HR := Lib.hid hr
  have HIX := Lib.hid hix
  have HND := Lib.hid hnd
  have HCC := Lib.hid hC
  clear h hr hix hnd hC hf
  go_enter Tryz.func62, Tryz.ntmps62
  go_upto_region 6 with (first | (go_at_call 40; go_must (refine HCh.out.mono ?_; rintro e w2 ⟨rfl, hb2⟩; rw [HS.out]; have HM2 := Lib.hid (HM0.out.after hb2); have b0 := (HM2.out.m.cell 0).trans (show _ = some (.int .i64 next) from rfl); have b1 := (HM2.out.m.cell 1).trans (show _ = some (.slice A n c) from rfl); clear hb2)) | (go_at_call 46; go_must (refine (HOW.out _ HM2.out).mono ?_; rintro e w3 ⟨g, l, rfl, ho, hm, hd, hb3⟩; have HM3 := Lib.hid (HM2.out.after hb3); have HO := Lib.hid ho; have HMM := Lib.hid hm; have HD := Lib.hid hd; have HB3 := Lib.hid hb3; clear ho hm hd hb3)))
  have hbl : Below w3.heap.size w3 (w3.alloc (.cells #[.int .i64 next, .slice (some ⟨g, 0, none⟩) n n] 26)) := below_box w3 _
  have hbx : Blk (w3.alloc (.cells #[.int .i64 next, .slice (some ⟨g, 0, none⟩) n n] 26)) w3.heap.size 26 #[.int .i64 next, .slice (some ⟨g, 0, none⟩) n n] := Blk.new _ _ _
  generalize w3.alloc (.cells #[.int .i64 next, .slice (some ⟨g, 0, none⟩) n n] 26) = X at hbl hbx ⊢
  have hln : l.length = n := by have := congrArg List.length HMM.out; rwa [List.length_map, hlen] at this
  have hox : OwnM X w.heap.size (.slice (some ⟨g, 0, none⟩) n n) l := (HO.out.mono HM2.out.bel.size).after hbl
  have hnx : NodesIn X 0 X.heap.size (some ⟨g, 0, none⟩) n n nds := by
    have h1 := OwnN.nodesIn (lo := 0) (hi := X.heap.size) hox.own hln (fun p hp => ((hox.mono (Nat.zero_le _)).leaf p hp).leafIn) (Nat.zero_le _) (Nat.le_refl _)
    rwa [HMM.out] at h1
  have HNo := Lib.hid (node_any X X.heap.size next id (some ⟨g, 0, none⟩) n n nds hnx (Nat.le_refl _) HR.out hn (.pointer (some ⟨g, i * 7, none⟩)) (by rw [HIX.out]; exact ⟨g, 0, rfl, by rw [Nat.zero_add]⟩))
  obtain ⟨p, hp, hp1⟩ : ∃ p, l[i]? = some p ∧ p.1 = nd := by
    have h1 := HND.out
    rw [← HMM.out, List.getElem?_map] at h1
    obtain ⟨p, hp, h2⟩ := Option.map_eq_some_iff.1 h1
    exact ⟨p, hp, h2⟩
  have hbX : Below w.heap.size w X := HM3.out.bel.trans (hbl.mono HM3.out.bel.size)
  have HCA := Lib.hid fun (Y : World) (hY : Below X.heap.size X Y) => HCC.out Y g i l p (hox.after hY) HD.out hln hp hp1 (hbX.trans (hY.mono hbX.size))
  have HBX := Lib.hid hbx
  have HRX := Lib.hid (HM3.out.r.after hbl)
  have HMX := Lib.hid HMM.out
  have HLX := Lib.hid hln
  have c0 := (HBX.out.cell 0).trans (show _ = some (.int .i64 next) from rfl)
  have c1 := (HBX.out.cell 1).trans (show _ = some (.slice (some ⟨g, 0, none⟩) n n) from rfl)
  clear hbl hbx hox hnx hbX
  go_wp2_with (first | (go_at_call 42; go_must (refine HNo.out.mono ?_; rintro e w4 ⟨rfl, hb4⟩; have HB4 := Lib.hid hb4; clear hb4)) | (with_reducible refine (HCA.out _ HB4.out).mono ?_; go_must (rintro e w5 ⟨rfl, l', ho5, hm5, hb5, hk5⟩; have hx5 := hk5 _ _ (HBX.out.after HB4.out); have hr5 := hk5 _ _ (HRX.out.after HB4.out); have d0 := (hx5.cell 0).trans (show _ = some (.int .i64 next) from rfl); have d1 := (hx5.cell 1).trans (show _ = some (.slice (some ⟨g, 0, none⟩) n n) from rfl); have r0 := hr5.frozen 0; have r1 := hr5.frozen 1; have r2 := hr5.cell 0; have r3 := hr5.cell 1; simp at r2 r3; have HO5 := Lib.hid ho5; have HM5 := Lib.hid hm5; have HB5 := Lib.hid hb5; have HR5 := Lib.hid hr5; clear ho5 hm5 hb5 hk5 hx5 hr5)))
  (try rw [Exit.noGoto_ret])
  (try simp only [Exit.inBlock, Exit.then])
  have hres : Tryz.f62.results = #[.cell 8 26, .tmp 9] := by kernel_rfl
  refine bodyPost_ret (v := .tuple #[.agg #[.int .i64 next, .slice (some ⟨g, 0, none⟩) n n], .int .i64 0]) ?hr rfl ?_
  case hr =>
    simp only [results, hres]
    go_simp
  refine ⟨g, l', rfl, (HO5.out.other HR5.out 0 _).other (HR5.out.set_ 0 _) 1 _, by rw [HM5.out, HMX.out], ?_⟩
  exact (HB5.out.setCell (p := ⟨w.heap.size + 1, 0, none⟩) (by simp) _).setCell (p := ⟨w.heap.size + 1, 1, none⟩) (by simp) _
end Go.Proofs.YtohinklkcinjpaaGreat

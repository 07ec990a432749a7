/-
  WALKS: Right of the document.
  WALKS: two lists are the same.
  WALKS: two nodes are the same, told by the document and by the program.
  WALKS: two models are the same, told by the document and by the program.
  WALKS: is a lent model as it was, with its marks?
  WALKS: great, check, New; and laws for a call and an alloc as steps of a region that draws its order.
  MODELS OF THE CALL's OWN: nodes and their lists in memory that the call made; a cell of a node turned; copy of a whole row.
-/
import Derived.Test.YtohinklkcinjpaaGreatZR6
import Derived.Laws.OwnMore
import Derived.Laws.CopyRow
import Derived.Laws.IdiomCopy
namespace Go.Proofs.YtohinklkcinjpaaGreat
open Go Go.RowKit Go.Sort
set_option linter.unusedVariables false
/-- the box of a model, and nothing old has turned -/
structure MW (w : World) (next : Int) (A : Option Addr) (n c : Nat) (wr : World) : Prop where
  md : Blk wr w.heap.size 26 #[.int .i64 next, .slice A n c]
  bel : Below w.heap.size w wr
section
variable {w wr w' : World} {next : Int} {A : Option Addr} {n c : Nat}
theorem MW.start (w : World) (next : Int) (A : Option Addr) (n c : Nat) : MW w next A n c (w.alloc (.cells #[.int .i64 next, .slice A n c] 26)) := ⟨Blk.new _ _ _, below_box _ _⟩
theorem MW.after (h : MW w next A n c wr) (hb : Below wr.heap.size wr w') : MW w next A n c w' := ⟨h.md.after hb, h.bel.trans (hb.mono h.bel.size)⟩
theorem MW.drewN (h : MW w next A n c wr) (q : Nat) : MW w next A n c (wr.drewN q) := ⟨h.md, below_drewN h.bel q⟩
theorem MW.size (h : MW w next A n c wr) : w.heap.size < wr.heap.size := h.md.lt
theorem MW.c0 (h : MW w next A n c wr) : wr.cell? ⟨w.heap.size, 0, none⟩ = some (.int .i64 next) := h.md.cell 0
theorem MW.c1 (h : MW w next A n c wr) : wr.cell? ⟨w.heap.size, 1, none⟩ = some (.slice A n c) := h.md.cell 1
end
set_option maxRecDepth 100000 in
set_option maxHeartbeats 3200000 in
theorem refRight_any (w : World) (hi : Nat) (next : Int) (A : Option Addr) (n c : Nat) (nds : List Nd) (h : NodesIn w 0 hi A n c nds) (hh : hi ≤ w.heap.size) :
    Calls Tryz.prog 11 #[.agg #[.int .i64 next, .slice A n c]] w (Ret w (.bool (rightB next nds))) := by
  have hc := h.2.2.1
  have hnc := h.2.1
  have HL := Lib.hid h.1
  unfold maxLen at hc
  have HM0 := Lib.hid (MW.start w next A n c)
  have HR : Hid (rightB next nds = (headB next nds && idsB next 0 nds && nds.all (fun nd => plainB next nds nd && belowB nds 64 nd))) := Lib.hid rfl
  have HHd : Hid (headB next nds = (decide (1 ≤ next) && decide (next ≤ 1048577) && decide (n ≤ 4096))) := Lib.hid (by unfold headB; rw [HL.out])
  by_cases h1 : next < 1
  · have d1 : decide (next < 1) = true := decide_eq_true h1
    have HZ : Hid (rightB next nds = false) := Lib.hid (by rw [HR.out, HHd.out, decide_eq_false (p := 1 ≤ next) (by omega)]; rfl)
    go_enter Tryz.func11, Tryz.ntmps11
    go_wp2_with fail
    go_ret
    exact ret_b HZ.out rfl HM0.out.bel
  · have d1 : decide (next < 1) = false := decide_eq_false h1
    by_cases h2 : 1048577 < next
    · have d2 : decide (1048577 < next) = true := decide_eq_true h2
      have HZ : Hid (rightB next nds = false) := Lib.hid (by rw [HR.out, HHd.out, decide_eq_false (p := next ≤ 1048577) (by omega)]; simp)
      go_enter Tryz.func11, Tryz.ntmps11
      go_wp2_with fail
      go_ret
      exact ret_b HZ.out rfl HM0.out.bel
    · have d2 : decide (1048577 < next) = false := decide_eq_false h2
      by_cases h3 : 4096 < n
      · have d3 : decide (4096 < (n : Int)) = true := decide_eq_true (by omega)
        have HZ : Hid (rightB next nds = false) := Lib.hid (by rw [HR.out, HHd.out, decide_eq_false (p := n ≤ 4096) (by omega)]; simp)
        go_enter Tryz.func11, Tryz.ntmps11
        go_wp2_with fail
        go_ret
        exact ret_b HZ.out rfl HM0.out.bel
      · have d3 : decide (4096 < (n : Int)) = false := decide_eq_false (by omega)
        have hRR : rightB next nds = (idsB next 0 nds && nds.all (fun nd => plainB next nds nd && belowB nds 64 nd)) := by
          rw [HR.out, HHd.out, decide_eq_true (p := 1 ≤ next) (by omega), decide_eq_true (p := next ≤ 1048577) (by omega), decide_eq_true (p := n ≤ 4096) (by omega)]; rfl
        have HRR := Lib.hid hRR
        clear hRR HR HHd
        go_enter Tryz.func11, Tryz.ntmps11
        go_wp2_with fail
        go_loopw [3] (fun i wr => ∃ (k : Nat) (x : Int), k ≤ n ∧ i = .int .i64 k ∧ MW w next A n c wr ∧ 0 ≤ x ∧ (k = 0 → x = 0) ∧ Hid (∀ m nd, k = m + 1 → nds[m]? = some nd → nd.id = x) ∧ Hid (idsB next 0 nds = idsB next x (nds.drop k))) (fun i _ => n - (intOf i).toNat)
        case atStart => exact ⟨0, 0, by omega, rfl, HM0.out, by omega, fun _ => rfl, Lib.hid (fun m nd h => absurd h (by omega)), Lib.hid rfl⟩
        case round =>
          clear HM0
          obtain ⟨k, x, hk, rfl, M, hx0, hk0, HPV, HK⟩ := hrel
          have c0 := M.c0
          have c1 := M.c1
          have hbel := M.bel
          have hsz := M.size
          have HM := Lib.hid M
          clear M
          by_cases hlt : k < n
          · obtain ⟨b, o, hA, _, hb, V, hV⟩ := h.all (by omega)
            subst hA
            obtain ⟨nd, hnd⟩ : ∃ nd, nds[k]? = some nd := ⟨nds[k]'(by have := HL.out; omega), List.getElem?_eq_getElem _⟩
            have a0 := ((hV k nd hnd).1.below hbel (by omega)).c0
            have hd : nds.drop k = nd :: nds.drop (k + 1) := by
              obtain ⟨hl', rfl⟩ := List.getElem?_eq_some_iff.1 hnd
              exact List.drop_eq_getElem_cons hl'
            have HD : Hid (idsB next 0 nds = (decide (x < nd.id) && decide (nd.id < next) && idsB next nd.id (nds.drop (k + 1)))) := Lib.hid (by rw [HK.out, hd, idsB])
            have HPV' := HPV
            clear HPV
            have HPV : Hid (∀ m nd', k + 1 = m + 1 → nds[m]? = some nd' → nd'.id = nd.id) := Lib.hid (fun m nd' e hm => by
              obtain rfl : k = m := by omega
              rw [hnd] at hm; injection hm with hm; rw [hm])
            have hprev : (k = 0 ∧ x = 0) ∨ ∃ pd, 0 < k ∧ nds[k - 1]? = some pd ∧ wr.cell? ⟨b, o + (k - 1) * 7, none⟩ = some (.int .i64 x) := by
              by_cases e : k = 0
              · exact .inl ⟨e, hk0 e⟩
              · right
                obtain ⟨pd, hpd⟩ : ∃ pd, nds[k - 1]? = some pd := ⟨nds[k - 1]'(by have := HL.out; omega), List.getElem?_eq_getElem _⟩
                refine ⟨pd, by omega, hpd, ?_⟩
                have := ((hV (k - 1) pd hpd).1.below hbel (by omega)).c0
                rw [HPV'.out (k - 1) pd (by omega) hpd] at this
                exact this
            clear hd hnd HK hV HPV'
            by_cases g1 : nd.id < 1
            · have e1 : decide (nd.id < 1) = true := decide_eq_true g1
              have HZ : Hid (rightB next nds = false) := Lib.hid (by rw [HRR.out, HD.out, decide_eq_false (p := x < nd.id) (by omega)]; rfl)
              clear HD hprev hk0
              go_wp2_with fail
              go_quiet (fail)
              go_wp2_with fail
              go_ret
              exact ret_b HZ.out rfl (below_drewN HM.out.bel _)
            · have e1 : decide (nd.id < 1) = false := decide_eq_false g1
              by_cases g2 : next ≤ nd.id
              · have e2 : decide (next ≤ nd.id) = true := decide_eq_true g2
                have HZ : Hid (rightB next nds = false) := Lib.hid (by rw [HRR.out, HD.out, decide_eq_false (p := nd.id < next) (by omega)]; simp)
                clear HD hprev hk0
                go_wp2_with fail
                go_quiet (fail)
                go_wp2_with fail
                go_ret
                exact ret_b HZ.out rfl (below_drewN HM.out.bel _)
              · have e2 : decide (next ≤ nd.id) = false := decide_eq_false g2
                clear hk0
                rcases hprev with ⟨hp1, hp2⟩ | ⟨pd, hpk, hpd, hpc⟩
                · have e3 : decide (0 < k) = false := decide_eq_false (by omega)
                  have g4 : x < nd.id := by omega
                  · have HZ : Hid (idsB next 0 nds = idsB next nd.id (nds.drop (k + 1))) := Lib.hid (by rw [HD.out, decide_eq_true g4, decide_eq_true (p := nd.id < next) (by omega)]; rfl)
                    clear HD hp1 hp2
                    go_wp2_with fail
                    go_quiet (fail)
                    go_wp2_with fail
                    go_roundw
                    case rel => exact ⟨k + 1, nd.id, by omega, by go_num, HM.out.drewN _, by omega, fun h => absurd h (by omega), HPV, HZ⟩
                    case measure => simp [intOf]; omega
                · have e3 : decide (0 < k) = true := decide_eq_true hpk
                  by_cases g4 : nd.id ≤ x
                  · have e4 : decide (nd.id ≤ x) = true := decide_eq_true g4
                    have HZ : Hid (rightB next nds = false) := Lib.hid (by rw [HRR.out, HD.out, decide_eq_false (p := x < nd.id) (by omega)]; rfl)
                    clear HD hpd
                    go_wp2_with fail
                    go_quiet (fail)
                    go_wp2_with fail
                    go_ret
                    exact ret_b HZ.out rfl (below_drewN HM.out.bel _)
                  · have e4 : decide (nd.id ≤ x) = false := decide_eq_false g4
                    have HZ : Hid (idsB next 0 nds = idsB next nd.id (nds.drop (k + 1))) := Lib.hid (by rw [HD.out, decide_eq_true (p := x < nd.id) (by omega), decide_eq_true (p := nd.id < next) (by omega)]; rfl)
                    clear HD hpd
                    go_wp2_with fail
                    go_quiet (fail)
                    go_wp2_with fail
                    go_roundw
                    case rel => exact ⟨k + 1, nd.id, by omega, by go_num, HM.out.drewN _, by omega, fun h => absurd h (by omega), HPV, HZ⟩
                    case measure => simp [intOf]; omega
          · have hid1 : idsB next 0 nds = true := by rw [HK.out, List.drop_eq_nil_of_le (by have := HL.out; omega)]; rfl
            have hr : Rise nds := Rise.of hid1
            have HA : Hid (rightB next nds = nds.all (fun nd => plainB next nds nd && belowB nds 64 nd)) := Lib.hid (by rw [HRR.out, hid1]; rfl)
            clear HK hid1 HRR
            go_wp2_with fail
            clear c0 c1 hbel hsz
            go_loopw [4] (fun i wr => ∃ k : Nat, k ≤ n ∧ i = .int .i64 k ∧ MW w next A n c wr ∧ Hid (rightB next nds = (nds.drop k).all (fun nd => plainB next nds nd && belowB nds 64 nd))) (fun i _ => n - (intOf i).toNat)
            case atStart => exact ⟨0, by omega, rfl, HM.out, HA⟩
            case round =>
              clear HM HA
              obtain ⟨k, hk, rfl, M, HK⟩ := hrel
              have c0 := M.c0
              have c1 := M.c1
              have hbel := M.bel
              have hsz := M.size
              have HM := Lib.hid M
              clear M
              by_cases hlt : k < n
              · obtain ⟨b, o, hA, _, hb, V, hV⟩ := h.all (by omega)
                obtain ⟨nd, hnd⟩ : ∃ nd, nds[k]? = some nd := ⟨nds[k]'(by have := HL.out; omega), List.getElem?_eq_getElem _⟩
                have hat := (hV k nd hnd).1.below hbel (by omega)
                have hlf := (hV k nd hnd).2
                have hPl : ∀ d os, Calls Tryz.prog 34 #[.agg #[.int .i64 next, .slice A n c], .agg #[.int .i64 nd.id, .string nd.con, .int .i64 nd.par, .string nd.role, .slice (V k).p.A (V k).p.n (V k).p.c, .slice (V k).k.A (V k).k.n (V k).k.c, .slice (V k).r.A (V k).r.n (V k).r.c]] (grow (redrawn wr d) os) (Ret (grow (redrawn wr d) os) (.bool (plainB next nds nd))) := fun d os =>
                  refPlain_any _ hi next A n c nds nd (V k) ((h.below (hbel.mono hh)).below ((below_regrown wr d os).mono (by omega))) ((hlf.below (hbel.mono hh)).below ((below_regrown wr d os).mono (by omega))) (by have := (below_regrown wr d os).size; omega) hr (by omega)
                have hBe : ∀ d os, Calls Tryz.prog 35 #[.agg #[.int .i64 next, .slice A n c], .agg #[.int .i64 nd.id, .string nd.con, .int .i64 nd.par, .string nd.role, .slice (V k).p.A (V k).p.n (V k).p.c, .slice (V k).k.A (V k).k.n (V k).k.c, .slice (V k).r.A (V k).r.n (V k).r.c]] (grow (redrawn wr d) os) (Ret (grow (redrawn wr d) os) (.bool (belowB nds 64 nd))) := fun d os =>
                  refBelow_any _ hi next A n c nds nd (V k) ((h.below (hbel.mono hh)).below ((below_regrown wr d os).mono (by omega))) ((hlf.below (hbel.mono hh)).below ((below_regrown wr d os).mono (by omega))) (by have := (below_regrown wr d os).size; omega) hr (by omega)
                generalize V k = Lk at hat hlf hPl hBe
                obtain ⟨⟨Ap2, np2, cp2⟩, ⟨Ak2, nk2, ck2⟩, ⟨Ar2, nr2, cr2⟩⟩ := Lk
                subst hA
                obtain ⟨a0, a1, a2, a3, a4, a5, a6⟩ := hat
                simp only at a4 a5 a6 hPl hBe
                have z0 := cell_regrown c0
                have z1 := cell_regrown c1
                have y0 := cell_regrown a0
                have y1 := cell_regrown a1
                have y2 := cell_regrown a2
                have y3 := cell_regrown a3
                have y4 := cell_regrown a4
                have y5 := cell_regrown a5
                have y6 := cell_regrown a6
                have hd : nds.drop k = nd :: nds.drop (k + 1) := by
                  obtain ⟨hl', rfl⟩ := List.getElem?_eq_some_iff.1 hnd
                  exact List.drop_eq_getElem_cons hl'
                have HD : Hid (rightB next nds = (plainB next nds nd && belowB nds 64 nd && (nds.drop (k + 1)).all (fun nd => plainB next nds nd && belowB nds 64 nd))) := Lib.hid (by rw [HK.out, hd, List.all_cons])
                obtain ⟨p1, hp1⟩ : ∃ x, plainB next nds nd = x := ⟨_, rfl⟩
                obtain ⟨p2, hp2⟩ : ∃ x, belowB nds 64 nd = x := ⟨_, rfl⟩
                rw [hp1, hp2] at HD
                rw [hp1] at hPl
                rw [hp2] at hBe
                have HPl := Lib.hid hPl
                have HBe := Lib.hid hBe
                clear hPl hBe hp1 hp2 hd hnd hlf HK hV a0 a1 a2 a3 a4 a5 a6
                cases p1 with
                | false =>
                  have HZ : Hid (rightB next nds = false) := Lib.hid (by rw [HD.out]; simp)
                  clear HD
                  go_wp2_with fail
                  refine wp_region_quiet_below (by kernel_rfl) (by kernel_rfl) ?_
                  repeat (go_big_quiet_step (first | (go_at_call 34; exact regrown_ret (HPl.out _ _)) | (go_at_call 35; exact regrown_ret (HBe.out _ _))))
                  refine wpQuiet_nil ?_
                  intro _ hw'
                  obtain ⟨⟨dq, osq⟩, hw''⟩ := hw'
                  subst hw''
                  have hb2 := below_regrown wr dq osq
                  generalize grow (redrawn wr dq) osq = w2 at hb2 ⊢
                  go_wp2_with fail
                  go_ret
                  exact ret_b HZ.out rfl (HM.out.after hb2).bel
                | true =>
                  cases p2 with
                  | false =>
                    have HZ : Hid (rightB next nds = false) := Lib.hid (by rw [HD.out]; simp)
                    clear HD
                    go_wp2_with fail
                    refine wp_region_quiet_below (by kernel_rfl) (by kernel_rfl) ?_
                    repeat (go_big_quiet_step (first | (go_at_call 34; exact regrown_ret (HPl.out _ _)) | (go_at_call 35; exact regrown_ret (HBe.out _ _))))
                    refine wpQuiet_nil ?_
                    intro _ hw'
                    obtain ⟨⟨dq, osq⟩, hw''⟩ := hw'
                    subst hw''
                    have hb2 := below_regrown wr dq osq
                    generalize grow (redrawn wr dq) osq = w2 at hb2 ⊢
                    go_wp2_with fail
                    go_ret
                    exact ret_b HZ.out rfl (HM.out.after hb2).bel
                  | true =>
                    have HZ : Hid (rightB next nds = (nds.drop (k + 1)).all (fun nd => plainB next nds nd && belowB nds 64 nd)) := Lib.hid (by rw [HD.out]; simp)
                    clear HD
                    go_wp2_with fail
                    refine wp_region_quiet_below (by kernel_rfl) (by kernel_rfl) ?_
                    repeat (go_big_quiet_step (first | (go_at_call 34; exact regrown_ret (HPl.out _ _)) | (go_at_call 35; exact regrown_ret (HBe.out _ _))))
                    refine wpQuiet_nil ?_
                    intro _ hw'
                    obtain ⟨⟨dq, osq⟩, hw''⟩ := hw'
                    subst hw''
                    have hb2 := below_regrown wr dq osq
                    generalize grow (redrawn wr dq) osq = w2 at hb2 ⊢
                    clear z0 z1 y0 y1 y2 y3 y4 y5 y6
                    go_wp2_with fail
                    go_roundw
                    case rel => exact ⟨k + 1, by omega, by go_num, HM.out.after hb2, HZ⟩
                    case measure => simp [intOf]; omega
              · have HZ : Hid (rightB next nds = true) := Lib.hid (by rw [HK.out, List.drop_eq_nil_of_le (by have := HL.out; omega)]; rfl)
                clear HK
                go_wp2_with fail
                go_ret
                exact ret_b HZ.out rfl hbel
end Go.Proofs.YtohinklkcinjpaaGreat
namespace Go.Proofs.YtohinklkcinjpaaGreat
open Go Go.RowKit Go.Sort
set_option linter.unusedVariables false
/-- two lists, place by place -/
def eqL {α : Type} (e : α → α → Bool) : List α → List α → Bool
  | [], [] => true
  | x :: l, y :: m => e x y && eqL e l m
  | _, _ => false
theorem eqL_len {α : Type} (e : α → α → Bool) : ∀ {l m : List α}, l.length ≠ m.length → eqL e l m = false
  | [], [], h => absurd rfl h
  | [], _ :: _, _ => rfl
  | _ :: _, [], _ => rfl
  | x :: l, y :: m, h => by
    rw [eqL, eqL_len e (l := l) (m := m) (by simpa using h), Bool.and_false]
theorem eqL_refl {α : Type} {e : α → α → Bool} (h : ∀ x, e x x = true) : ∀ l : List α, eqL e l l = true
  | [] => rfl
  | x :: l => by rw [eqL, h, eqL_refl h l]; rfl
def intE (x y : Int) : Bool := x == y
theorem drew_below {B : Nat} {w wr : World} (h : ∃ q, wr = w.drewN q) : Below B w wr := by
  obtain ⟨q, rfl⟩ := h; exact below_drewN (Below.refl _ _) q
theorem drew_more {w wr : World} (h : ∃ q, wr = w.drewN q) (n : Nat) : ∃ q, wr.drewN n = w.drewN q := by
  obtain ⟨q, rfl⟩ := h; exact ⟨q + n, World.drewN_drewN _ _ _⟩
theorem intE_refl (x : Int) : intE x x = true := by simp [intE]
set_option maxHeartbeats 1600000 in
theorem refInts_any (w : World) (lo hi lo' hi' : Nat) (A A' : Option Addr) (n c n' c' : Nat) (l m : List Int) (h1 : Row w lo hi 1 A n c (intCells l)) (h2 : Row w lo' hi' 1 A' n' c' (intCells m)) :
    Calls Tryz.prog 22 #[.slice A n c, .slice A' n' c'] w (DrewV w (.bool (eqL intE l m))) := by
  have hl1 : l.length = n := by have := h1.1; rw [intCells_length] at this; omega
  have hl2 : m.length = n' := by have := h2.1; rw [intCells_length] at this; omega
  have HL1 := Lib.hid hl1
  have HL2 := Lib.hid hl2
  have hc := h1.2.2.1
  have hnc := h1.2.1
  have hc' := h2.2.2.1
  have hnc' := h2.2.1
  unfold maxLen at hc hc'
  clear hl1 hl2
  by_cases hne : n = n'
  · have d0 : ((n : Int) != (n' : Int)) = false := by rw [bne_eq_false_iff_eq]; omega
    subst hne
    go_enter Tryz.func22, Tryz.ntmps22
    go_wp2_with fail
    go_loopw [5] (fun i wr => ∃ k : Nat, k ≤ n ∧ i = .int .i64 k ∧ Hid (∃ q, wr = w.drewN q) ∧ Hid (eqL intE l m = eqL intE (l.drop k) (m.drop k))) (fun i _ => n - (intOf i).toNat)
    case atStart => exact ⟨0, by omega, rfl, Lib.hid ⟨0, rfl⟩, Lib.hid rfl⟩
    case round =>
      obtain ⟨k, hk, rfl, HQ, HK⟩ := hrel
      by_cases hlt : k < n
      · obtain ⟨b1, o1, rfl, _, _, hcells1⟩ := (h1.below (drew_below HQ.out)).at_ (by omega)
        obtain ⟨b2, o2, rfl, _, _, hcells2⟩ := (h2.below (drew_below HQ.out)).at_ (by omega)
        obtain ⟨x, hx⟩ : ∃ x, l[k]? = some x := ⟨l[k]'(by have := HL1.out; omega), List.getElem?_eq_getElem _⟩
        obtain ⟨y, hy⟩ : ∃ y, m[k]? = some y := ⟨m[k]'(by have := HL2.out; omega), List.getElem?_eq_getElem _⟩
        have q1 := hcells1 k _ (intCells_get hx)
        have q2 := hcells2 k _ (intCells_get hy)
        have HD : Hid (eqL intE l m = (intE x y && eqL intE (l.drop (k + 1)) (m.drop (k + 1)))) := Lib.hid (by
          obtain ⟨hl1, e1⟩ := List.getElem?_eq_some_iff.1 hx
          obtain ⟨hl2, e2⟩ := List.getElem?_eq_some_iff.1 hy
          rw [HK.out, List.drop_eq_getElem_cons hl1, List.drop_eq_getElem_cons hl2, e1, e2]; rfl)
        clear HK hx hy hcells1 hcells2
        by_cases e1 : x = y
        · have d1 : (x != y) = false := by rw [bne_eq_false_iff_eq]; exact e1
          have HZ : Hid (eqL intE l m = eqL intE (l.drop (k + 1)) (m.drop (k + 1))) := Lib.hid (by rw [HD.out]; simp [intE, e1])
          clear HD e1
          go_wp2_with fail
          go_quiet (fail)
          go_wp2_with fail
          go_roundw
          case rel => exact ⟨k + 1, by omega, by go_num, Lib.hid (drew_more HQ.out nq), HZ⟩
          case measure => simp [intOf]; omega
        · have d1 : (x != y) = true := by rw [bne_iff_ne]; exact e1
          have HZ : Hid (eqL intE l m = false) := Lib.hid (by rw [HD.out]; simp [intE, e1])
          clear HD e1
          go_wp2_with fail
          go_quiet (fail)
          go_wp2_with fail
          go_ret
          exact ⟨ret_bool HZ.out.symm, drew_more HQ.out nq⟩
      · have HZ : Hid (eqL intE l m = true) := Lib.hid (by rw [HK.out, List.drop_eq_nil_of_le (by have := HL1.out; omega), List.drop_eq_nil_of_le (by have := HL2.out; omega)]; rfl)
        clear HK
        go_wp2_with fail
        go_ret
        exact ⟨ret_bool HZ.out.symm, HQ.out⟩
  · have d0 : ((n : Int) != (n' : Int)) = true := by rw [bne_iff_ne]; omega
    have HZ : Hid (eqL intE l m = false) := Lib.hid (eqL_len _ (by have := HL1.out; have := HL2.out; omega))
    clear hne
    go_enter Tryz.func22, Tryz.ntmps22
    go_wp2_with fail
    go_ret
    exact ⟨ret_bool HZ.out.symm, 0, rfl⟩
end Go.Proofs.YtohinklkcinjpaaGreat
namespace Go.Proofs.YtohinklkcinjpaaGreat
open Go Go.RowKit Go.Sort
set_option linter.unusedVariables false
/-- the boxes of two nodes -/
structure NW (w : World) (x : Nd) (L : Leaf) (y : Nd) (M : Leaf) (wr : World) : Prop where
  a : Blk wr w.heap.size 41 #[.int .i64 x.id, .string x.con, .int .i64 x.par, .string x.role, .slice L.p.A L.p.n L.p.c, .slice L.k.A L.k.n L.k.c, .slice L.r.A L.r.n L.r.c]
  b : Blk wr (w.heap.size + 1) 41 #[.int .i64 y.id, .string y.con, .int .i64 y.par, .string y.role, .slice M.p.A M.p.n M.p.c, .slice M.k.A M.k.n M.k.c, .slice M.r.A M.r.n M.r.c]
  bel : Below w.heap.size w wr
section
variable {w wr w' : World} {x y : Nd} {L M : Leaf}
theorem NW.start (w : World) (x : Nd) (L : Leaf) (y : Nd) (M : Leaf) : NW w x L y M ((w.alloc (.cells #[.int .i64 x.id, .string x.con, .int .i64 x.par, .string x.role, .slice L.p.A L.p.n L.p.c, .slice L.k.A L.k.n L.k.c, .slice L.r.A L.r.n L.r.c] 41)).alloc (.cells #[.int .i64 y.id, .string y.con, .int .i64 y.par, .string y.role, .slice M.p.A M.p.n M.p.c, .slice M.k.A M.k.n M.k.c, .slice M.r.A M.r.n M.r.c] 41)) :=
  ⟨(Blk.new _ _ _).alloc _, Blk.new' (by simp), (below_box _ _).alloc (by simp) _⟩
theorem NW.after (h : NW w x L y M wr) (hb : Below wr.heap.size wr w') : NW w x L y M w' := ⟨h.a.after hb, h.b.after hb, h.bel.trans (hb.mono h.bel.size)⟩
theorem NW.drewN (h : NW w x L y M wr) (q : Nat) : NW w x L y M (wr.drewN q) := ⟨h.a, h.b, below_drewN h.bel q⟩
theorem NW.size (h : NW w x L y M wr) : w.heap.size + 1 < wr.heap.size := h.b.lt
end
end Go.Proofs.YtohinklkcinjpaaGreat
namespace Go.Proofs.YtohinklkcinjpaaGreat
open Go Go.RowKit Go.Sort
set_option linter.unusedVariables false
/-- the boxes of two models -/
structure M2 (w : World) (next next' : Int) (A A' : Option Addr) (n c n' c' : Nat) (wr : World) : Prop where
  a : Blk wr w.heap.size 26 #[.int .i64 next, .slice A n c]
  b : Blk wr (w.heap.size + 1) 26 #[.int .i64 next', .slice A' n' c']
  bel : Below w.heap.size w wr
section
variable {w wr w' : World} {next next' : Int} {A A' : Option Addr} {n c n' c' : Nat}
theorem M2.start (w : World) (next next' : Int) (A A' : Option Addr) (n c n' c' : Nat) : M2 w next next' A A' n c n' c' ((w.alloc (.cells #[.int .i64 next, .slice A n c] 26)).alloc (.cells #[.int .i64 next', .slice A' n' c'] 26)) :=
  ⟨(Blk.new _ _ _).alloc _, Blk.new' (by simp), (below_box _ _).alloc (by simp) _⟩
theorem M2.after (h : M2 w next next' A A' n c n' c' wr) (hb : Below wr.heap.size wr w') : M2 w next next' A A' n c n' c' w' := ⟨h.a.after hb, h.b.after hb, h.bel.trans (hb.mono h.bel.size)⟩
theorem M2.size (h : M2 w next next' A A' n c n' c' wr) : w.heap.size + 1 < wr.heap.size := h.b.lt
end
end Go.Proofs.YtohinklkcinjpaaGreat
namespace Go.Proofs.YtohinklkcinjpaaGreat
open Go Go.RowKit Go.Sort
set_option linter.unusedVariables false
attribute [local go_sem ↓] Go.wp_at_zero Go.wp_at_succ
theorem MarkIn.row {w : World} {B : Nat} {e : TypeId} {size n : Nat} {s : Sl} {xs mark : List Value} (h : MarkIn w B e size s n xs mark) (hx : xs.length = n * size) : Row w B w.heap.size size s.A s.n s.c xs := by
  have h1 := own_row (own_take h.2.2 (Nat.le_succ n) h.2.1)
  rw [show (xs ++ mark).take (n * size) = xs from by rw [← hx]; simp] at h1
  rw [h.1]
  exact h1
/-- the mark behind the end: the room is there, and what lies in it -/
theorem MarkIn.mark {w : World} {B : Nat} {e : TypeId} {size n : Nat} {s : Sl} {xs : List Value} {m0 : Value} {ms : List Value} (h : MarkIn w B e size s n xs (m0 :: ms)) (hx : xs.length = n * size) :
    ∃ b o, s.A = some ⟨b, o, none⟩ ∧ b < w.heap.size ∧ s.n + 1 ≤ s.c ∧ s.c ≤ maxLen ∧ w.cell? ⟨b, o + s.n * size, none⟩ = some m0 := by
  have h1 := own_row h.2.2
  obtain ⟨b, o, hA, _, hb, hc⟩ := h1.2.2.2 (Nat.succ_pos _)
  refine ⟨b, o, hA, hb, ?_, h1.2.2.1, hc _ _ ?_⟩
  · rw [h.1]; exact h1.2.1
  · rw [h.1, ← hx]; simp
theorem LentLeaf.leafIn {w : World} {B : Nat} {nd : Nd} {L : Leaf} (h : LentLeaf w B nd L) : LeafIn w B w.heap.size nd L :=
  ⟨h.p.1, h.k.1, h.r.1, h.p.row (propCells_length _), h.k.row (by rw [intCells_length]; omega), h.r.row (refCells_length _), h.sz⟩
theorem LentAt.ownN {w : World} {B n c : Nat} {A : Option Addr} {nds : List Nd} {l : List (Nd × Leaf)} (h : LentAt w B A n c nds l) : OwnN w B (.slice A n c) l := by
  have h1 := own_take h.own (Nat.le_succ n) h.some_
  rw [show (allCells l ++ markNd).take (n * 7) = allCells l from by rw [← h.len, ← allCells_len]; simp] at h1
  unfold OwnN
  rw [h.len]
  exact h1
theorem LentAt.nodesIn {w : World} {B n c : Nat} {A : Option Addr} {nds : List Nd} {l : List (Nd × Leaf)} (h : LentAt w B A n c nds l) : NodesIn w B w.heap.size A n c nds := by
  rw [← h.nds_]
  exact h.ownN.nodesIn h.len (fun p hp => (h.leaf p hp).leafIn) (Nat.le_refl _) (Nat.le_refl _)
theorem LentAt.after {w w' : World} {B n c : Nat} {A : Option Addr} {nds : List Nd} {l : List (Nd × Leaf)} (h : LentAt w B A n c nds l) (hb : Below w.heap.size w w') : LentAt w' B A n c nds l :=
  ⟨h.nds_, h.len, fun p hp => (h.leaf p hp).after hb, h.some_, own_after h.own hb, h.le, h.max⟩
/-- where the nodes lie, each with its marks, and the last mark -/
theorem LentAt.all {w : World} {B n c : Nat} {A : Option Addr} {nds : List Nd} {l : List (Nd × Leaf)} (h : LentAt w B A n c nds l) :
    ∃ b o, A = some ⟨b, o, none⟩ ∧ b < w.heap.size ∧ w.cell? ⟨b, o + n * 7, none⟩ = some (.int .i64 (-7)) ∧ ∀ i p, l[i]? = some p → NodeAt w b (o + i * 7) p.1 p.2 ∧ LentLeaf w B p.1 p.2 := by
  have h1 := own_row h.own
  obtain ⟨b, o, hA, _, hb, hc⟩ := h1.2.2.2 (Nat.succ_pos _)
  refine ⟨b, o, hA, hb, hc _ _ (by rw [← h.len, ← allCells_len]; simp [markNd]), fun i p hp => ?_⟩
  have hi : i < l.length := (List.getElem?_eq_some_iff.1 hp).1
  have key : ∀ j u, j < 7 → (ndCells p)[j]? = some u → w.cell? ⟨b, o + i * 7 + j, none⟩ = some u := by
    intro j u hj hu
    have hlt : i * 7 + j < (allCells l).length := by rw [allCells_len]; omega
    have := hc (i * 7 + j) u (by rw [List.getElem?_append_left hlt]; unfold allCells; rw [flatN_get ndCells_len l i p hp j hj]; exact hu)
    rwa [Nat.add_assoc]
  exact ⟨⟨key 0 _ (by omega) rfl, key 1 _ (by omega) rfl, key 2 _ (by omega) rfl, key 3 _ (by omega) rfl, key 4 _ (by omega) rfl, key 5 _ (by omega) rfl, key 6 _ (by omega) rfl⟩, h.leaf p (List.mem_of_getElem? hp)⟩
end Go.Proofs.YtohinklkcinjpaaGreat
namespace Go.Proofs.YtohinklkcinjpaaGreat
open Go Go.RowKit Go.Sort
set_option linter.unusedVariables false
attribute [local go_sem ↓] Go.wp_at_zero Go.wp_at_succ
theorem step_call {P : Program} (w : World) {ops : Array Oper} {o : Oper} {a : Act} {K : Act → World → Prop} {Q : Exit → Act → World → Prop} {E : Prop} (hgd : o.guard = none) (f : FuncId) (vs : Array Value)
    (hrun : (execOp a.eval o).run P w = .ok (.enter f vs) w) {R : Ending → World → Prop} (h : Calls P f vs w R)
    (hK : ∀ e w', R e w' → ∃ u, e = .returned u ∧ K (a.put o.dst u) w') : if Region.wanted o (yielded ops a.tmps) = true then Oper.wp P o a w K Q else E := by
  have hw : Region.wanted o (yielded ops a.tmps) = true := by simp [Region.wanted, hgd]
  rw [if_pos hw]
  unfold Oper.wp
  rw [hrun]
  refine h.mono ?_
  intro e w' hR
  obtain ⟨u, rfl, hk⟩ := hK e w' hR
  exact hk
theorem step_alloc {P : Program} (w : World) {ops : Array Oper} {o : Oper} {a : Act} {K : Act → World → Prop} {Q : Exit → Act → World → Prop} {E : Prop} (hgd : o.guard = none) (T : TypeId) (cs : Array Value)
    (hrun : (execOp a.eval o).run P w = .ok (.value (.pointer (some ⟨w.heap.size, 0, none⟩))) (w.alloc (.cells cs T)))
    (hK : ∀ g w', Blk w' g T cs → Below w.heap.size w w' → w.heap.size ≤ g → K (a.put o.dst (.pointer (some ⟨g, 0, none⟩))) w') : if Region.wanted o (yielded ops a.tmps) = true then Oper.wp P o a w K Q else E := by
  have hw : Region.wanted o (yielded ops a.tmps) = true := by simp [Region.wanted, hgd]
  rw [if_pos hw]
  unfold Oper.wp
  rw [hrun]
  exact hK _ _ (Blk.new w T cs) (below_more (Below.refl _ _) _) (Nat.le_refl _)
set_option maxHeartbeats 1600000 in
theorem new_any (w : World) : Calls Tryz.prog 8 #[] w (Ret w (.agg #[.int .i64 1, .slice none 0 0])) := by
  go_enter Tryz.func8, Tryz.ntmps8
  go_wp2_with fail
  (try rw [Exit.noGoto_ret])
  (try simp only [Exit.inBlock, Exit.then])
  have hres : Tryz.f8.results = #[.cell 0 26] := by kernel_rfl
  refine bodyPost_ret (v := .agg #[.int .i64 1, .slice none 0 0]) ?hr rfl ?_
  case hr =>
    simp only [results, hres]
    go_simp
  exact ret_mk rfl (below_more (Below.refl _ _) _)
end Go.Proofs.YtohinklkcinjpaaGreat
namespace Go.Proofs.YtohinklkcinjpaaGreat
open Go Go.RowKit Go.Sort
set_option linter.unusedVariables false
/-- the lists of a node, each in memory of its own -/
structure OwnLeaf (w : World) (B : Nat) (nd : Nd) (L : Leaf) : Prop where
  pn : L.p.n = nd.props.length
  kn : L.k.n = nd.kids.length
  rn : L.r.n = nd.refs.length
  p : w.ownsRow B 94 2 (.slice L.p.A L.p.n L.p.c) L.p.n (propCells nd.props)
  k : w.ownsRow B 3 1 (.slice L.k.A L.k.n L.k.c) L.k.n (intCells nd.kids)
  r : w.ownsRow B 60 2 (.slice L.r.A L.r.n L.r.c) L.r.n (refCells nd.refs)
  sz : SzN nd
section
variable {w w' : World} {B : Nat} {nd : Nd} {L : Leaf}
theorem OwnLeaf.leafIn (h : OwnLeaf w B nd L) : LeafIn w B w.heap.size nd L := ⟨h.pn, h.kn, h.rn, own_row h.p, own_row h.k, own_row h.r, h.sz⟩
theorem OwnLeaf.after (h : OwnLeaf w B nd L) (hb : Below w.heap.size w w') : OwnLeaf w' B nd L := ⟨h.pn, h.kn, h.rn, own_after h.p hb, own_after h.k hb, own_after h.r hb, h.sz⟩
theorem OwnLeaf.mono (h : OwnLeaf w B nd L) {B' : Nat} (hB : B' ≤ B) : OwnLeaf w B' nd L := ⟨h.pn, h.kn, h.rn, own_mono h.p hB, own_mono h.k hB, own_mono h.r hB, h.sz⟩
theorem OwnLeaf.other (h : OwnLeaf w B nd L) {g : Nat} {t : TypeId} {cs : Array Value} (hg : Blk w g t cs) (h1 : 94 ≠ t) (h2 : 3 ≠ t) (h3 : 60 ≠ t) (i : Nat) (u : Value) : OwnLeaf (w.setCell ⟨g, i, none⟩ u) B nd L :=
  ⟨h.pn, h.kn, h.rn, own_other h.p hg h1 i u, own_other h.k hg h2 i u, own_other h.r hg h3 i u, h.sz⟩
theorem own_kept {e e' : TypeId} {size size' n n' B' : Nat} {v v' : Value} {xs xs' : List Value} (h : w.ownsRow B e size v n xs) (h' : w.ownsRow B' e' size' v' n' xs') (hne : e ≠ e') (hg : w.grownBy w' v'.ownBlock) : w'.ownsRow B e size v n xs :=
  World.ownsRow.kept h hg (own_own_ne h h' hne)
theorem OwnLeaf.kept (h : OwnLeaf w B nd L) {B' size' n' : Nat} {v' : Value} {xs' : List Value} (h' : w.ownsRow B' 41 size' v' n' xs') (hg : w.grownBy w' v'.ownBlock) : OwnLeaf w' B nd L :=
  ⟨h.pn, h.kn, h.rn, own_kept h.p h' (by decide) hg, own_kept h.k h' (by decide) hg, own_kept h.r h' (by decide) hg, h.sz⟩
end
/-- a list of nodes of the call's own -/
structure OwnM (w : World) (B : Nat) (v : Value) (l : List (Nd × Leaf)) : Prop where
  own : OwnN w B v l
  leaf : ∀ p ∈ l, OwnLeaf w B p.1 p.2
section
variable {w w' : World} {B : Nat} {v : Value} {l : List (Nd × Leaf)}
theorem OwnM.after (h : OwnM w B v l) (hb : Below w.heap.size w w') : OwnM w' B v l := ⟨own_after h.own hb, fun p hp => (h.leaf p hp).after hb⟩
theorem OwnM.mono (h : OwnM w B v l) {B' : Nat} (hB : B' ≤ B) : OwnM w B' v l := ⟨own_mono h.own hB, fun p hp => (h.leaf p hp).mono hB⟩
theorem OwnM.other (h : OwnM w B v l) {g : Nat} {cs : Array Value} (hg : Blk w g 26 cs) (i : Nat) (u : Value) : OwnM (w.setCell ⟨g, i, none⟩ u) B v l :=
  ⟨own_other h.own hg (by decide) i u, fun p hp => (h.leaf p hp).other hg (by decide) (by decide) (by decide) i u⟩
theorem OwnM.nodesIn {A : Option Addr} {n c : Nat} (h : OwnM w B (.slice A n c) l) (hn : l.length = n) : NodesIn w B w.heap.size A n c (l.map (·.1)) :=
  OwnN.nodesIn h.own hn (fun p hp => (h.leaf p hp).leafIn) (Nat.le_refl _) (Nat.le_refl _)
theorem own_blk {e : TypeId} {size n c g : Nat} {xs : List Value} (h : w.ownsRow B e size (.slice (some ⟨g, 0, none⟩) n c) n xs) : ∃ cs, Blk w g e cs ∧ B ≤ g ∧ cs.size = c * size := by
  rcases h.2 with ⟨h', _⟩ | ⟨g', cap', cur, h', hb, hg, _, _, hs, _⟩
  · simp at h'
  · simp only [Value.slice.injEq, Option.some.injEq, Addr.mk.injEq, and_true, true_and] at h'
    obtain ⟨rfl, rfl⟩ := h'
    exact ⟨cur, hg, hb, hs⟩
/-- the cells of a list of nodes of which one has turned -/
theorem allCells_set {l : List (Nd × Leaf)} {i j : Nat} {p q : Nd × Leaf} {u : Value} (hp : l[i]? = some p) (hj : j < 7) (hq : (ndCells p).set j u = ndCells q) : (allCells l).set (i * 7 + j) u = allCells (l.set i q) := by
  induction l generalizing i with
  | nil => simp at hp
  | cons x l ih =>
    have hx := ndCells_len x
    match i, hp with
    | 0, hp =>
      obtain rfl : x = p := by simpa using hp
      simp only [allCells, List.flatMap_cons, List.set_cons_zero, Nat.zero_mul, Nat.zero_add]
      rw [List.set_append_left _ _ (by omega), hq]
    | i + 1, hp =>
      have := ih (i := i) (by simpa using hp)
      simp only [allCells, List.flatMap_cons, List.set_cons_succ] at this ⊢
      rw [List.set_append_right _ _ (by omega), hx, show (i + 1) * 7 + j - 7 = i * 7 + j from by omega, this]
/-- a cell of a node is stored -/
theorem OwnM.store {n c g i j : Nat} {p q : Nd × Leaf} {u : Value} (h : OwnM w B (.slice (some ⟨g, 0, none⟩) n c) l) (hn : l.length = n) (hp : l[i]? = some p) (hj : j < 7) (hq : (ndCells p).set j u = ndCells q) (hl : OwnLeaf w B q.1 q.2) :
    OwnM (w.setCell ⟨g, i * 7 + j, none⟩ u) B (.slice (some ⟨g, 0, none⟩) n c) (l.set i q) := by
  subst hn
  have h1 : w.ownsRow B 41 7 (.slice (some ⟨g, 0, none⟩) l.length c) l.length (allCells l) := h.own
  obtain ⟨cs, hg, _, _⟩ := own_blk h1
  have h2 := (World.ownsRow.stored h1 (i * 7 + j) u).1
  rw [allCells_set hp hj hq] at h2
  refine ⟨?_, fun x hx => ?_⟩
  · unfold OwnN
    rw [List.length_set]
    exact h2
  · rcases List.mem_or_eq_of_mem_set hx with hx | rfl
    · exact (h.leaf x hx).other hg (by decide) (by decide) (by decide) _ u
    · exact hl.other hg (by decide) (by decide) (by decide) _ u
/-- the world, where a cell of the call's own memory has turned -/
theorem below_set {W X : World} {g i : Nat} {u : Value} (h : Below W.heap.size W X) (hg : W.heap.size ≤ g) : Below W.heap.size W (X.setCell ⟨g, i, none⟩ u) := h.setCell (p := ⟨g, i, none⟩) hg u
end
section
variable {P : Program} (w : World)
/-- copy of a whole row into a block of the call's own -/
theorem run_copy_all (dT sT ty elem : TypeId) (i : TypeInfo) (size : Nat) (hu : P.underlying dT = some (.slice elem)) (hi : P.info? elem = some i) (hs : i.size = size)
    (g n c m : Nat) (A : Option Addr) (k : Nat) (cur : Array Value) (t : TypeId) (hg : w.heap[g]? = some (.cells cur t (0, 0))) (hcur : cur.size = n * size)
    (lo hi' : Nat) (news : List Value) (hr : Row w lo hi' size A n k news) (hn : 0 < n) (h1 : ∀ u ∈ news, u.oneCell' = true) :
    (Builtin.copy_ #[dT, sT] ty #[.slice (some ⟨g, 0, none⟩) n c, .slice A n k]).run P w = .ok (goInt n) (w.setRow g news.toArray) := by
  obtain ⟨b, o, rfl, _, _, hc⟩ := hr.2.2.2 hn
  have hl := run_loadCells_list (P := P) w ⟨b, o, none⟩ news (fun j u hj => by rw [Addr.add_lit]; exact hc j u hj)
  have hst := run_storeCells_at P g 0 t news 0 cur w hg (by rw [hr.1, hcur]; omega) h1
  have hd : cur.toList.drop (n * size) = [] := List.drop_eq_nil_of_le (by rw [Array.length_toList, hcur]; exact Nat.le_refl _)
  rw [hr.1] at hl
  simp only [Nat.zero_add, List.take_zero, List.nil_append, hr.1, hd, List.append_nil] at hst
  simp [Builtin.copy_, run_underlying hu, Builtin.lenOf, Builtin.firstCells, sizeOf, typeInfo, hi, hs, hl, hst]
/-- a new block, filled whole -/
theorem own_filled {w X : World} {g n size B : Nat} {e : TypeId} {cur : Array Value} {news : List Value} (hg : X.heap[g]? = some (.cells cur e (0, 0))) (hB : B ≤ g) (hn : n ≤ maxLen) (hs : news.length = n * size) :
    (X.setRow g news.toArray).ownsRow B e size (.slice (some ⟨g, 0, none⟩) n n) n news :=
  ⟨hs, .inr ⟨g, n, news.toArray, rfl, hB, setRow_heap X g cur _ e _ hg, Nat.le_refl _, hn, by simpa using hs, by simp [← hs]⟩⟩
end
end Go.Proofs.YtohinklkcinjpaaGreat

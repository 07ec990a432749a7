/-
  WALKS: Right of the document.
  WALKS: two lists are the same.
-/
import Derived.Test.YtdeoblhdojbbbaaDoorZ18
namespace Go.Proofs.YtdeoblhdojbbbaaDoor
open Go Go.RowKit Go.Sort
set_option linter.unusedVariables false
/-- the box of a model, and nothing old has turned -/
structure MW (w : World) (next : Int) (A : Option Addr) (n c : Nat) (wr : World) : Prop where
  md : Blk wr w.heap.size 24 #[.int .i64 next, .slice A n c]
  bel : Below w.heap.size w wr
section
variable {w wr w' : World} {next : Int} {A : Option Addr} {n c : Nat}
theorem MW.start (w : World) (next : Int) (A : Option Addr) (n c : Nat) : MW w next A n c (w.alloc (.cells #[.int .i64 next, .slice A n c] 24)) := ⟨Blk.new _ _ _, below_box _ _⟩
theorem MW.after (h : MW w next A n c wr) (hb : Below wr.heap.size wr w') : MW w next A n c w' := ⟨h.md.after hb, h.bel.trans (hb.mono h.bel.size)⟩
theorem MW.drewN (h : MW w next A n c wr) (q : Nat) : MW w next A n c (wr.drewN q) := ⟨h.md, below_drewN h.bel q⟩
theorem MW.size (h : MW w next A n c wr) : w.heap.size < wr.heap.size := h.md.lt
theorem MW.c0 (h : MW w next A n c wr) : wr.cell? ⟨w.heap.size, 0, none⟩ = some (.int .i64 next) := h.md.cell 0
theorem MW.c1 (h : MW w next A n c wr) : wr.cell? ⟨w.heap.size, 1, none⟩ = some (.slice A n c) := h.md.cell 1
end
set_option maxRecDepth 100000 in
set_option maxHeartbeats 3200000 in
theorem refRight_any (w : World) (hi : Nat) (next : Int) (A : Option Addr) (n c : Nat) (nds : List Nd) (h : NodesIn w 0 hi A n c nds) (hh : hi ≤ w.heap.size) :
    Calls Tryd.prog 17 #[.agg #[.int .i64 next, .slice A n c]] w (Ret w (.bool (rightB next nds))) := by
  have hc := h.2.2.1
  have hnc := h.2.1
  have HL := Lib.hid h.1
  unfold maxLen at hc
  have HM0 := Lib.hid (MW.start w next A n c)
  have HR : Hid (rightB next nds = (headB next nds && idsB next 0 nds && nds.all (fun nd => plainB next nds nd && belowB nds 64 nd))) := Lib.hid rfl
  have HHd : Hid (headB next nds = (decide (1 ≤ next) && decide (next ≤ 1048577) && decide (n ≤ 4096))) := Lib.hid (by unfold headB; rw [HL.out])
  by_cases h1 : next < 1
  · have d1 : decide (next < 1) = true := decide_eq_true h1
    have HZ : Hid (rightB next nds = false) := Lib.hid (by rw [HR.out, HHd.out, decide_eq_false (p := 1 ≤ next) (by omega)]; rfl)
    go_enter Tryd.func17, Tryd.ntmps17
    go_wp2_with fail
    go_ret
    exact ret_b HZ.out rfl HM0.out.bel
  · have d1 : decide (next < 1) = false := decide_eq_false h1
    by_cases h2 : 1048577 < next
    · have d2 : decide (1048577 < next) = true := decide_eq_true h2
      have HZ : Hid (rightB next nds = false) := Lib.hid (by rw [HR.out, HHd.out, decide_eq_false (p := next ≤ 1048577) (by omega)]; simp)
      go_enter Tryd.func17, Tryd.ntmps17
      go_wp2_with fail
      go_ret
      exact ret_b HZ.out rfl HM0.out.bel
    · have d2 : decide (1048577 < next) = false := decide_eq_false h2
      by_cases h3 : 4096 < n
      · have d3 : decide (4096 < (n : Int)) = true := decide_eq_true (by omega)
        have HZ : Hid (rightB next nds = false) := Lib.hid (by rw [HR.out, HHd.out, decide_eq_false (p := n ≤ 4096) (by omega)]; simp)
        go_enter Tryd.func17, Tryd.ntmps17
        go_wp2_with fail
        go_ret
        exact ret_b HZ.out rfl HM0.out.bel
      · have d3 : decide (4096 < (n : Int)) = false := decide_eq_false (by omega)
        have hRR : rightB next nds = (idsB next 0 nds && nds.all (fun nd => plainB next nds nd && belowB nds 64 nd)) := by
          rw [HR.out, HHd.out, decide_eq_true (p := 1 ≤ next) (by omega), decide_eq_true (p := next ≤ 1048577) (by omega), decide_eq_true (p := n ≤ 4096) (by omega)]; rfl
        have HRR := Lib.hid hRR
        clear hRR HR HHd
        go_enter Tryd.func17, Tryd.ntmps17
        go_wp2_with fail
        go_loopw [3] (fun i wr => ∃ (k : Nat) (x : Int), k ≤ n ∧ i = .int .i64 k ∧ MW w next A n c wr ∧ 0 ≤ x ∧ (k = 0 → x = 0) ∧ Hid (∀ m nd, k = m + 1 → nds[m]? = some nd → nd.id = x) ∧ Hid (idsB next 0 nds = idsB next x (nds.drop k))) (fun i _ => n - (intOf i).toNat)
        case atStart => exact ⟨0, 0, by omega, rfl, HM0.out, by omega, fun _ => rfl, Lib.hid (fun m nd h => absurd h (by omega)), Lib.hid rfl⟩
        case round =>
          clear HM0
          obtain ⟨k, x, hk, rfl, M, hx0, hk0, HPV, HK⟩ := hrel
          have c0 := M.c0
          have c1 := M.c1
          have hbel := M.bel
          have hsz := M.size
          have HM := Lib.hid M
          clear M
          by_cases hlt : k < n
          · obtain ⟨b, o, hA, _, hb, V, hV⟩ := h.all (by omega)
            subst hA
            obtain ⟨nd, hnd⟩ : ∃ nd, nds[k]? = some nd := ⟨nds[k]'(by have := HL.out; omega), List.getElem?_eq_getElem _⟩
            have a0 := ((hV k nd hnd).1.below hbel (by omega)).c0
            have hd : nds.drop k = nd :: nds.drop (k + 1) := by
              obtain ⟨hl', rfl⟩ := List.getElem?_eq_some_iff.1 hnd
              exact List.drop_eq_getElem_cons hl'
            have HD : Hid (idsB next 0 nds = (decide (x < nd.id) && decide (nd.id < next) && idsB next nd.id (nds.drop (k + 1)))) := Lib.hid (by rw [HK.out, hd, idsB])
            have HPV' := HPV
            clear HPV
            have HPV : Hid (∀ m nd', k + 1 = m + 1 → nds[m]? = some nd' → nd'.id = nd.id) := Lib.hid (fun m nd' e hm => by
              obtain rfl : k = m := by omega
              rw [hnd] at hm; injection hm with hm; rw [hm])
            have hprev : (k = 0 ∧ x = 0) ∨ ∃ pd, 0 < k ∧ nds[k - 1]? = some pd ∧ wr.cell? ⟨b, o + (k - 1) * 7, none⟩ = some (.int .i64 x) := by
              by_cases e : k = 0
              · exact .inl ⟨e, hk0 e⟩
              · right
                obtain ⟨pd, hpd⟩ : ∃ pd, nds[k - 1]? = some pd := ⟨nds[k - 1]'(by have := HL.out; omega), List.getElem?_eq_getElem _⟩
                refine ⟨pd, by omega, hpd, ?_⟩
                have := ((hV (k - 1) pd hpd).1.below hbel (by omega)).c0
                rw [HPV'.out (k - 1) pd (by omega) hpd] at this
                exact this
            clear hd hnd HK hV HPV'
            by_cases g1 : nd.id < 1
            · have e1 : decide (nd.id < 1) = true := decide_eq_true g1
              have HZ : Hid (rightB next nds = false) := Lib.hid (by rw [HRR.out, HD.out, decide_eq_false (p := x < nd.id) (by omega)]; rfl)
              clear HD hprev hk0
              go_wp2_with fail
              go_quiet (fail)
              go_wp2_with fail
              go_ret
              exact ret_b HZ.out rfl (below_drewN HM.out.bel _)
            · have e1 : decide (nd.id < 1) = false := decide_eq_false g1
              by_cases g2 : next ≤ nd.id
              · have e2 : decide (next ≤ nd.id) = true := decide_eq_true g2
                have HZ : Hid (rightB next nds = false) := Lib.hid (by rw [HRR.out, HD.out, decide_eq_false (p := nd.id < next) (by omega)]; simp)
                clear HD hprev hk0
                go_wp2_with fail
                go_quiet (fail)
                go_wp2_with fail
                go_ret
                exact ret_b HZ.out rfl (below_drewN HM.out.bel _)
              · have e2 : decide (next ≤ nd.id) = false := decide_eq_false g2
                clear hk0
                rcases hprev with ⟨hp1, hp2⟩ | ⟨pd, hpk, hpd, hpc⟩
                · have e3 : decide (0 < k) = false := decide_eq_false (by omega)
                  have g4 : x < nd.id := by omega
                  · have HZ : Hid (idsB next 0 nds = idsB next nd.id (nds.drop (k + 1))) := Lib.hid (by rw [HD.out, decide_eq_true g4, decide_eq_true (p := nd.id < next) (by omega)]; rfl)
                    clear HD hp1 hp2
                    go_wp2_with fail
                    go_quiet (fail)
                    go_wp2_with fail
                    go_roundw
                    case rel => exact ⟨k + 1, nd.id, by omega, by go_num, HM.out.drewN _, by omega, fun h => absurd h (by omega), HPV, HZ⟩
                    case measure => simp [intOf]; omega
                · have e3 : decide (0 < k) = true := decide_eq_true hpk
                  by_cases g4 : nd.id ≤ x
                  · have e4 : decide (nd.id ≤ x) = true := decide_eq_true g4
                    have HZ : Hid (rightB next nds = false) := Lib.hid (by rw [HRR.out, HD.out, decide_eq_false (p := x < nd.id) (by omega)]; rfl)
                    clear HD hpd
                    go_wp2_with fail
                    go_quiet (fail)
                    go_wp2_with fail
                    go_ret
                    exact ret_b HZ.out rfl (below_drewN HM.out.bel _)
                  · have e4 : decide (nd.id ≤ x) = false := decide_eq_false g4
                    have HZ : Hid (idsB next 0 nds = idsB next nd.id (nds.drop (k + 1))) := Lib.hid (by rw [HD.out, decide_eq_true (p := x < nd.id) (by omega), decide_eq_true (p := nd.id < next) (by omega)]; rfl)
                    clear HD hpd
                    go_wp2_with fail
                    go_quiet (fail)
                    go_wp2_with fail
                    go_roundw
                    case rel => exact ⟨k + 1, nd.id, by omega, by go_num, HM.out.drewN _, by omega, fun h => absurd h (by omega), HPV, HZ⟩
                    case measure => simp [intOf]; omega
          · have hid1 : idsB next 0 nds = true := by rw [HK.out, List.drop_eq_nil_of_le (by have := HL.out; omega)]; rfl
            have hr : Rise nds := Rise.of hid1
            have HA : Hid (rightB next nds = nds.all (fun nd => plainB next nds nd && belowB nds 64 nd)) := Lib.hid (by rw [HRR.out, hid1]; rfl)
            clear HK hid1 HRR
            go_wp2_with fail
            clear c0 c1 hbel hsz
            go_loopw [4] (fun i wr => ∃ k : Nat, k ≤ n ∧ i = .int .i64 k ∧ MW w next A n c wr ∧ Hid (rightB next nds = (nds.drop k).all (fun nd => plainB next nds nd && belowB nds 64 nd))) (fun i _ => n - (intOf i).toNat)
            case atStart => exact ⟨0, by omega, rfl, HM.out, HA⟩
            case round =>
              clear HM HA
              obtain ⟨k, hk, rfl, M, HK⟩ := hrel
              have c0 := M.c0
              have c1 := M.c1
              have hbel := M.bel
              have hsz := M.size
              have HM := Lib.hid M
              clear M
              by_cases hlt : k < n
              · obtain ⟨b, o, hA, _, hb, V, hV⟩ := h.all (by omega)
                obtain ⟨nd, hnd⟩ : ∃ nd, nds[k]? = some nd := ⟨nds[k]'(by have := HL.out; omega), List.getElem?_eq_getElem _⟩
                have hat := (hV k nd hnd).1.below hbel (by omega)
                have hlf := (hV k nd hnd).2
                have hPl : ∀ d os, Calls Tryd.prog 35 #[.agg #[.int .i64 next, .slice A n c], .agg #[.int .i64 nd.id, .string nd.con, .int .i64 nd.par, .string nd.role, .slice (V k).p.A (V k).p.n (V k).p.c, .slice (V k).k.A (V k).k.n (V k).k.c, .slice (V k).r.A (V k).r.n (V k).r.c]] (grow (redrawn wr d) os) (Ret (grow (redrawn wr d) os) (.bool (plainB next nds nd))) := fun d os =>
                  refPlain_any _ hi next A n c nds nd (V k) ((h.below (hbel.mono hh)).below ((below_regrown wr d os).mono (by omega))) ((hlf.below (hbel.mono hh)).below ((below_regrown wr d os).mono (by omega))) (by have := (below_regrown wr d os).size; omega) hr (by omega)
                have hBe : ∀ d os, Calls Tryd.prog 36 #[.agg #[.int .i64 next, .slice A n c], .agg #[.int .i64 nd.id, .string nd.con, .int .i64 nd.par, .string nd.role, .slice (V k).p.A (V k).p.n (V k).p.c, .slice (V k).k.A (V k).k.n (V k).k.c, .slice (V k).r.A (V k).r.n (V k).r.c]] (grow (redrawn wr d) os) (Ret (grow (redrawn wr d) os) (.bool (belowB nds 64 nd))) := fun d os =>
                  refBelow_any _ hi next A n c nds nd (V k) ((h.below (hbel.mono hh)).below ((below_regrown wr d os).mono (by omega))) ((hlf.below (hbel.mono hh)).below ((below_regrown wr d os).mono (by omega))) (by have := (below_regrown wr d os).size; omega) hr (by omega)
                generalize V k = Lk at hat hlf hPl hBe
                obtain ⟨⟨Ap2, np2, cp2⟩, ⟨Ak2, nk2, ck2⟩, ⟨Ar2, nr2, cr2⟩⟩ := Lk
                subst hA
                obtain ⟨a0, a1, a2, a3, a4, a5, a6⟩ := hat
                simp only at a4 a5 a6 hPl hBe
                have z0 := cell_regrown c0
                have z1 := cell_regrown c1
                have y0 := cell_regrown a0
                have y1 := cell_regrown a1
                have y2 := cell_regrown a2
                have y3 := cell_regrown a3
                have y4 := cell_regrown a4
                have y5 := cell_regrown a5
                have y6 := cell_regrown a6
                have hd : nds.drop k = nd :: nds.drop (k + 1) := by
                  obtain ⟨hl', rfl⟩ := List.getElem?_eq_some_iff.1 hnd
                  exact List.drop_eq_getElem_cons hl'
                have HD : Hid (rightB next nds = (plainB next nds nd && belowB nds 64 nd && (nds.drop (k + 1)).all (fun nd => plainB next nds nd && belowB nds 64 nd))) := Lib.hid (by rw [HK.out, hd, List.all_cons])
                obtain ⟨p1, hp1⟩ : ∃ x, plainB next nds nd = x := ⟨_, rfl⟩
                obtain ⟨p2, hp2⟩ : ∃ x, belowB nds 64 nd = x := ⟨_, rfl⟩
                rw [hp1, hp2] at HD
                rw [hp1] at hPl
                rw [hp2] at hBe
                have HPl := Lib.hid hPl
                have HBe := Lib.hid hBe
                clear hPl hBe hp1 hp2 hd hnd hlf HK hV a0 a1 a2 a3 a4 a5 a6
                cases p1 with
                | false =>
                  have HZ : Hid (rightB next nds = false) := Lib.hid (by rw [HD.out]; simp)
                  clear HD
                  go_wp2_with fail
                  refine wp_region_quiet_below (by kernel_rfl) (by kernel_rfl) ?_
                  repeat (go_big_quiet_step (first | (go_at_call 35; exact regrown_ret (HPl.out _ _)) | (go_at_call 36; exact regrown_ret (HBe.out _ _))))
                  refine wpQuiet_nil ?_
                  intro _ hw'
                  obtain ⟨⟨dq, osq⟩, hw''⟩ := hw'
                  subst hw''
                  have hb2 := below_regrown wr dq osq
                  generalize grow (redrawn wr dq) osq = w2 at hb2 ⊢
                  go_wp2_with fail
                  go_ret
                  exact ret_b HZ.out rfl (HM.out.after hb2).bel
                | true =>
                  cases p2 with
                  | false =>
                    have HZ : Hid (rightB next nds = false) := Lib.hid (by rw [HD.out]; simp)
                    clear HD
                    go_wp2_with fail
                    refine wp_region_quiet_below (by kernel_rfl) (by kernel_rfl) ?_
                    repeat (go_big_quiet_step (first | (go_at_call 35; exact regrown_ret (HPl.out _ _)) | (go_at_call 36; exact regrown_ret (HBe.out _ _))))
                    refine wpQuiet_nil ?_
                    intro _ hw'
                    obtain ⟨⟨dq, osq⟩, hw''⟩ := hw'
                    subst hw''
                    have hb2 := below_regrown wr dq osq
                    generalize grow (redrawn wr dq) osq = w2 at hb2 ⊢
                    go_wp2_with fail
                    go_ret
                    exact ret_b HZ.out rfl (HM.out.after hb2).bel
                  | true =>
                    have HZ : Hid (rightB next nds = (nds.drop (k + 1)).all (fun nd => plainB next nds nd && belowB nds 64 nd)) := Lib.hid (by rw [HD.out]; simp)
                    clear HD
                    go_wp2_with fail
                    refine wp_region_quiet_below (by kernel_rfl) (by kernel_rfl) ?_
                    repeat (go_big_quiet_step (first | (go_at_call 35; exact regrown_ret (HPl.out _ _)) | (go_at_call 36; exact regrown_ret (HBe.out _ _))))
                    refine wpQuiet_nil ?_
                    intro _ hw'
                    obtain ⟨⟨dq, osq⟩, hw''⟩ := hw'
                    subst hw''
                    have hb2 := below_regrown wr dq osq
                    generalize grow (redrawn wr dq) osq = w2 at hb2 ⊢
                    clear z0 z1 y0 y1 y2 y3 y4 y5 y6
                    go_wp2_with fail
                    go_roundw
                    case rel => exact ⟨k + 1, by omega, by go_num, HM.out.after hb2, HZ⟩
                    case measure => simp [intOf]; omega
              · have HZ : Hid (rightB next nds = true) := Lib.hid (by rw [HK.out, List.drop_eq_nil_of_le (by have := HL.out; omega)]; rfl)
                clear HK
                go_wp2_with fail
                go_ret
                exact ret_b HZ.out rfl hbel
end Go.Proofs.YtdeoblhdojbbbaaDoor
namespace Go.Proofs.YtdeoblhdojbbbaaDoor
open Go Go.RowKit Go.Sort
set_option linter.unusedVariables false
/-- two lists, place by place -/
def eqL {α : Type} (e : α → α → Bool) : List α → List α → Bool
  | [], [] => true
  | x :: l, y :: m => e x y && eqL e l m
  | _, _ => false
theorem eqL_len {α : Type} (e : α → α → Bool) : ∀ {l m : List α}, l.length ≠ m.length → eqL e l m = false
  | [], [], h => absurd rfl h
  | [], _ :: _, _ => rfl
  | _ :: _, [], _ => rfl
  | x :: l, y :: m, h => by
    rw [eqL, eqL_len e (l := l) (m := m) (by simpa using h), Bool.and_false]
theorem eqL_refl {α : Type} {e : α → α → Bool} (h : ∀ x, e x x = true) : ∀ l : List α, eqL e l l = true
  | [] => rfl
  | x :: l => by rw [eqL, h, eqL_refl h l]; rfl
def intE (x y : Int) : Bool := x == y
def propE (x y : ByteArray × ByteArray) : Bool := (x.1.toList == y.1.toList) && (x.2.toList == y.2.toList)
def refE (x y : ByteArray × Int) : Bool := (x.1.toList == y.1.toList) && (x.2 == y.2)
theorem drew_below {B : Nat} {w wr : World} (h : ∃ q, wr = w.drewN q) : Below B w wr := by
  obtain ⟨q, rfl⟩ := h; exact below_drewN (Below.refl _ _) q
theorem drew_more {w wr : World} (h : ∃ q, wr = w.drewN q) (n : Nat) : ∃ q, wr.drewN n = w.drewN q := by
  obtain ⟨q, rfl⟩ := h; exact ⟨q + n, World.drewN_drewN _ _ _⟩
theorem intE_refl (x : Int) : intE x x = true := by simp [intE]
theorem propE_refl (x : ByteArray × ByteArray) : propE x x = true := by simp [propE]
theorem refE_refl (x : ByteArray × Int) : refE x x = true := by simp [refE]
set_option maxHeartbeats 1600000 in
theorem refInts_any (w : World) (lo hi lo' hi' : Nat) (A A' : Option Addr) (n c n' c' : Nat) (l m : List Int) (h1 : Row w lo hi 1 A n c (intCells l)) (h2 : Row w lo' hi' 1 A' n' c' (intCells m)) :
    Calls Tryd.prog 43 #[.slice A n c, .slice A' n' c'] w (DrewV w (.bool (eqL intE l m))) := by
  have hl1 : l.length = n := by have := h1.1; rw [intCells_length] at this; omega
  have hl2 : m.length = n' := by have := h2.1; rw [intCells_length] at this; omega
  have HL1 := Lib.hid hl1
  have HL2 := Lib.hid hl2
  have hc := h1.2.2.1
  have hnc := h1.2.1
  have hc' := h2.2.2.1
  have hnc' := h2.2.1
  unfold maxLen at hc hc'
  clear hl1 hl2
  by_cases hne : n = n'
  · have d0 : ((n : Int) != (n' : Int)) = false := by rw [bne_eq_false_iff_eq]; omega
    subst hne
    go_enter Tryd.func43, Tryd.ntmps43
    go_wp2_with fail
    go_loopw [5] (fun i wr => ∃ k : Nat, k ≤ n ∧ i = .int .i64 k ∧ Hid (∃ q, wr = w.drewN q) ∧ Hid (eqL intE l m = eqL intE (l.drop k) (m.drop k))) (fun i _ => n - (intOf i).toNat)
    case atStart => exact ⟨0, by omega, rfl, Lib.hid ⟨0, rfl⟩, Lib.hid rfl⟩
    case round =>
      obtain ⟨k, hk, rfl, HQ, HK⟩ := hrel
      by_cases hlt : k < n
      · obtain ⟨b1, o1, rfl, _, _, hcells1⟩ := (h1.below (drew_below HQ.out)).at_ (by omega)
        obtain ⟨b2, o2, rfl, _, _, hcells2⟩ := (h2.below (drew_below HQ.out)).at_ (by omega)
        obtain ⟨x, hx⟩ : ∃ x, l[k]? = some x := ⟨l[k]'(by have := HL1.out; omega), List.getElem?_eq_getElem _⟩
        obtain ⟨y, hy⟩ : ∃ y, m[k]? = some y := ⟨m[k]'(by have := HL2.out; omega), List.getElem?_eq_getElem _⟩
        have q1 := hcells1 k _ (intCells_get hx)
        have q2 := hcells2 k _ (intCells_get hy)
        have HD : Hid (eqL intE l m = (intE x y && eqL intE (l.drop (k + 1)) (m.drop (k + 1)))) := Lib.hid (by
          obtain ⟨hl1, e1⟩ := List.getElem?_eq_some_iff.1 hx
          obtain ⟨hl2, e2⟩ := List.getElem?_eq_some_iff.1 hy
          rw [HK.out, List.drop_eq_getElem_cons hl1, List.drop_eq_getElem_cons hl2, e1, e2]; rfl)
        clear HK hx hy hcells1 hcells2
        by_cases e1 : x = y
        · have d1 : (x != y) = false := by rw [bne_eq_false_iff_eq]; exact e1
          have HZ : Hid (eqL intE l m = eqL intE (l.drop (k + 1)) (m.drop (k + 1))) := Lib.hid (by rw [HD.out]; simp [intE, e1])
          clear HD e1
          go_wp2_with fail
          go_quiet (fail)
          go_wp2_with fail
          go_roundw
          case rel => exact ⟨k + 1, by omega, by go_num, Lib.hid (drew_more HQ.out nq), HZ⟩
          case measure => simp [intOf]; omega
        · have d1 : (x != y) = true := by rw [bne_iff_ne]; exact e1
          have HZ : Hid (eqL intE l m = false) := Lib.hid (by rw [HD.out]; simp [intE, e1])
          clear HD e1
          go_wp2_with fail
          go_quiet (fail)
          go_wp2_with fail
          go_ret
          exact ⟨ret_bool HZ.out.symm, drew_more HQ.out nq⟩
      · have HZ : Hid (eqL intE l m = true) := Lib.hid (by rw [HK.out, List.drop_eq_nil_of_le (by have := HL1.out; omega), List.drop_eq_nil_of_le (by have := HL2.out; omega)]; rfl)
        clear HK
        go_wp2_with fail
        go_ret
        exact ⟨ret_bool HZ.out.symm, HQ.out⟩
  · have d0 : ((n : Int) != (n' : Int)) = true := by rw [bne_iff_ne]; omega
    have HZ : Hid (eqL intE l m = false) := Lib.hid (eqL_len _ (by have := HL1.out; have := HL2.out; omega))
    clear hne
    go_enter Tryd.func43, Tryd.ntmps43
    go_wp2_with fail
    go_ret
    exact ⟨ret_bool HZ.out.symm, 0, rfl⟩
end Go.Proofs.YtdeoblhdojbbbaaDoor

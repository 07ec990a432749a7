/-
  WALKS: Right of the document.
  WALKS: two lists are the same.
  WALKS: two nodes are the same, told by the document and by the program.
  WALKS: two models are the same, told by the document and by the program.
  WALKS: is a lent model as it was, with its marks?
-/
import Derived.Test.YtfljndlmafcjeaaZ7
namespace Go.Proofs.Ytfljndlmafcjeaa
open Go Go.RowKit Go.Sort
set_option linter.unusedVariables false
/-- the box of a model, and nothing old has turned -/
structure MW (w : World) (next : Int) (A : Option Addr) (n c : Nat) (wr : World) : Prop where
  md : Blk wr w.heap.size 24 #[.int .i64 next, .slice A n c]
  bel : Below w.heap.size w wr
section
variable {w wr w' : World} {next : Int} {A : Option Addr} {n c : Nat}
theorem MW.start (w : World) (next : Int) (A : Option Addr) (n c : Nat) : MW w next A n c (w.alloc (.cells #[.int .i64 next, .slice A n c] 24)) := ⟨Blk.new _ _ _, below_box _ _⟩
theorem MW.after (h : MW w next A n c wr) (hb : Below wr.heap.size wr w') : MW w next A n c w' := ⟨h.md.after hb, h.bel.trans (hb.mono h.bel.size)⟩
theorem MW.drewN (h : MW w next A n c wr) (q : Nat) : MW w next A n c (wr.drewN q) := ⟨h.md, below_drewN h.bel q⟩
theorem MW.size (h : MW w next A n c wr) : w.heap.size < wr.heap.size := h.md.lt
theorem MW.c0 (h : MW w next A n c wr) : wr.cell? ⟨w.heap.size, 0, none⟩ = some (.int .i64 next) := h.md.cell 0
theorem MW.c1 (h : MW w next A n c wr) : wr.cell? ⟨w.heap.size, 1, none⟩ = some (.slice A n c) := h.md.cell 1
end
set_option maxRecDepth 100000 in
set_option maxHeartbeats 3200000 in
theorem refRight_any (w : World) (hi : Nat) (next : Int) (A : Option Addr) (n c : Nat) (nds : List Nd) (h : NodesIn w 0 hi A n c nds) (hh : hi ≤ w.heap.size) :
    Calls Try.prog 24 #[.agg #[.int .i64 next, .slice A n c]] w (Ret w (.bool (rightB next nds))) := by
  have hc := h.2.2.1
  have hnc := h.2.1
  have HL := Lib.hid h.1
  unfold maxLen at hc
  have HM0 := Lib.hid (MW.start w next A n c)
  have HR : Hid (rightB next nds = (headB next nds && idsB next 0 nds && nds.all (fun nd => plainB next nds nd && belowB nds 64 nd))) := Lib.hid rfl
  have HHd : Hid (headB next nds = (decide (1 ≤ next) && decide (next ≤ 1048577) && decide (n ≤ 4096))) := Lib.hid (by unfold headB; rw [HL.out])
  by_cases h1 : next < 1
  · have d1 : decide (next < 1) = true := decide_eq_true h1
    have HZ : Hid (rightB next nds = false) := Lib.hid (by rw [HR.out, HHd.out, decide_eq_false (p := 1 ≤ next) (by omega)]; rfl)
    go_enter Try.func24, Try.ntmps24
    go_wp2_with fail
    go_ret
    exact ret_b HZ.out rfl HM0.out.bel
  · have d1 : decide (next < 1) = false := decide_eq_false h1
    by_cases h2 : 1048577 < next
    · have d2 : decide (1048577 < next) = true := decide_eq_true h2
      have HZ : Hid (rightB next nds = false) := Lib.hid (by rw [HR.out, HHd.out, decide_eq_false (p := next ≤ 1048577) (by omega)]; simp)
      go_enter Try.func24, Try.ntmps24
      go_wp2_with fail
      go_ret
      exact ret_b HZ.out rfl HM0.out.bel
    · have d2 : decide (1048577 < next) = false := decide_eq_false h2
      by_cases h3 : 4096 < n
      · have d3 : decide (4096 < (n : Int)) = true := decide_eq_true (by omega)
        have HZ : Hid (rightB next nds = false) := Lib.hid (by rw [HR.out, HHd.out, decide_eq_false (p := n ≤ 4096) (by omega)]; simp)
        go_enter Try.func24, Try.ntmps24
        go_wp2_with fail
        go_ret
        exact ret_b HZ.out rfl HM0.out.bel
      · have d3 : decide (4096 < (n : Int)) = false := decide_eq_false (by omega)
        have hRR : rightB next nds = (idsB next 0 nds && nds.all (fun nd => plainB next nds nd && belowB nds 64 nd)) := by
          rw [HR.out, HHd.out, decide_eq_true (p := 1 ≤ next) (by omega), decide_eq_true (p := next ≤ 1048577) (by omega), decide_eq_true (p := n ≤ 4096) (by omega)]; rfl
        have HRR := Lib.hid hRR
        clear hRR HR HHd
        go_enter Try.func24, Try.ntmps24
        go_wp2_with fail
        go_loopw [3] (fun i wr => ∃ (k : Nat) (x : Int), k ≤ n ∧ i = .int .i64 k ∧ MW w next A n c wr ∧ 0 ≤ x ∧ (k = 0 → x = 0) ∧ Hid (∀ m nd, k = m + 1 → nds[m]? = some nd → nd.id = x) ∧ Hid (idsB next 0 nds = idsB next x (nds.drop k))) (fun i _ => n - (intOf i).toNat)
        case atStart => exact ⟨0, 0, by omega, rfl, HM0.out, by omega, fun _ => rfl, Lib.hid (fun m nd h => absurd h (by omega)), Lib.hid rfl⟩
        case round =>
          clear HM0
          obtain ⟨k, x, hk, rfl, M, hx0, hk0, HPV, HK⟩ := hrel
          have c0 := M.c0
          have c1 := M.c1
          have hbel := M.bel
          have hsz := M.size
          have HM := Lib.hid M
          clear M
          by_cases hlt : k < n
          · obtain ⟨b, o, hA, _, hb, V, hV⟩ := h.all (by omega)
            subst hA
            obtain ⟨nd, hnd⟩ : ∃ nd, nds[k]? = some nd := ⟨nds[k]'(by have := HL.out; omega), List.getElem?_eq_getElem _⟩
            have a0 := ((hV k nd hnd).1.below hbel (by omega)).c0
            have hd : nds.drop k = nd :: nds.drop (k + 1) := by
              obtain ⟨hl', rfl⟩ := List.getElem?_eq_some_iff.1 hnd
              exact List.drop_eq_getElem_cons hl'
            have HD : Hid (idsB next 0 nds = (decide (x < nd.id) && decide (nd.id < next) && idsB next nd.id (nds.drop (k + 1)))) := Lib.hid (by rw [HK.out, hd, idsB])
            have HPV' := HPV
            clear HPV
            have HPV : Hid (∀ m nd', k + 1 = m + 1 → nds[m]? = some nd' → nd'.id = nd.id) := Lib.hid (fun m nd' e hm => by
              obtain rfl : k = m := by omega
              rw [hnd] at hm; injection hm with hm; rw [hm])
            have hprev : (k = 0 ∧ x = 0) ∨ ∃ pd, 0 < k ∧ nds[k - 1]? = some pd ∧ wr.cell? ⟨b, o + (k - 1) * 7, none⟩ = some (.int .i64 x) := by
              by_cases e : k = 0
              · exact .inl ⟨e, hk0 e⟩
              · right
                obtain ⟨pd, hpd⟩ : ∃ pd, nds[k - 1]? = some pd := ⟨nds[k - 1]'(by have := HL.out; omega), List.getElem?_eq_getElem _⟩
                refine ⟨pd, by omega, hpd, ?_⟩
                have := ((hV (k - 1) pd hpd).1.below hbel (by omega)).c0
                rw [HPV'.out (k - 1) pd (by omega) hpd] at this
                exact this
            clear hd hnd HK hV HPV'
            by_cases g1 : nd.id < 1
            · have e1 : decide (nd.id < 1) = true := decide_eq_true g1
              have HZ : Hid (rightB next nds = false) := Lib.hid (by rw [HRR.out, HD.out, decide_eq_false (p := x < nd.id) (by omega)]; rfl)
              clear HD hprev hk0
              go_wp2_with fail
              go_quiet (fail)
              go_wp2_with fail
              go_ret
              exact ret_b HZ.out rfl (below_drewN HM.out.bel _)
            · have e1 : decide (nd.id < 1) = false := decide_eq_false g1
              by_cases g2 : next ≤ nd.id
              · have e2 : decide (next ≤ nd.id) = true := decide_eq_true g2
                have HZ : Hid (rightB next nds = false) := Lib.hid (by rw [HRR.out, HD.out, decide_eq_false (p := nd.id < next) (by omega)]; simp)
                clear HD hprev hk0
                go_wp2_with fail
                go_quiet (fail)
                go_wp2_with fail
                go_ret
                exact ret_b HZ.out rfl (below_drewN HM.out.bel _)
              · have e2 : decide (next ≤ nd.id) = false := decide_eq_false g2
                clear hk0
                rcases hprev with ⟨hp1, hp2⟩ | ⟨pd, hpk, hpd, hpc⟩
                · have e3 : decide (0 < k) = false := decide_eq_false (by omega)
                  have g4 : x < nd.id := by omega
                  · have HZ : Hid (idsB next 0 nds = idsB next nd.id (nds.drop (k + 1))) := Lib.hid (by rw [HD.out, decide_eq_true g4, decide_eq_true (p := nd.id < next) (by omega)]; rfl)
                    clear HD hp1 hp2
                    go_wp2_with fail
                    go_quiet (fail)
                    go_wp2_with fail
                    go_roundw
                    case rel => exact ⟨k + 1, nd.id, by omega, by go_num, HM.out.drewN _, by omega, fun h => absurd h (by omega), HPV, HZ⟩
                    case measure => simp [intOf]; omega
                · have e3 : decide (0 < k) = true := decide_eq_true hpk
                  by_cases g4 : nd.id ≤ x
                  · have e4 : decide (nd.id ≤ x) = true := decide_eq_true g4
                    have HZ : Hid (rightB next nds = false) := Lib.hid (by rw [HRR.out, HD.out, decide_eq_false (p := x < nd.id) (by omega)]; rfl)
                    clear HD hpd
                    go_wp2_with fail
                    go_quiet (fail)
                    go_wp2_with fail
                    go_ret
                    exact ret_b HZ.out rfl (below_drewN HM.out.bel _)
                  · have e4 : decide (nd.id ≤ x) = false := decide_eq_false g4
                    have HZ : Hid (idsB next 0 nds = idsB next nd.id (nds.drop (k + 1))) := Lib.hid (by rw [HD.out, decide_eq_true (p := x < nd.id) (by omega), decide_eq_true (p := nd.id < next) (by omega)]; rfl)
                    clear HD hpd
                    go_wp2_with fail
                    go_quiet (fail)
                    go_wp2_with fail
                    go_roundw
                    case rel => exact ⟨k + 1, nd.id, by omega, by go_num, HM.out.drewN _, by omega, fun h => absurd h (by omega), HPV, HZ⟩
                    case measure => simp [intOf]; omega
          · have hid1 : idsB next 0 nds = true := by rw [HK.out, List.drop_eq_nil_of_le (by have := HL.out; omega)]; rfl
            have hr : Rise nds := Rise.of hid1
            have HA : Hid (rightB next nds = nds.all (fun nd => plainB next nds nd && belowB nds 64 nd)) := Lib.hid (by rw [HRR.out, hid1]; rfl)
            clear HK hid1 HRR
            go_wp2_with fail
            clear c0 c1 hbel hsz
            go_loopw [4] (fun i wr => ∃ k : Nat, k ≤ n ∧ i = .int .i64 k ∧ MW w next A n c wr ∧ Hid (rightB next nds = (nds.drop k).all (fun nd => plainB next nds nd && belowB nds 64 nd))) (fun i _ => n - (intOf i).toNat)
            case atStart => exact ⟨0, by omega, rfl, HM.out, HA⟩
            case round =>
              clear HM HA
              obtain ⟨k, hk, rfl, M, HK⟩ := hrel
              have c0 := M.c0
              have c1 := M.c1
              have hbel := M.bel
              have hsz := M.size
              have HM := Lib.hid M
              clear M
              by_cases hlt : k < n
              · obtain ⟨b, o, hA, _, hb, V, hV⟩ := h.all (by omega)
                obtain ⟨nd, hnd⟩ : ∃ nd, nds[k]? = some nd := ⟨nds[k]'(by have := HL.out; omega), List.getElem?_eq_getElem _⟩
                have hat := (hV k nd hnd).1.below hbel (by omega)
                have hlf := (hV k nd hnd).2
                have hPl : ∀ d os, Calls Try.prog 56 #[.agg #[.int .i64 next, .slice A n c], .agg #[.int .i64 nd.id, .string nd.con, .int .i64 nd.par, .string nd.role, .slice (V k).p.A (V k).p.n (V k).p.c, .slice (V k).k.A (V k).k.n (V k).k.c, .slice (V k).r.A (V k).r.n (V k).r.c]] (grow (redrawn wr d) os) (Ret (grow (redrawn wr d) os) (.bool (plainB next nds nd))) := fun d os =>
                  refPlain_any _ hi next A n c nds nd (V k) ((h.below (hbel.mono hh)).below ((below_regrown wr d os).mono (by omega))) ((hlf.below (hbel.mono hh)).below ((below_regrown wr d os).mono (by omega))) (by have := (below_regrown wr d os).size; omega) hr (by omega)
                have hBe : ∀ d os, Calls Try.prog 57 #[.agg #[.int .i64 next, .slice A n c], .agg #[.int .i64 nd.id, .string nd.con, .int .i64 nd.par, .string nd.role, .slice (V k).p.A (V k).p.n (V k).p.c, .slice (V k).k.A (V k).k.n (V k).k.c, .slice (V k).r.A (V k).r.n (V k).r.c]] (grow (redrawn wr d) os) (Ret (grow (redrawn wr d) os) (.bool (belowB nds 64 nd))) := fun d os =>
                  refBelow_any _ hi next A n c nds nd (V k) ((h.below (hbel.mono hh)).below ((below_regrown wr d os).mono (by omega))) ((hlf.below (hbel.mono hh)).below ((below_regrown wr d os).mono (by omega))) (by have := (below_regrown wr d os).size; omega) hr (by omega)
                generalize V k = Lk at hat hlf hPl hBe
                obtain ⟨⟨Ap2, np2, cp2⟩, ⟨Ak2, nk2, ck2⟩, ⟨Ar2, nr2, cr2⟩⟩ := Lk
                subst hA
                obtain ⟨a0, a1, a2, a3, a4, a5, a6⟩ := hat
                simp only at a4 a5 a6 hPl hBe
                have z0 := cell_regrown c0
                have z1 := cell_regrown c1
                have y0 := cell_regrown a0
                have y1 := cell_regrown a1
                have y2 := cell_regrown a2
                have y3 := cell_regrown a3
                have y4 := cell_regrown a4
                have y5 := cell_regrown a5
                have y6 := cell_regrown a6
                have hd : nds.drop k = nd :: nds.drop (k + 1) := by
                  obtain ⟨hl', rfl⟩ := List.getElem?_eq_some_iff.1 hnd
                  exact List.drop_eq_getElem_cons hl'
                have HD : Hid (rightB next nds = (plainB next nds nd && belowB nds 64 nd && (nds.drop (k + 1)).all (fun nd => plainB next nds nd && belowB nds 64 nd))) := Lib.hid (by rw [HK.out, hd, List.all_cons])
                obtain ⟨p1, hp1⟩ : ∃ x, plainB next nds nd = x := ⟨_, rfl⟩
                obtain ⟨p2, hp2⟩ : ∃ x, belowB nds 64 nd = x := ⟨_, rfl⟩
                rw [hp1, hp2] at HD
                rw [hp1] at hPl
                rw [hp2] at hBe
                have HPl := Lib.hid hPl
                have HBe := Lib.hid hBe
                clear hPl hBe hp1 hp2 hd hnd hlf HK hV a0 a1 a2 a3 a4 a5 a6
                cases p1 with
                | false =>
                  have HZ : Hid (rightB next nds = false) := Lib.hid (by rw [HD.out]; simp)
                  clear HD
                  go_wp2_with fail
                  refine wp_region_quiet_below (by kernel_rfl) (by kernel_rfl) ?_
                  repeat (go_big_quiet_step (first | (go_at_call 56; exact regrown_ret (HPl.out _ _)) | (go_at_call 57; exact regrown_ret (HBe.out _ _))))
                  refine wpQuiet_nil ?_
                  intro _ hw'
                  obtain ⟨⟨dq, osq⟩, hw''⟩ := hw'
                  subst hw''
                  have hb2 := below_regrown wr dq osq
                  generalize grow (redrawn wr dq) osq = w2 at hb2 ⊢
                  go_wp2_with fail
                  go_ret
                  exact ret_b HZ.out rfl (HM.out.after hb2).bel
                | true =>
                  cases p2 with
                  | false =>
                    have HZ : Hid (rightB next nds = false) := Lib.hid (by rw [HD.out]; simp)
                    clear HD
                    go_wp2_with fail
                    refine wp_region_quiet_below (by kernel_rfl) (by kernel_rfl) ?_
                    repeat (go_big_quiet_step (first | (go_at_call 56; exact regrown_ret (HPl.out _ _)) | (go_at_call 57; exact regrown_ret (HBe.out _ _))))
                    refine wpQuiet_nil ?_
                    intro _ hw'
                    obtain ⟨⟨dq, osq⟩, hw''⟩ := hw'
                    subst hw''
                    have hb2 := below_regrown wr dq osq
                    generalize grow (redrawn wr dq) osq = w2 at hb2 ⊢
                    go_wp2_with fail
                    go_ret
                    exact ret_b HZ.out rfl (HM.out.after hb2).bel
                  | true =>
                    have HZ : Hid (rightB next nds = (nds.drop (k + 1)).all (fun nd => plainB next nds nd && belowB nds 64 nd)) := Lib.hid (by rw [HD.out]; simp)
                    clear HD
                    go_wp2_with fail
                    refine wp_region_quiet_below (by kernel_rfl) (by kernel_rfl) ?_
                    repeat (go_big_quiet_step (first | (go_at_call 56; exact regrown_ret (HPl.out _ _)) | (go_at_call 57; exact regrown_ret (HBe.out _ _))))
                    refine wpQuiet_nil ?_
                    intro _ hw'
                    obtain ⟨⟨dq, osq⟩, hw''⟩ := hw'
                    subst hw''
                    have hb2 := below_regrown wr dq osq
                    generalize grow (redrawn wr dq) osq = w2 at hb2 ⊢
                    clear z0 z1 y0 y1 y2 y3 y4 y5 y6
                    go_wp2_with fail
                    go_roundw
                    case rel => exact ⟨k + 1, by omega, by go_num, HM.out.after hb2, HZ⟩
                    case measure => simp [intOf]; omega
              · have HZ : Hid (rightB next nds = true) := Lib.hid (by rw [HK.out, List.drop_eq_nil_of_le (by have := HL.out; omega)]; rfl)
                clear HK
                go_wp2_with fail
                go_ret
                exact ret_b HZ.out rfl hbel
end Go.Proofs.Ytfljndlmafcjeaa
namespace Go.Proofs.Ytfljndlmafcjeaa
open Go Go.RowKit Go.Sort
set_option linter.unusedVariables false
/-- two lists, place by place -/
def eqL {α : Type} (e : α → α → Bool) : List α → List α → Bool
  | [], [] => true
  | x :: l, y :: m => e x y && eqL e l m
  | _, _ => false
theorem eqL_len {α : Type} (e : α → α → Bool) : ∀ {l m : List α}, l.length ≠ m.length → eqL e l m = false
  | [], [], h => absurd rfl h
  | [], _ :: _, _ => rfl
  | _ :: _, [], _ => rfl
  | x :: l, y :: m, h => by
    rw [eqL, eqL_len e (l := l) (m := m) (by simpa using h), Bool.and_false]
theorem eqL_refl {α : Type} {e : α → α → Bool} (h : ∀ x, e x x = true) : ∀ l : List α, eqL e l l = true
  | [] => rfl
  | x :: l => by rw [eqL, h, eqL_refl h l]; rfl
def intE (x y : Int) : Bool := x == y
def propE (x y : ByteArray × ByteArray) : Bool := (x.1.toList == y.1.toList) && (x.2.toList == y.2.toList)
def refE (x y : ByteArray × Int) : Bool := (x.1.toList == y.1.toList) && (x.2 == y.2)
theorem drew_below {B : Nat} {w wr : World} (h : ∃ q, wr = w.drewN q) : Below B w wr := by
  obtain ⟨q, rfl⟩ := h; exact below_drewN (Below.refl _ _) q
theorem drew_more {w wr : World} (h : ∃ q, wr = w.drewN q) (n : Nat) : ∃ q, wr.drewN n = w.drewN q := by
  obtain ⟨q, rfl⟩ := h; exact ⟨q + n, World.drewN_drewN _ _ _⟩
theorem intE_refl (x : Int) : intE x x = true := by simp [intE]
theorem propE_refl (x : ByteArray × ByteArray) : propE x x = true := by simp [propE]
theorem refE_refl (x : ByteArray × Int) : refE x x = true := by simp [refE]
set_option maxHeartbeats 1600000 in
theorem refInts_any (w : World) (lo hi lo' hi' : Nat) (A A' : Option Addr) (n c n' c' : Nat) (l m : List Int) (h1 : Row w lo hi 1 A n c (intCells l)) (h2 : Row w lo' hi' 1 A' n' c' (intCells m)) :
    Calls Try.prog 65 #[.slice A n c, .slice A' n' c'] w (DrewV w (.bool (eqL intE l m))) := by
  have hl1 : l.length = n := by have := h1.1; rw [intCells_length] at this; omega
  have hl2 : m.length = n' := by have := h2.1; rw [intCells_length] at this; omega
  have HL1 := Lib.hid hl1
  have HL2 := Lib.hid hl2
  have hc := h1.2.2.1
  have hnc := h1.2.1
  have hc' := h2.2.2.1
  have hnc' := h2.2.1
  unfold maxLen at hc hc'
  clear hl1 hl2
  by_cases hne : n = n'
  · have d0 : ((n : Int) != (n' : Int)) = false := by rw [bne_eq_false_iff_eq]; omega
    subst hne
    go_enter Try.func65, Try.ntmps65
    go_wp2_with fail
    go_loopw [5] (fun i wr => ∃ k : Nat, k ≤ n ∧ i = .int .i64 k ∧ Hid (∃ q, wr = w.drewN q) ∧ Hid (eqL intE l m = eqL intE (l.drop k) (m.drop k))) (fun i _ => n - (intOf i).toNat)
    case atStart => exact ⟨0, by omega, rfl, Lib.hid ⟨0, rfl⟩, Lib.hid rfl⟩
    case round =>
      obtain ⟨k, hk, rfl, HQ, HK⟩ := hrel
      by_cases hlt : k < n
      · obtain ⟨b1, o1, rfl, _, _, hcells1⟩ := (h1.below (drew_below HQ.out)).at_ (by omega)
        obtain ⟨b2, o2, rfl, _, _, hcells2⟩ := (h2.below (drew_below HQ.out)).at_ (by omega)
        obtain ⟨x, hx⟩ : ∃ x, l[k]? = some x := ⟨l[k]'(by have := HL1.out; omega), List.getElem?_eq_getElem _⟩
        obtain ⟨y, hy⟩ : ∃ y, m[k]? = some y := ⟨m[k]'(by have := HL2.out; omega), List.getElem?_eq_getElem _⟩
        have q1 := hcells1 k _ (intCells_get hx)
        have q2 := hcells2 k _ (intCells_get hy)
        have HD : Hid (eqL intE l m = (intE x y && eqL intE (l.drop (k + 1)) (m.drop (k + 1)))) := Lib.hid (by
          obtain ⟨hl1, e1⟩ := List.getElem?_eq_some_iff.1 hx
          obtain ⟨hl2, e2⟩ := List.getElem?_eq_some_iff.1 hy
          rw [HK.out, List.drop_eq_getElem_cons hl1, List.drop_eq_getElem_cons hl2, e1, e2]; rfl)
        clear HK hx hy hcells1 hcells2
        by_cases e1 : x = y
        · have d1 : (x != y) = false := by rw [bne_eq_false_iff_eq]; exact e1
          have HZ : Hid (eqL intE l m = eqL intE (l.drop (k + 1)) (m.drop (k + 1))) := Lib.hid (by rw [HD.out]; simp [intE, e1])
          clear HD e1
          go_wp2_with fail
          go_quiet (fail)
          go_wp2_with fail
          go_roundw
          case rel => exact ⟨k + 1, by omega, by go_num, Lib.hid (drew_more HQ.out nq), HZ⟩
          case measure => simp [intOf]; omega
        · have d1 : (x != y) = true := by rw [bne_iff_ne]; exact e1
          have HZ : Hid (eqL intE l m = false) := Lib.hid (by rw [HD.out]; simp [intE, e1])
          clear HD e1
          go_wp2_with fail
          go_quiet (fail)
          go_wp2_with fail
          go_ret
          exact ⟨ret_bool HZ.out.symm, drew_more HQ.out nq⟩
      · have HZ : Hid (eqL intE l m = true) := Lib.hid (by rw [HK.out, List.drop_eq_nil_of_le (by have := HL1.out; omega), List.drop_eq_nil_of_le (by have := HL2.out; omega)]; rfl)
        clear HK
        go_wp2_with fail
        go_ret
        exact ⟨ret_bool HZ.out.symm, HQ.out⟩
  · have d0 : ((n : Int) != (n' : Int)) = true := by rw [bne_iff_ne]; omega
    have HZ : Hid (eqL intE l m = false) := Lib.hid (eqL_len _ (by have := HL1.out; have := HL2.out; omega))
    clear hne
    go_enter Try.func65, Try.ntmps65
    go_wp2_with fail
    go_ret
    exact ⟨ret_bool HZ.out.symm, 0, rfl⟩
end Go.Proofs.Ytfljndlmafcjeaa
namespace Go.Proofs.Ytfljndlmafcjeaa
open Go Go.RowKit Go.Sort
set_option linter.unusedVariables false
def nodeE (x y : Nd) : Bool := (x.id == y.id) && (x.con.toList == y.con.toList) && (x.par == y.par) && (x.role.toList == y.role.toList) && eqL propE x.props y.props && eqL intE x.kids y.kids && eqL refE x.refs y.refs
theorem nodeE_refl (x : Nd) : nodeE x x = true := by
  unfold nodeE
  rw [eqL_refl propE_refl, eqL_refl intE_refl, eqL_refl refE_refl]
  simp
/-- the boxes of two nodes -/
structure NW (w : World) (x : Nd) (L : Leaf) (y : Nd) (M : Leaf) (wr : World) : Prop where
  a : Blk wr w.heap.size 44 #[.int .i64 x.id, .string x.con, .int .i64 x.par, .string x.role, .slice L.p.A L.p.n L.p.c, .slice L.k.A L.k.n L.k.c, .slice L.r.A L.r.n L.r.c]
  b : Blk wr (w.heap.size + 1) 44 #[.int .i64 y.id, .string y.con, .int .i64 y.par, .string y.role, .slice M.p.A M.p.n M.p.c, .slice M.k.A M.k.n M.k.c, .slice M.r.A M.r.n M.r.c]
  bel : Below w.heap.size w wr
section
variable {w wr w' : World} {x y : Nd} {L M : Leaf}
theorem NW.start (w : World) (x : Nd) (L : Leaf) (y : Nd) (M : Leaf) : NW w x L y M ((w.alloc (.cells #[.int .i64 x.id, .string x.con, .int .i64 x.par, .string x.role, .slice L.p.A L.p.n L.p.c, .slice L.k.A L.k.n L.k.c, .slice L.r.A L.r.n L.r.c] 44)).alloc (.cells #[.int .i64 y.id, .string y.con, .int .i64 y.par, .string y.role, .slice M.p.A M.p.n M.p.c, .slice M.k.A M.k.n M.k.c, .slice M.r.A M.r.n M.r.c] 44)) :=
  ⟨(Blk.new _ _ _).alloc _, Blk.new' (by simp), (below_box _ _).alloc (by simp) _⟩
theorem NW.after (h : NW w x L y M wr) (hb : Below wr.heap.size wr w') : NW w x L y M w' := ⟨h.a.after hb, h.b.after hb, h.bel.trans (hb.mono h.bel.size)⟩
theorem NW.drewN (h : NW w x L y M wr) (q : Nat) : NW w x L y M (wr.drewN q) := ⟨h.a, h.b, below_drewN h.bel q⟩
theorem NW.size (h : NW w x L y M wr) : w.heap.size + 1 < wr.heap.size := h.b.lt
end
set_option maxRecDepth 100000 in
set_option maxHeartbeats 6400000 in
theorem refSameNode_any (w : World) (hi : Nat) (x y : Nd) (L M : Leaf) (hx : LeafIn w 0 hi x L) (hy : LeafIn w 0 hi y M) (hh : hi ≤ w.heap.size) :
    Calls Try.prog 41 #[.agg #[.int .i64 x.id, .string x.con, .int .i64 x.par, .string x.role, .slice L.p.A L.p.n L.p.c, .slice L.k.A L.k.n L.k.c, .slice L.r.A L.r.n L.r.c], .agg #[.int .i64 y.id, .string y.con, .int .i64 y.par, .string y.role, .slice M.p.A M.p.n M.p.c, .slice M.k.A M.k.n M.k.c, .slice M.r.A M.r.n M.r.c]] w (Ret w (.bool (nodeE x y))) := by
  have HN : Hid (nodeE x y = ((x.id == y.id) && (x.con.toList == y.con.toList) && (x.par == y.par) && (x.role.toList == y.role.toList) && eqL propE x.props y.props && eqL intE x.kids y.kids && eqL refE x.refs y.refs)) := Lib.hid rfl
  have HW0 := Lib.hid (NW.start w x L y M)
  obtain ⟨⟨Apa, npa, cpa⟩, ⟨Aka, nka, cka⟩, ⟨Ara, nra, cra⟩⟩ := L
  obtain ⟨⟨Apb, npb, cpb⟩, ⟨Akb, nkb, ckb⟩, ⟨Arb, nrb, crb⟩⟩ := M
  obtain ⟨h1, h2, h3, h4, h5, h6, h7⟩ := hx
  obtain ⟨g1, g2, g3, g4, g5, g6, g7⟩ := hy
  simp only at h1 h2 h3 h4 h5 h6 g1 g2 g3 g4 g5 g6 HW0 ⊢
  have HL1 := Lib.hid h1
  have HL2 := Lib.hid g1
  have HL3 := Lib.hid h3
  have HL4 := Lib.hid g3
  have z1 := h4.2.2.1
  have z2 := h4.2.1
  have z3 := h6.2.2.1
  have z4 := h6.2.1
  have z5 := g4.2.2.1
  have z6 := g4.2.1
  have z7 := g6.2.2.1
  have z8 := g6.2.1
  unfold maxLen at z1 z3 z5 z7
  have HRPa := Lib.hid h4
  have HRRa := Lib.hid h6
  have HRPb := Lib.hid g4
  have HRRb := Lib.hid g6
  have HIn : Hid (∀ w2, Below w.heap.size w w2 → Calls Try.prog 65 #[.slice Aka nka cka, .slice Akb nkb ckb] w2 (DrewV w2 (.bool (eqL intE x.kids y.kids)))) := Lib.hid (fun w2 hb2 => refInts_any w2 0 hi 0 hi Aka Akb nka cka nkb ckb x.kids y.kids (h5.below (hb2.mono hh)) (g5.below (hb2.mono hh)))
  clear h1 h2 h3 h4 h5 h6 h7 g1 g2 g3 g4 g5 g6 g7
  by_cases e0 : x.id = y.id
  · have d0 : (x.id == y.id) = true := by rw [beq_iff_eq]; exact e0
    have n0 : (x.id != y.id) = false := by rw [bne_eq_false_iff_eq]; exact e0
    clear e0
    cases d1 : (x.con.toList == y.con.toList) with
    | true =>
      by_cases e2 : x.par = y.par
      · have d2 : (x.par == y.par) = true := by rw [beq_iff_eq]; exact e2
        have n2 : (x.par != y.par) = false := by rw [bne_eq_false_iff_eq]; exact e2
        clear e2
        cases d3 : (x.role.toList == y.role.toList) with
        | true =>
          have hN : nodeE x y = (eqL propE x.props y.props && eqL intE x.kids y.kids && eqL refE x.refs y.refs) := by rw [HN.out, d0, d1, d2, d3]; rfl
          have HN := Lib.hid hN
          clear hN
          by_cases l1 : npa = npb
          · by_cases l2 : nra = nrb
            · have f1 : ((npa : Int) != (npb : Int)) = false := by rw [bne_eq_false_iff_eq]; omega
              have f2 : ((nra : Int) != (nrb : Int)) = false := by rw [bne_eq_false_iff_eq]; omega
              subst l1 l2
              go_enter Try.func41, Try.ntmps41
              go_wp2_with fail
              go_loopw [5] (fun i wr => ∃ k : Nat, k ≤ npa ∧ i = .int .i64 k ∧ NW w x ⟨⟨Apa, npa, cpa⟩, ⟨Aka, nka, cka⟩, ⟨Ara, nra, cra⟩⟩ y ⟨⟨Apb, npa, cpb⟩, ⟨Akb, nkb, ckb⟩, ⟨Arb, nra, crb⟩⟩ wr ∧ Hid (eqL propE x.props y.props = eqL propE (x.props.drop k) (y.props.drop k))) (fun i _ => npa - (intOf i).toNat)
              case atStart => exact ⟨0, by omega, rfl, HW0.out, Lib.hid rfl⟩
              case round =>
                clear HW0
                obtain ⟨k, hk, rfl, NWh, HK⟩ := hrel
                have a4 := NWh.a.cell 4
                have a5 := NWh.a.cell 5
                have a6 := NWh.a.cell 6
                have b4 := NWh.b.cell 4
                have b5 := NWh.b.cell 5
                have b6 := NWh.b.cell 6
                simp at a4 a5 a6 b4 b5 b6
                have hbel := NWh.bel
                have HW := Lib.hid NWh
                clear NWh
                by_cases hlt : k < npa
                · obtain ⟨b1, o1, rfl, _, _, hcells1⟩ := (HRPa.out.below (hbel.mono hh)).at_ (by omega)
                  obtain ⟨b2, o2, rfl, _, _, hcells2⟩ := (HRPb.out.below (hbel.mono hh)).at_ (by omega)
                  obtain ⟨a, ha⟩ : ∃ a, x.props[k]? = some a := ⟨x.props[k]'(by have := HL1.out; have := HL3.out; omega), List.getElem?_eq_getElem _⟩
                  obtain ⟨b, hb⟩ : ∃ b, y.props[k]? = some b := ⟨y.props[k]'(by have := HL2.out; have := HL4.out; omega), List.getElem?_eq_getElem _⟩
                  have q1 := hcells1 _ _ (propCells_get ha).1
                  have q1' := hcells1 _ _ (propCells_get ha).2
                  have q1' : wr.cell? ⟨b1, o1 + k * 2 + 1, none⟩ = some (.string a.2) := by rw [Nat.add_assoc]; exact q1'
                  have q2 := hcells2 _ _ (propCells_get hb).1
                  have q2' := hcells2 _ _ (propCells_get hb).2
                  have q2' : wr.cell? ⟨b2, o2 + k * 2 + 1, none⟩ = some (.string b.2) := by rw [Nat.add_assoc]; exact q2'
                  have HD : Hid (eqL propE x.props y.props = (propE a b && eqL propE (x.props.drop (k + 1)) (y.props.drop (k + 1)))) := Lib.hid (by
                    obtain ⟨hl1, e1⟩ := List.getElem?_eq_some_iff.1 ha
                    obtain ⟨hl2, e2⟩ := List.getElem?_eq_some_iff.1 hb
                    rw [HK.out, List.drop_eq_getElem_cons hl1, List.drop_eq_getElem_cons hl2, e1, e2]; rfl)
                  clear HK ha hb hcells1 hcells2
                  cases e1 : (a.1.toList == b.1.toList) with
                  | false =>
                    have HZ : Hid (nodeE x y = false) := Lib.hid (by rw [HN.out, HD.out]; simp only [propE, e1]; simp)
                    clear HD
                    go_wp2_with fail
                    go_quiet (fail)
                    go_wp2_with fail
                    go_ret
                    exact ret_b HZ.out rfl (HW.out.drewN _).bel
                  | true =>
                    cases e2 : (a.2.toList == b.2.toList) with
                    | false =>
                      have HZ : Hid (nodeE x y = false) := Lib.hid (by rw [HN.out, HD.out]; simp only [propE, e1, e2]; simp)
                      clear HD
                      go_wp2_with fail
                      go_quiet (fail)
                      go_wp2_with fail
                      go_ret
                      exact ret_b HZ.out rfl (HW.out.drewN _).bel
                    | true =>
                      have HZ : Hid (eqL propE x.props y.props = eqL propE (x.props.drop (k + 1)) (y.props.drop (k + 1))) := Lib.hid (by rw [HD.out]; simp only [propE, e1, e2]; rfl)
                      clear HD
                      go_wp2_with fail
                      go_quiet (fail)
                      go_wp2_with fail
                      go_roundw
                      case rel => exact ⟨k + 1, by omega, by go_num, HW.out.drewN _, HZ⟩
                      case measure => simp [intOf]; omega
                · have HY : Hid (eqL propE x.props y.props = true) := Lib.hid (by rw [HK.out, List.drop_eq_nil_of_le (by have := HL1.out; have := HL3.out; omega), List.drop_eq_nil_of_le (by have := HL2.out; have := HL4.out; omega)]; rfl)
                  have hN := HN.out
                  rw [HY.out] at hN
                  have HN := Lib.hid hN
                  have HW0 := HW
                  clear hN HY HK HW
                  go_wp2_with fail
                  go_loopw [6] (fun i wr => ∃ k : Nat, k ≤ nra ∧ i = .int .i64 k ∧ NW w x ⟨⟨Apa, npa, cpa⟩, ⟨Aka, nka, cka⟩, ⟨Ara, nra, cra⟩⟩ y ⟨⟨Apb, npa, cpb⟩, ⟨Akb, nkb, ckb⟩, ⟨Arb, nra, crb⟩⟩ wr ∧ Hid (eqL refE x.refs y.refs = eqL refE (x.refs.drop k) (y.refs.drop k))) (fun i _ => nra - (intOf i).toNat)
                  case atStart => exact ⟨0, by omega, rfl, HW0.out, Lib.hid rfl⟩
                  case round =>
                    clear HW0
                    obtain ⟨k, hk, rfl, NWh, HK⟩ := hrel
                    have a4 := NWh.a.cell 4
                    have a5 := NWh.a.cell 5
                    have a6 := NWh.a.cell 6
                    have b4 := NWh.b.cell 4
                    have b5 := NWh.b.cell 5
                    have b6 := NWh.b.cell 6
                    simp at a4 a5 a6 b4 b5 b6
                    have hbel := NWh.bel
                    have HW := Lib.hid NWh
                    clear NWh
                    by_cases hlt : k < nra
                    · obtain ⟨b1, o1, rfl, _, _, hcells1⟩ := (HRRa.out.below (hbel.mono hh)).at_ (by omega)
                      obtain ⟨b2, o2, rfl, _, _, hcells2⟩ := (HRRb.out.below (hbel.mono hh)).at_ (by omega)
                      obtain ⟨a, ha⟩ : ∃ a, x.refs[k]? = some a := ⟨x.refs[k]'(by have := HL1.out; have := HL3.out; omega), List.getElem?_eq_getElem _⟩
                      obtain ⟨b, hb⟩ : ∃ b, y.refs[k]? = some b := ⟨y.refs[k]'(by have := HL2.out; have := HL4.out; omega), List.getElem?_eq_getElem _⟩
                      have q1 := hcells1 _ _ (refCells_get ha).1
                      have q1' := hcells1 _ _ (refCells_get ha).2
                      have q1' : wr.cell? ⟨b1, o1 + k * 2 + 1, none⟩ = some (.int .i64 a.2) := by rw [Nat.add_assoc]; exact q1'
                      have q2 := hcells2 _ _ (refCells_get hb).1
                      have q2' := hcells2 _ _ (refCells_get hb).2
                      have q2' : wr.cell? ⟨b2, o2 + k * 2 + 1, none⟩ = some (.int .i64 b.2) := by rw [Nat.add_assoc]; exact q2'
                      have HD : Hid (eqL refE x.refs y.refs = (refE a b && eqL refE (x.refs.drop (k + 1)) (y.refs.drop (k + 1)))) := Lib.hid (by
                        obtain ⟨hl1, e1⟩ := List.getElem?_eq_some_iff.1 ha
                        obtain ⟨hl2, e2⟩ := List.getElem?_eq_some_iff.1 hb
                        rw [HK.out, List.drop_eq_getElem_cons hl1, List.drop_eq_getElem_cons hl2, e1, e2]; rfl)
                      clear HK ha hb hcells1 hcells2
                      cases e1 : (a.1.toList == b.1.toList) with
                      | false =>
                        have HZ : Hid (nodeE x y = false) := Lib.hid (by rw [HN.out, HD.out]; simp only [refE, e1]; simp)
                        clear HD
                        go_wp2_with fail
                        go_quiet (fail)
                        go_wp2_with fail
                        go_ret
                        exact ret_b HZ.out rfl (HW.out.drewN _).bel
                      | true =>
                        cases e2 : (a.2 == b.2) with
                        | false =>
                          have HZ : Hid (nodeE x y = false) := Lib.hid (by rw [HN.out, HD.out]; simp only [refE, e1, e2]; simp)
                          clear HD
                          go_wp2_with fail
                          go_quiet (fail)
                          go_wp2_with fail
                          go_ret
                          exact ret_b HZ.out rfl (HW.out.drewN _).bel
                        | true =>
                          have HZ : Hid (eqL refE x.refs y.refs = eqL refE (x.refs.drop (k + 1)) (y.refs.drop (k + 1))) := Lib.hid (by rw [HD.out]; simp only [refE, e1, e2]; rfl)
                          clear HD
                          go_wp2_with fail
                          go_quiet (fail)
                          go_wp2_with fail
                          go_roundw
                          case rel => exact ⟨k + 1, by omega, by go_num, HW.out.drewN _, HZ⟩
                          case measure => simp [intOf]; omega
                    · have HY : Hid (eqL refE x.refs y.refs = true) := Lib.hid (by rw [HK.out, List.drop_eq_nil_of_le (by have := HL1.out; have := HL3.out; omega), List.drop_eq_nil_of_le (by have := HL2.out; have := HL4.out; omega)]; rfl)
                      have hN := HN.out
                      rw [HY.out] at hN
                      have HN := Lib.hid hN
                      have HW0 := HW
                      clear hN HY HK HW
                      go_wp2_with (go_at_call 65; refine (HIn.out _ (HW0.out.bel)).mono ?_; rintro e w2 ⟨rfl, hq2⟩; have HQ2 := Lib.hid hq2; clear hq2)
                      go_ret
                      exact ret_b (by rw [HN.out]; simp) rfl (HW0.out.bel.trans (drew_below HQ2.out))
            · have f1 : ((npa : Int) != (npb : Int)) = false := by rw [bne_eq_false_iff_eq]; omega
              have f2 : ((nra : Int) != (nrb : Int)) = true := by rw [bne_iff_ne]; omega
              have HZ : Hid (nodeE x y = false) := Lib.hid (by rw [HN.out, eqL_len refE (by have := HL3.out; have := HL4.out; omega)]; simp)
              clear l1 l2
              go_enter Try.func41, Try.ntmps41
              go_wp2_with fail
              go_ret
              exact ret_b HZ.out rfl HW0.out.bel
          · have f1 : ((npa : Int) != (npb : Int)) = true := by rw [bne_iff_ne]; omega
            have HZ : Hid (nodeE x y = false) := Lib.hid (by rw [HN.out, eqL_len propE (by have := HL1.out; have := HL2.out; omega)]; simp)
            clear l1
            go_enter Try.func41, Try.ntmps41
            go_wp2_with fail
            go_ret
            exact ret_b HZ.out rfl HW0.out.bel
        | false =>
          have HZ : Hid (nodeE x y = false) := Lib.hid (by rw [HN.out, d3]; simp)
          go_enter Try.func41, Try.ntmps41
          go_wp2_with fail
          go_ret
          exact ret_b HZ.out rfl HW0.out.bel
      · have d2 : (x.par == y.par) = false := by rw [beq_eq_false_iff_ne]; exact e2
        have n2 : (x.par != y.par) = true := by rw [bne_iff_ne]; exact e2
        clear e2
        have HZ : Hid (nodeE x y = false) := Lib.hid (by rw [HN.out, d2]; simp)
        go_enter Try.func41, Try.ntmps41
        go_wp2_with fail
        go_ret
        exact ret_b HZ.out rfl HW0.out.bel
    | false =>
      have HZ : Hid (nodeE x y = false) := Lib.hid (by rw [HN.out, d1]; simp)
      go_enter Try.func41, Try.ntmps41
      go_wp2_with fail
      go_ret
      exact ret_b HZ.out rfl HW0.out.bel
  · have d0 : (x.id == y.id) = false := by rw [beq_eq_false_iff_ne]; exact e0
    have n0 : (x.id != y.id) = true := by rw [bne_iff_ne]; exact e0
    clear e0
    have HZ : Hid (nodeE x y = false) := Lib.hid (by rw [HN.out, d0]; simp)
    go_enter Try.func41, Try.ntmps41
    go_wp2_with fail
    go_ret
    exact ret_b HZ.out rfl HW0.out.bel
end Go.Proofs.Ytfljndlmafcjeaa
namespace Go.Proofs.Ytfljndlmafcjeaa
open Go Go.RowKit Go.Sort
set_option linter.unusedVariables false
def mdE (next next' : Int) (nds nds' : List Nd) : Bool := (next == next') && eqL nodeE nds nds'
theorem mdE_refl (next : Int) (nds : List Nd) : mdE next next nds nds = true := by unfold mdE; rw [eqL_refl nodeE_refl]; simp
/-- the boxes of two models -/
structure M2 (w : World) (next next' : Int) (A A' : Option Addr) (n c n' c' : Nat) (wr : World) : Prop where
  a : Blk wr w.heap.size 24 #[.int .i64 next, .slice A n c]
  b : Blk wr (w.heap.size + 1) 24 #[.int .i64 next', .slice A' n' c']
  bel : Below w.heap.size w wr
section
variable {w wr w' : World} {next next' : Int} {A A' : Option Addr} {n c n' c' : Nat}
theorem M2.start (w : World) (next next' : Int) (A A' : Option Addr) (n c n' c' : Nat) : M2 w next next' A A' n c n' c' ((w.alloc (.cells #[.int .i64 next, .slice A n c] 24)).alloc (.cells #[.int .i64 next', .slice A' n' c'] 24)) :=
  ⟨(Blk.new _ _ _).alloc _, Blk.new' (by simp), (below_box _ _).alloc (by simp) _⟩
theorem M2.after (h : M2 w next next' A A' n c n' c' wr) (hb : Below wr.heap.size wr w') : M2 w next next' A A' n c n' c' w' := ⟨h.a.after hb, h.b.after hb, h.bel.trans (hb.mono h.bel.size)⟩
theorem M2.size (h : M2 w next next' A A' n c n' c' wr) : w.heap.size + 1 < wr.heap.size := h.b.lt
end
set_option maxRecDepth 100000 in
set_option maxHeartbeats 3200000 in
theorem refSame_any (w : World) (hi : Nat) (next next' : Int) (A A' : Option Addr) (n c n' c' : Nat) (nds nds' : List Nd) (h : NodesIn w 0 hi A n c nds) (h' : NodesIn w 0 hi A' n' c' nds') (hh : hi ≤ w.heap.size) :
    Calls Try.prog 12 #[.agg #[.int .i64 next, .slice A n c], .agg #[.int .i64 next', .slice A' n' c']] w (Ret w (.bool (mdE next next' nds nds'))) := by
  have hc := h.2.2.1
  have hnc := h.2.1
  have HL1 := Lib.hid h.1
  have hc' := h'.2.2.1
  have hnc' := h'.2.1
  have HL2 := Lib.hid h'.1
  unfold maxLen at hc hc'
  have HM0 := Lib.hid (M2.start w next next' A A' n c n' c')
  have HN : Hid (mdE next next' nds nds' = ((next == next') && eqL nodeE nds nds')) := Lib.hid rfl
  by_cases e1 : next = next'
  · have d1 : (next != next') = false := by rw [bne_eq_false_iff_eq]; exact e1
    have HN : Hid (mdE next next' nds nds' = eqL nodeE nds nds') := Lib.hid (by rw [HN.out, beq_iff_eq.2 e1]; rfl)
    clear e1
    by_cases e2 : n = n'
    · have d2 : ((n : Int) != (n' : Int)) = false := by rw [bne_eq_false_iff_eq]; omega
      subst e2
      go_enter Try.func12, Try.ntmps12
      go_wp2_with fail
      go_loopw [5] (fun i wr => ∃ k : Nat, k ≤ n ∧ i = .int .i64 k ∧ M2 w next next' A A' n c n c' wr ∧ Hid (eqL nodeE nds nds' = eqL nodeE (nds.drop k) (nds'.drop k))) (fun i _ => n - (intOf i).toNat)
      case atStart => exact ⟨0, by omega, rfl, HM0.out, Lib.hid rfl⟩
      case round =>
        clear HM0
        obtain ⟨k, hk, rfl, M, HK⟩ := hrel
        have c1 := M.a.cell 1
        have c2 := M.b.cell 1
        simp at c1 c2
        have hbel := M.bel
        have hsz := M.size
        have HM := Lib.hid M
        clear M
        by_cases hlt : k < n
        · obtain ⟨b1, o1, hA1, _, hb1, V1, hV1⟩ := h.all (by omega)
          obtain ⟨b2, o2, hA2, _, hb2', V2, hV2⟩ := h'.all (by omega)
          subst hA1 hA2
          obtain ⟨x, hx⟩ : ∃ x, nds[k]? = some x := ⟨nds[k]'(by have := HL1.out; omega), List.getElem?_eq_getElem _⟩
          obtain ⟨y, hy⟩ : ∃ y, nds'[k]? = some y := ⟨nds'[k]'(by have := HL2.out; omega), List.getElem?_eq_getElem _⟩
          have hat1 := (hV1 k x hx).1.below hbel (by omega)
          have hlf1 := (hV1 k x hx).2
          have hat2 := (hV2 k y hy).1.below hbel (by omega)
          have hlf2 := (hV2 k y hy).2
          have HD : Hid (eqL nodeE nds nds' = (nodeE x y && eqL nodeE (nds.drop (k + 1)) (nds'.drop (k + 1)))) := Lib.hid (by
            obtain ⟨hl1, e1⟩ := List.getElem?_eq_some_iff.1 hx
            obtain ⟨hl2, e2⟩ := List.getElem?_eq_some_iff.1 hy
            rw [HK.out, List.drop_eq_getElem_cons hl1, List.drop_eq_getElem_cons hl2, e1, e2]; rfl)
          generalize V1 k = L1 at hat1 hlf1
          generalize V2 k = L2 at hat2 hlf2
          obtain ⟨⟨Ap1, np1, cp1⟩, ⟨Ak1, nk1, ck1⟩, ⟨Ar1, nr1, cr1⟩⟩ := L1
          obtain ⟨⟨Ap2, np2, cp2⟩, ⟨Ak2, nk2, ck2⟩, ⟨Ar2, nr2, cr2⟩⟩ := L2
          obtain ⟨a0, a1, a2, a3, a4, a5, a6⟩ := hat1
          obtain ⟨g0, g1, g2, g3, g4, g5, g6⟩ := hat2
          simp only at a4 a5 a6 g4 g5 g6
          obtain ⟨r, hr⟩ : ∃ b, nodeE x y = b := ⟨_, rfl⟩
          rw [hr] at HD
          have hS : ∀ d os, Calls Try.prog 41 #[.agg #[.int .i64 x.id, .string x.con, .int .i64 x.par, .string x.role, .slice Ap1 np1 cp1, .slice Ak1 nk1 ck1, .slice Ar1 nr1 cr1], .agg #[.int .i64 y.id, .string y.con, .int .i64 y.par, .string y.role, .slice Ap2 np2 cp2, .slice Ak2 nk2 ck2, .slice Ar2 nr2 cr2]] (grow (redrawn wr d) os) (Ret (grow (redrawn wr d) os) (.bool (nodeE x y))) := fun d os =>
            refSameNode_any _ hi x y ⟨⟨Ap1, np1, cp1⟩, ⟨Ak1, nk1, ck1⟩, ⟨Ar1, nr1, cr1⟩⟩ ⟨⟨Ap2, np2, cp2⟩, ⟨Ak2, nk2, ck2⟩, ⟨Ar2, nr2, cr2⟩⟩ ((hlf1.below (hbel.mono hh)).below ((below_regrown wr d os).mono (by omega))) ((hlf2.below (hbel.mono hh)).below ((below_regrown wr d os).mono (by omega))) (by have := (below_regrown wr d os).size; omega)
          rw [hr] at hS
          have HS := Lib.hid hS
          have z0 := cell_regrown c1
          have z1 := cell_regrown c2
          have u0 := cell_regrown a0
          have v0 := cell_regrown g0
          have u1 := cell_regrown a1
          have v1 := cell_regrown g1
          have u2 := cell_regrown a2
          have v2 := cell_regrown g2
          have u3 := cell_regrown a3
          have v3 := cell_regrown g3
          have u4 := cell_regrown a4
          have v4 := cell_regrown g4
          have u5 := cell_regrown a5
          have v5 := cell_regrown g5
          have u6 := cell_regrown a6
          have v6 := cell_regrown g6
          clear hS hr hx hy hV1 hV2 hlf1 hlf2 HK a0 a1 a2 a3 a4 a5 a6 g0 g1 g2 g3 g4 g5 g6
          cases r with
          | false =>
            have HZ : Hid (mdE next next' nds nds' = false) := Lib.hid (by rw [HN.out, HD.out]; rfl)
            clear HD
            go_wp2_with fail
            refine wp_region_quiet_below (by kernel_rfl) (by kernel_rfl) ?_
            repeat (go_big_quiet_step ((go_at_call 41; exact regrown_ret (HS.out _ _))))
            refine wpQuiet_nil ?_
            intro _ hw'
            obtain ⟨⟨dq, osq⟩, hw''⟩ := hw'
            subst hw''
            have hb2 := below_regrown wr dq osq
            generalize grow (redrawn wr dq) osq = w2 at hb2 ⊢
            go_wp2_with fail
            go_ret
            exact ret_b HZ.out rfl (HM.out.after hb2).bel
          | true =>
            have HZ : Hid (eqL nodeE nds nds' = eqL nodeE (nds.drop (k + 1)) (nds'.drop (k + 1))) := Lib.hid (by rw [HD.out]; rfl)
            clear HD
            go_wp2_with fail
            refine wp_region_quiet_below (by kernel_rfl) (by kernel_rfl) ?_
            repeat (go_big_quiet_step ((go_at_call 41; exact regrown_ret (HS.out _ _))))
            refine wpQuiet_nil ?_
            intro _ hw'
            obtain ⟨⟨dq, osq⟩, hw''⟩ := hw'
            subst hw''
            have hb2 := below_regrown wr dq osq
            generalize grow (redrawn wr dq) osq = w2 at hb2 ⊢
            clear z0 z1 u0 u1 u2 u3 u4 u5 u6 v0 v1 v2 v3 v4 v5 v6
            go_wp2_with fail
            go_roundw
            case rel => exact ⟨k + 1, by omega, by go_num, HM.out.after hb2, HZ⟩
            case measure => simp [intOf]; omega
        · have HZ : Hid (mdE next next' nds nds' = true) := Lib.hid (by rw [HN.out, HK.out, List.drop_eq_nil_of_le (by have := HL1.out; omega), List.drop_eq_nil_of_le (by have := HL2.out; omega)]; rfl)
          clear HK
          go_wp2_with fail
          go_ret
          exact ret_b HZ.out rfl hbel
    · have d2 : ((n : Int) != (n' : Int)) = true := by rw [bne_iff_ne]; omega
      have HZ : Hid (mdE next next' nds nds' = false) := Lib.hid (by rw [HN.out, eqL_len nodeE (by have := HL1.out; have := HL2.out; omega)])
      clear e2
      go_enter Try.func12, Try.ntmps12
      go_wp2_with fail
      go_ret
      exact ret_b HZ.out rfl HM0.out.bel
  · have d1 : (next != next') = true := by rw [bne_iff_ne]; exact e1
    have HZ : Hid (mdE next next' nds nds' = false) := Lib.hid (by rw [HN.out, beq_eq_false_iff_ne.2 e1]; rfl)
    clear e1
    go_enter Try.func12, Try.ntmps12
    go_wp2_with fail
    go_ret
    exact ret_b HZ.out rfl HM0.out.bel
end Go.Proofs.Ytfljndlmafcjeaa
namespace Go.Proofs.Ytfljndlmafcjeaa
open Go Go.RowKit Go.Sort
set_option linter.unusedVariables false
attribute [local go_sem ↓] Go.wp_at_zero Go.wp_at_succ
theorem MarkIn.row {w : World} {B : Nat} {e : TypeId} {size n : Nat} {s : Sl} {xs mark : List Value} (h : MarkIn w B e size s n xs mark) (hx : xs.length = n * size) : Row w B w.heap.size size s.A s.n s.c xs := by
  have h1 := own_row (own_take h.2.2 (Nat.le_succ n) h.2.1)
  rw [show (xs ++ mark).take (n * size) = xs from by rw [← hx]; simp] at h1
  rw [h.1]
  exact h1
/-- the mark behind the end: the room is there, and what lies in it -/
theorem MarkIn.mark {w : World} {B : Nat} {e : TypeId} {size n : Nat} {s : Sl} {xs : List Value} {m0 : Value} {ms : List Value} (h : MarkIn w B e size s n xs (m0 :: ms)) (hx : xs.length = n * size) :
    ∃ b o, s.A = some ⟨b, o, none⟩ ∧ b < w.heap.size ∧ s.n + 1 ≤ s.c ∧ s.c ≤ maxLen ∧ w.cell? ⟨b, o + s.n * size, none⟩ = some m0 := by
  have h1 := own_row h.2.2
  obtain ⟨b, o, hA, _, hb, hc⟩ := h1.2.2.2 (Nat.succ_pos _)
  refine ⟨b, o, hA, hb, ?_, h1.2.2.1, hc _ _ ?_⟩
  · rw [h.1]; exact h1.2.1
  · rw [h.1, ← hx]; simp
theorem LentLeaf.leafIn {w : World} {B : Nat} {nd : Nd} {L : Leaf} (h : LentLeaf w B nd L) : LeafIn w B w.heap.size nd L :=
  ⟨h.p.1, h.k.1, h.r.1, h.p.row (propCells_length _), h.k.row (by rw [intCells_length]; omega), h.r.row (refCells_length _), h.sz⟩
theorem LentAt.ownN {w : World} {B n c : Nat} {A : Option Addr} {nds : List Nd} {l : List (Nd × Leaf)} (h : LentAt w B A n c nds l) : OwnN w B (.slice A n c) l := by
  have h1 := own_take h.own (Nat.le_succ n) h.some_
  rw [show (allCells l ++ markNd).take (n * 7) = allCells l from by rw [← h.len, ← allCells_len]; simp] at h1
  unfold OwnN
  rw [h.len]
  exact h1
theorem LentAt.nodesIn {w : World} {B n c : Nat} {A : Option Addr} {nds : List Nd} {l : List (Nd × Leaf)} (h : LentAt w B A n c nds l) : NodesIn w B w.heap.size A n c nds := by
  rw [← h.nds_]
  exact h.ownN.nodesIn h.len (fun p hp => (h.leaf p hp).leafIn) (Nat.le_refl _) (Nat.le_refl _)
theorem LentAt.after {w w' : World} {B n c : Nat} {A : Option Addr} {nds : List Nd} {l : List (Nd × Leaf)} (h : LentAt w B A n c nds l) (hb : Below w.heap.size w w') : LentAt w' B A n c nds l :=
  ⟨h.nds_, h.len, fun p hp => (h.leaf p hp).after hb, h.some_, own_after h.own hb, h.le, h.max⟩
/-- where the nodes lie, each with its marks, and the last mark -/
theorem LentAt.all {w : World} {B n c : Nat} {A : Option Addr} {nds : List Nd} {l : List (Nd × Leaf)} (h : LentAt w B A n c nds l) :
    ∃ b o, A = some ⟨b, o, none⟩ ∧ b < w.heap.size ∧ w.cell? ⟨b, o + n * 7, none⟩ = some (.int .i64 (-7)) ∧ ∀ i p, l[i]? = some p → NodeAt w b (o + i * 7) p.1 p.2 ∧ LentLeaf w B p.1 p.2 := by
  have h1 := own_row h.own
  obtain ⟨b, o, hA, _, hb, hc⟩ := h1.2.2.2 (Nat.succ_pos _)
  refine ⟨b, o, hA, hb, hc _ _ (by rw [← h.len, ← allCells_len]; simp [markNd]), fun i p hp => ?_⟩
  have hi : i < l.length := (List.getElem?_eq_some_iff.1 hp).1
  have key : ∀ j u, j < 7 → (ndCells p)[j]? = some u → w.cell? ⟨b, o + i * 7 + j, none⟩ = some u := by
    intro j u hj hu
    have hlt : i * 7 + j < (allCells l).length := by rw [allCells_len]; omega
    have := hc (i * 7 + j) u (by rw [List.getElem?_append_left hlt]; unfold allCells; rw [flatN_get ndCells_len l i p hp j hj]; exact hu)
    rwa [Nat.add_assoc]
  exact ⟨⟨key 0 _ (by omega) rfl, key 1 _ (by omega) rfl, key 2 _ (by omega) rfl, key 3 _ (by omega) rfl, key 4 _ (by omega) rfl, key 5 _ (by omega) rfl, key 6 _ (by omega) rfl⟩, h.leaf p (List.mem_of_getElem? hp)⟩
set_option maxRecDepth 100000 in
set_option maxHeartbeats 6400000 in
theorem kept_any (w : World) (B hi : Nat) (next : Int) (A A' : Option Addr) (n c n' c' : Nat) (nds : List Nd) (l : List (Nd × Leaf)) (h : LentAt w B A n c nds l) (h' : NodesIn w 0 hi A' n' c' nds) (hh : hi ≤ w.heap.size) :
    Calls Try.prog 13 #[.agg #[.int .i64 next, .slice A n c], .agg #[.int .i64 next, .slice A' n' c']] w (Ret w (.bool true)) := by
  have hle := h.le
  have hmx := h.max
  unfold maxLen at hmx
  have hM := M2.start w next next A A' n c n' c'
  have HM0 := Lib.hid hM
  obtain ⟨b, o, hA, hb, hmk, hall⟩ := h.all
  subst hA
  have q0 := cell_regrown ((hM.a.cell 0).trans (show _ = some (.int .i64 next) from rfl))
  have q1 := cell_regrown ((hM.a.cell 1).trans (show _ = some (.slice (some ⟨b, o, none⟩) n c) from rfl))
  have q2 := cell_regrown ((hM.b.cell 0).trans (show _ = some (.int .i64 next) from rfl))
  have q3 := cell_regrown ((hM.b.cell 1).trans (show _ = some (.slice A' n' c') from rfl))
  have qm := cell_regrown ((hM.bel.cell (p := ⟨b, _, none⟩) hb).trans hmk)
  have HS : Hid (∀ d os, Calls Try.prog 12 #[.agg #[.int .i64 next, .slice (some ⟨b, o, none⟩) n c], .agg #[.int .i64 next, .slice A' n' c']] (grow (redrawn ((w.alloc (.cells #[.int .i64 next, .slice (some ⟨b, o, none⟩) n c] 24)).alloc (.cells #[.int .i64 next, .slice A' n' c'] 24)) d) os) (Ret (grow (redrawn ((w.alloc (.cells #[.int .i64 next, .slice (some ⟨b, o, none⟩) n c] 24)).alloc (.cells #[.int .i64 next, .slice A' n' c'] 24)) d) os) (.bool true))) := Lib.hid fun d os => by
    have hbz := hM.bel.trans ((below_regrown _ d os).mono hM.bel.size)
    have := refSame_any _ (grow (redrawn ((w.alloc (.cells #[.int .i64 next, .slice (some ⟨b, o, none⟩) n c] 24)).alloc (.cells #[.int .i64 next, .slice A' n' c'] 24)) d) os).heap.size next next _ A' n c n' c' nds nds (((h.after hbz).nodesIn).mono (Nat.zero_le _) (Nat.le_refl _)) ((h'.below (hbz.mono hh)).mono (Nat.le_refl _) (Nat.le_trans hh hbz.size)) (Nat.le_refl _)
    rw [mdE_refl] at this
    exact this
  have hnl := h.len
  have HAll := Lib.hid hall
  have hbm := hM.bel
  clear hM hall hmk h h'
  go_enter Try.func13, Try.ntmps13
  go_wp2_with fail
  refine wp_region_quiet_below (by kernel_rfl) (by kernel_rfl) ?_
  repeat (go_big_quiet_step ((go_at_call 12; exact regrown_ret (HS.out _ _))))
  refine wpQuiet_nil ?_
  intro _ hw'
  obtain ⟨⟨dq, osq⟩, hw''⟩ := hw'
  subst hw''
  have HM2 := Lib.hid (HM0.out.after (below_regrown _ dq osq))
  generalize grow (redrawn _ dq) osq = w2 at HM2 ⊢
  clear q0 q1 q2 q3 qm HM0 HS hbm
  go_wp2_with fail
  go_loopw [5] (fun i wr => ∃ k : Nat, k ≤ n ∧ i = .int .i64 k ∧ M2 w next next (some ⟨b, o, none⟩) A' n c n' c' wr) (fun i _ => n - (intOf i).toNat)
  case atStart => exact ⟨0, by omega, rfl, HM2.out⟩
  case round =>
    clear HM2
    obtain ⟨k, hk, rfl, M⟩ := hrel
    have c1 := M.a.cell 1
    simp at c1
    have hbel := M.bel
    have hsz := M.size
    have HM := Lib.hid M
    clear M
    by_cases hlt : k < n
    · obtain ⟨⟨nd, L⟩, hp⟩ : ∃ p, l[k]? = some p := ⟨l[k]'(by omega), List.getElem?_eq_getElem _⟩
      obtain ⟨hat, hlf⟩ := HAll.out k _ hp
      have hat2 := hat.below hbel hb
      obtain ⟨a0, a1, a2, a3, a4, a5, a6⟩ := hat2
      obtain ⟨⟨Ap, np, cp⟩, ⟨Ak, nk, ck⟩, ⟨Ar, nr, cr⟩⟩ := L
      obtain ⟨bp, op, hAp, hbp, hrp, hxp, hcp⟩ := hlf.p.mark (propCells_length _)
      obtain ⟨bk, ok, hAk, hbk, hrk, hxk, hck⟩ := hlf.k.mark (by rw [intCells_length]; omega)
      obtain ⟨br, orr, hAr, hbr, hrr, hxr, hcr⟩ := hlf.r.mark (refCells_length _)
      simp only at a4 a5 a6 hAp hAk hAr hrp hrk hrr hxp hxk hxr hcp hck hcr
      subst hAp hAk hAr
      unfold maxLen at hxp hxk hxr
      rw [Nat.mul_one] at hck
      have e4 := (hbel.cell (p := ⟨bp, _, none⟩) hbp).trans hcp
      have e5 := (hbel.cell (p := ⟨bk, _, none⟩) hbk).trans hck
      have e6 := (hbel.cell (p := ⟨br, _, none⟩) hbr).trans hcr
      unfold markS at e4 e6
      have z4 := cell_alloc e4 (by omega) (.cells #[.int .i64 nd.id, .string nd.con, .int .i64 nd.par, .string nd.role, .slice (some ⟨bp, op, none⟩) np cp, .slice (some ⟨bk, ok, none⟩) nk ck, .slice (some ⟨br, orr, none⟩) nr cr] 44)
      have z5 := cell_alloc e5 (by omega) (.cells #[.int .i64 nd.id, .string nd.con, .int .i64 nd.par, .string nd.role, .slice (some ⟨bp, op, none⟩) np cp, .slice (some ⟨bk, ok, none⟩) nk ck, .slice (some ⟨br, orr, none⟩) nr cr] 44)
      have z6 := cell_alloc e6 (by omega) (.cells #[.int .i64 nd.id, .string nd.con, .int .i64 nd.par, .string nd.role, .slice (some ⟨bp, op, none⟩) np cp, .slice (some ⟨bk, ok, none⟩) nk ck, .slice (some ⟨br, orr, none⟩) nr cr] 44)
      have HBx := Lib.hid (Blk.new wr 44 #[.int .i64 nd.id, .string nd.con, .int .i64 nd.par, .string nd.role, .slice (some ⟨bp, op, none⟩) np cp, .slice (some ⟨bk, ok, none⟩) nk ck, .slice (some ⟨br, orr, none⟩) nr cr])
      clear hat hlf hp e4 e5 e6 hcp hck hcr
      go_upto_region 7 with (fail)
      obtain ⟨g6, hg6⟩ : ∃ g6, g6 = wr.heap.size := ⟨_, rfl⟩
      rw [← hg6] at HBx ⊢
      have HM3 := Lib.hid (HM.out.after (below_more (Below.refl _ _) (.cells #[.int .i64 nd.id, .string nd.con, .int .i64 nd.par, .string nd.role, .slice (some ⟨bp, op, none⟩) np cp, .slice (some ⟨bk, ok, none⟩) nk ck, .slice (some ⟨br, orr, none⟩) nr cr] 44)))
      have HG6 := Lib.hid hg6
      clear hg6
      generalize wr.alloc _ = X at z4 z5 z6 HBx HM3 ⊢
      have y4 := HBx.out.cell 4
      have y5 := HBx.out.cell 5
      have y6 := HBx.out.cell 6
      simp at y4 y5 y6
      go_quiet (fail)
      go_wp2_with fail
      go_roundw
      case measure => simp only [intOf]; omega
      case rel =>
        exact ⟨k + 1, by omega, by simp, HM3.out.after (below_drewN (Below.refl _ _) _)⟩
    · go_wp2_with fail
      go_ret
      exact ret_b rfl rfl HM.out.bel
end Go.Proofs.Ytfljndlmafcjeaa

/-
  WALKS over the document's reader: Parse.
-/
import Derived.Test.YtckfcpiedainfaaGreatDoorZE44
namespace Go.Proofs.YtckfcpiedainfaaGreatDoor
open Go Go.RowKit Go.Sort
set_option linter.unusedVariables false
/-- what the document's Parse answers -/
def DocPost (w : World) (r : List EN × Int × Int) (e : Ending) (w' : World) : Prop := ∃ (A : Option Addr) (c : Nat) (m : List (EN × Sl)) (B : Nat), e = .returned (.tuple #[.agg #[.slice A m.length c], .int .i64 r.2.1, .int .i64 r.2.2]) ∧ nodesOf m = r.1 ∧ w.heap.size ≤ B ∧ OE B (.slice A m.length c) m w' ∧ Below w.heap.size w w'
/-- Parse's result and reader -/
structure DPB (w : World) (g : Nat) (bad : Int) (v : Value) (X : World) : Prop where
  bel : Below w.heap.size w X
  b0 : Blk X w.heap.size 24 #[v]
  r3 : ∃ a b c e : Value, Blk X g 61 #[a, b, c, .int .i64 bad, e]
  ne : w.heap.size < g
section
variable {w W X X' : World} {g : Nat} {bad : Int} {v : Value} {A : Option Addr} {c : Nat} {all : List Tok} {fin : Int} {N p : Nat} {ts : List (Nat × Tr)}
theorem DPB.of (hb : Below w.heap.size w W) (h0 : Blk W w.heap.size 24 #[v]) (hS : DS W A c all fin bad N ts p X) : DPB w W.heap.size bad v X := by
  obtain ⟨h1, h2, m, Am, cm, h3, h4, h5, h6⟩ := hS
  exact ⟨hb.trans (h1.mono hb.size), h0.after h1, ⟨_, _, _, _, h3⟩, h0.lt⟩
theorem DPB.after (h : DPB w g bad v X) (hb : Below X.heap.size X X') : DPB w g bad v X' := ⟨h.bel.trans (hb.mono h.bel.size), h.b0.after hb, h.r3.elim fun a ⟨b, c, e, hh⟩ => ⟨a, b, c, e, hh.after hb⟩, h.ne⟩
theorem DPB.set0 (h : DPB w g bad v X) (v' : Value) : DPB w g bad v' (X.setCell ⟨w.heap.size, 0, none⟩ v') := by
  obtain ⟨a, b, c, e, hh⟩ := h.r3
  refine ⟨h.bel.setCell (p := ⟨w.heap.size, 0, none⟩) (Nat.le_refl _) _, by simpa using h.b0.set_ 0 v', ⟨a, b, c, e, hh.far (p := ⟨w.heap.size, 0, none⟩) ?_ _⟩, h.ne⟩
  have := h.ne
  show g ≠ w.heap.size
  omega
theorem DPB.cells (h : DPB w g bad v X) : X.cell? ⟨w.heap.size, 0, none⟩ = some v ∧ X.frozen? ⟨w.heap.size, 0, none⟩ = false ∧ X.cell? ⟨g, 3, none⟩ = some (.int .i64 bad) := by
  obtain ⟨a, b, c, e, hh⟩ := h.r3
  exact ⟨(h.b0.cell 0).trans rfl, h.b0.frozen 0, (hh.cell 3).trans rfl⟩
theorem DS.start {k : Nat} (hl : all.length ≤ 4096) : DS W A k all fin (-1) all.length [] 0 (W.alloc (.cells #[.slice A all.length k, .int .i64 0, .int .i64 fin, .int .i64 (-1), .slice none 0 0] 61)) :=
  ⟨below_of_alloc _, Nat.zero_le _, [], none, 0, Blk.new' rfl, GL.start _ _ _ _ _ _, by simp, by simp⟩
end
theorem DocPost.none_ {w X : World} {a r : Int} (hb : Below w.heap.size w X) : DocPost w ([], a, r) (.returned (.tuple #[.agg #[.slice none 0 0], .int .i64 a, .int .i64 r])) X := ⟨none, 0, [], X.heap.size, rfl, rfl, hb.size, OE.start X, hb⟩
set_option maxRecDepth 20000 in
set_option maxHeartbeats 3200000 in
theorem dparse_lexErr (w : World) (s : ByteArray) (hs : s.size ≤ 140737488355328) (S : List UInt8) (hS : s.data.toList = S) (hr : ¬ (scanR S).2.2 = 0) : Calls Tryz.prog 9 #[.string s] w (DocPost w (exprR S)) := by
  have hrx : exprR S = ([], ((scanR S).2.1 : Int), (scanR S).2.2) := if_neg hr
  rw [hrx]
  have HSC : Hid (∀ Y, Calls Tryz.prog 20 #[.string s] Y (ScanPost Y (scanR S))) := Lib.hid fun Y => by rw [← hS]; exact refScan_any s Y hs
  have HR0 : Hid (Blk (w.alloc (.cells #[.slice none 0 0] 24)) w.heap.size 24 #[.slice none 0 0]) := Lib.hid (Blk.new _ _ _)
  have HB0 : Hid (Below w.heap.size w (w.alloc (.cells #[.slice none 0 0] 24))) := Lib.hid (below_of_alloc _)
  clear hrx
  obtain ⟨⟨l0, n, c⟩, hsc⟩ : ∃ x, scanR S = x := ⟨_, rfl⟩
  rw [hsc] at hr HSC ⊢
  dsimp only at hr ⊢
  clear hsc
  have q1 : (c != 0) = true := by simpa using hr
  clear hr
  go_enter Tryz.func9, Tryz.ntmps9
  go_upto_region 1 with (fail)
  generalize w.alloc (.cells #[.slice none 0 0] 24) = W0 at HB0 HR0 ⊢
  go_wp2_with (go_at_call 20; (with_reducible refine (HSC.out _).mono ?_); go_must (rintro e w1 ⟨v, rfl, ho, hb⟩; obtain ⟨A, k, rfl⟩ := own_form ho; dsimp only; have HR1 := Lib.hid (HR0.out.after hb); have HB1 := Lib.hid (HB0.out.trans (hb.mono HB0.out.size)); have x0 := (HR1.out.cell 0).trans (show _ = some (.slice none 0 0) from rfl); have f0 := HR1.out.frozen 0; clear ho hb))
  have y0 := ((HR1.out.set_ 0 (.slice none 0 0)).cell 0).trans (show _ = some (.slice none 0 0) from rfl)
  refine ⟨rfl, .tuple #[.agg #[.slice none 0 0], .int .i64 (n : Int), .int .i64 c], by simp [results, Tryz.results9, go_sem, y0], DocPost.none_ (HB1.out.setCell (p := ⟨w.heap.size, 0, none⟩) (Nat.le_refl _) _)⟩
theorem exprR_toks {S : List UInt8} {l : List Tok} (h : scanR S = (l, 0, 0)) : exprR S = (match parseV l with
    | .error l' => ([], placeV l' S.length, 80)
    | .ok none => ([], 0, 4)
    | .ok (some m) => (m, 0, 0)) := by unfold exprR; rw [h]; rfl
theorem dcx_of {W : World} {A : Option Addr} {k B : Nat} {l : List Tok} {S : List UInt8} {n : Nat} (h : scanR S = (l, 0, 0)) (ho : OwnT W B (.slice A l.length k) l) : DCx W A k l (n : Int) := ⟨⟨B, ho⟩, toks_ok h, toks_place h, by omega⟩
set_option maxRecDepth 20000 in
set_option maxHeartbeats 6400000 in
/-- what is read is refused -/
theorem dparse_bad (w : World) (s : ByteArray) (hs : s.size ≤ 140737488355328) (S : List UInt8) (hS : s.data.toList = S) (l : List Tok) (hr : scanR S = (l, 0, 0)) (l' : List Tok) (hx : rdX (.lv 1) l = .error l') (q : Int) (hqe : placeV l' (s.size : Int) = q) : Calls Tryz.prog 9 #[.string s] w (DocPost w ([], q, 80)) := by
  have HSC : Hid (∀ Y, Calls Tryz.prog 20 #[.string s] Y (ScanPost Y (l, 0, 0))) := Lib.hid fun Y => by rw [← hr, ← hS]; exact refScan_any s Y hs
  have HR0 : Hid (Blk (w.alloc (.cells #[.slice none 0 0] 24)) w.heap.size 24 #[.slice none 0 0]) := Lib.hid (Blk.new _ _ _)
  have HB0 : Hid (Below w.heap.size w (w.alloc (.cells #[.slice none 0 0] 24))) := Lib.hid (below_of_alloc _)
  have hl := (toks_ok hr).room
  have HL : Hid (∀ (W : World) (A : Option Addr) (k B : Nat), OwnT W B (.slice A l.length k) l → ∀ N X, N ≤ 4096 → DS W A k l (s.size : Int) (-1) N [] 0 X → Calls Tryz.prog 21 #[.pointer (some ⟨W.heap.size, 0, none⟩), .int .i64 1] X (LBad W A k l (s.size : Int) N q)) := Lib.hid fun W A k B ho N X hN hD => by
    have h1 := (dlevels_any W A k l (s.size : Int) (dcx_of hr ho) (l.length + 1) 0 (by omega) 0 (Nat.le_refl _) (Nat.zero_le _)).l1 N [] X hN hD
    rw [List.drop_zero, hx] at h1
    rw [← hqe]
    exact h1
  clear hr hx hqe
  go_enter Tryz.func9, Tryz.ntmps9
  go_upto_region 1 with (fail)
  generalize w.alloc (.cells #[.slice none 0 0] 24) = W0 at HB0 HR0 ⊢
  go_upto_region 5 with (go_at_call 20; (with_reducible refine (HSC.out _).mono ?_); go_must (rintro e w1 ⟨v, rfl, ho, hb⟩; obtain ⟨A, k, rfl⟩ := own_form ho; dsimp only; have HR1 := Lib.hid (HR0.out.after hb); have HB1 := Lib.hid (HB0.out.trans (hb.mono HB0.out.size)); have HO := Lib.hid ho; clear ho hb))
  have HL1 : Hid (Calls Tryz.prog 21 #[.pointer (some ⟨w1.heap.size, 0, none⟩), .int .i64 1] (w1.alloc (.cells #[.slice A l.length k, .int .i64 0, .int .i64 (s.size : Int), .int .i64 (-1), .slice none 0 0] 61)) (LBad w1 A k l (s.size : Int) l.length q)) := Lib.hid (HL.out _ _ _ _ HO.out _ _ hl (DS.start hl))
  generalize w1.alloc (.cells #[.slice A l.length k, .int .i64 0, .int .i64 (s.size : Int), .int .i64 (-1), .slice none 0 0] 61) = X0 at HL1 ⊢
  go_upto_region 6 with (go_at_call 21; (with_reducible refine HL1.out.mono ?_); go_must (rintro e X1 ⟨v, rfl, hq, p, hD⟩; have HD := Lib.hid hD; clear hD))
  obtain ⟨x0, x1, x2, x3, f1, f3⟩ := HD.out.cells
  have q1 : decide (q < 0) = false := decide_eq_false (by omega)
  go_quiet (fail)
  have HP := Lib.hid (DPB.of HB1.out HR1.out (HD.out.after (below_drewN (Below.refl _ _) nq)))
  clear x0 x1 x2 x3 f1 f3
  generalize X1.drewN nq = X9 at HP ⊢
  obtain ⟨x0, f0, x3⟩ := HP.out.cells
  have q2 : decide ((0 : Int) ≤ q) = true := decide_eq_true hq
  go_upto_region 9 with (fail)
  clear x0 f0 x3 HD
  have HD := Lib.hid (HP.out.after (drew1_below X9))
  refine wp_region_held_drew (S := fun Y => ∃ v, DPB w w1.heap.size q v Y) (by kernel_rfl) ⟨_, HD.out⟩ (fun hHeld => ?t0)
  case t0 =>
    show wpAnyH _ _ _ _ _ 8 (Array.replicate 8 false) _ X9.drew
    generalize X9.drew = Y9 at HD hHeld ⊢
    refine wpAnyH_take (i := 0) (oi := ⟨some 54, _, _, _, _, _⟩) (v := (.agg #[.slice none 0 0])) rfl (by kernel_rfl) (by kernel_rfl) (by kernel_rfl) (fun _ _ _ h => h) (Or.inl ⟨by rfl, ?y0⟩) (by assumption) ?q0
    case y0 => (intro w5 hSw; go_simp <;> with_reducible rfl)
    case q0 =>
      (try simp only [Act.put]); (try simp only [List.setIfInBounds_toArray])
      refine wpAnyH_take (i := 1) (oi := ⟨some 55, _, _, _, _, _⟩) (v := (.pointer (some ⟨w1.heap.size, 0, none⟩))) rfl (by kernel_rfl) (by kernel_rfl) (by kernel_rfl) (fun _ _ _ h => h) (Or.inl ⟨by rfl, ?y1⟩) (by assumption) ?q1
      case y1 => (intro w5 hSw; go_simp <;> with_reducible rfl)
      case q1 =>
        (try simp only [Act.put]); (try simp only [List.setIfInBounds_toArray])
        refine wpAnyH_take (i := 2) (oi := ⟨some 56, _, _, _, _, _⟩) (v := (.pointer (some ⟨w1.heap.size, 0, none⟩))) rfl (by kernel_rfl) (by kernel_rfl) (by kernel_rfl) (fun _ _ _ h => h) (Or.inl ⟨by rfl, ?y2⟩) (by assumption) ?q2
        case y2 => (intro w5 hSw; obtain ⟨v5, hp5⟩ := hSw; obtain ⟨e0, z0, e3⟩ := hp5.cells; go_simp <;> with_reducible rfl)
        case q2 =>
          (try simp only [Act.put]); (try simp only [List.setIfInBounds_toArray])
          refine wpAnyH_take (i := 3) (oi := ⟨some 57, _, _, _, _, _⟩) (v := (.pointer (some ⟨w1.heap.size, 3, none⟩))) rfl (by kernel_rfl) (by kernel_rfl) (by kernel_rfl) (fun _ _ _ h => h) (Or.inl ⟨by rfl, ?y3⟩) (by assumption) ?q3
          case y3 => (intro w5 hSw; go_simp <;> with_reducible rfl)
          case q3 =>
            (try simp only [Act.put]); (try simp only [List.setIfInBounds_toArray])
            refine wpAnyH_take (i := 4) (oi := ⟨some 58, _, _, _, _, _⟩) (v := (.int .i64 q)) rfl (by kernel_rfl) (by kernel_rfl) (by kernel_rfl) (fun _ _ _ h => h) (Or.inl ⟨by rfl, ?y4⟩) (by assumption) ?q4
            case y4 => (intro w5 hSw; obtain ⟨v5, hp5⟩ := hSw; obtain ⟨e0, z0, e3⟩ := hp5.cells; go_simp <;> with_reducible rfl)
            case q4 =>
              (try simp only [Act.put]); (try simp only [List.setIfInBounds_toArray])
              refine wpAnyH_ready (rs := [5]) (by kernel_rfl) (by simp) ?_
              refine AllReadyH.cons (o := ⟨none, _, _, _, _, _⟩) rfl (fun K hK => ?s5) ?m5
              case m5 => exact AllReadyH.nil
              case s5 =>
                obtain ⟨e0, z0, e3⟩ := HD.out.cells
                have HD2 := Lib.hid (HD.out.set0 (.slice none 0 0))
                go_simp
                refine hK.out _ _ ⟨_, HD2.out⟩ (fun hHeld2 => ?q5)
                case q5 =>
                  clear hK K e0 z0 e3 hHeld
                  (try simp only [Act.put]); (try simp only [List.setIfInBounds_toArray])
                  generalize Y9.setCell ⟨w.heap.size, 0, none⟩ (.slice none 0 0) = Z9 at HD2 hHeld2 ⊢
                  refine wpAnyH_take (i := 6) (oi := ⟨some 3, _, _, _, _, _⟩) (v := (.int .i64 q)) rfl (by kernel_rfl) (by kernel_rfl) (by kernel_rfl) (fun _ _ _ h => h) (Or.inl ⟨by rfl, ?y6⟩) (by assumption) ?q6
                  case y6 => (intro w5 hSw; go_simp <;> with_reducible rfl)
                  case q6 =>
                    (try simp only [Act.put]); (try simp only [List.setIfInBounds_toArray])
                    refine wpAnyH_take (i := 7) (oi := ⟨some 4, _, _, _, _, _⟩) (v := (.int .i64 80)) rfl (by kernel_rfl) (by kernel_rfl) (by kernel_rfl) (fun _ _ _ h => h) (Or.inl ⟨by rfl, ?y7⟩) (by assumption) ?q7
                    case y7 => (intro w5 hSw; go_simp <;> with_reducible rfl)
                    case q7 =>
                      (try simp only [Act.put]); (try simp only [List.setIfInBounds_toArray])
                      refine wpAnyH_done (by kernel_rfl) ?_ _
                      obtain ⟨e0, z0, e3⟩ := HD2.out.cells
                      go_wp2_with fail
                      refine ⟨rfl, .tuple #[.agg #[.slice none 0 0], .int .i64 q, .int .i64 80], by simp [results, Tryz.results9, go_sem, e0], DocPost.none_ HD2.out.bel⟩
end Go.Proofs.YtckfcpiedainfaaGreatDoor

/-
  WALKS over the document's reader: post.
-/
import Derived.Test.YtckfcpiedainfaaGreatDoorZE35
namespace Go.Proofs.YtckfcpiedainfaaGreatDoor
open Go Go.RowKit Go.Sort
set_option linter.unusedVariables false
theorem nameV_no {l : List Tok} (h : hasK l 3 = false) : nameV l = .error l := by
  cases l with
  | nil => rfl
  | cons t r =>
    have : ¬ t.kind = 3 := by simpa [hasK] using h
    exact if_neg this
theorem nameV_yes {l : List Tok} (h : hasK l 3 = true) : ∃ t r, l = t :: r ∧ t.kind = 3 ∧ nameV l = .ok (t.text, r) := by
  cases l with
  | nil => cases h
  | cons t r =>
    have : t.kind = 3 := by simpa [hasK] using h
    exact ⟨t, r, rfl, this, if_pos this⟩
theorem drop_cons {l : List Tok} {p : Nat} {t : Tok} {r : List Tok} (h : l.drop p = t :: r) : r = l.drop (p + 1) ∧ p < l.length := by
  refine ⟨by rw [← drop_one, h]; rfl, ?_⟩
  rcases Nat.lt_or_ge p l.length with hp | hp
  · exact hp
  · rw [List.drop_eq_nil_of_le hp] at h; cases h
theorem isM_at {l : List Tok} {p : Nat} {s : List UInt8} (h : isM (l.drop p) s = true) : p < l.length := by
  rcases Nat.lt_or_ge p l.length with hp | hp
  · exact hp
  · rw [List.drop_eq_nil_of_le hp] at h; cases h
theorem DS.nameNoH {w : World} {A : Option Addr} {c : Nat} {all : List Tok} {fin : Int} (hcx : DCx w A c all fin) (p : Nat) (h : hasK (all.drop p) 3 = false) : Hid (∀ N ts X, DS w A c all fin (-1) N ts p X → Calls Tryz.prog 66 #[.pointer (some ⟨w.heap.size, 0, none⟩)] X (fun e X' => e = .returned (.string { data := #[] }) ∧ DBad w A c all fin (placeV (all.drop p) fin) N X')) := Lib.hid fun N ts X hS => dnameNo_any w A c all fin hcx N p ts X hS h
theorem DS.nameYesH {w : World} {A : Option Addr} {c : Nat} {all : List Tok} {fin : Int} (hcx : DCx w A c all fin) (p : Nat) {t : Tok} {r : List Tok} (hl : all.drop p = t :: r) (hk : t.kind = 3) : Hid (∀ N ts X, DS w A c all fin (-1) N ts p X → Calls Tryz.prog 66 #[.pointer (some ⟨w.heap.size, 0, none⟩)] X (fun e X' => e = .returned (.string t.text) ∧ DS w A c all fin (-1) (N - 1) ts (p + 1) X')) := Lib.hid fun N ts X hS => dnameYes_any w A c all fin hcx N p ts X hS t r hl hk
theorem DS.add1S {w X : World} {A : Option Addr} {c : Nat} {all : List Tok} {fin : Int} {N p : Nat} {ts : List (Nat × Tr)} {j1 : Nat} {t1 : Tr} {a : Addr} {u : Value} (h : DS w A c all fin (-1) N ((j1, t1) :: ts) p (X.setCell a u)) (hN : N ≤ 100000) (k : Int) (s : ByteArray) (i : Int) :
    Calls Tryz.prog 40 #[.pointer (some ⟨w.heap.size, 0, none⟩), .int .i64 k, .string s, .int .i64 i, .slice (some ⟨X.heap.size, 0, none⟩) 1 1] ((X.setCell a u).alloc (.cells #[.int .i64 (j1 : Int)] 3)) (LGot w A c all fin (N + 1) ts ⟨k, s, i, row1 t1⟩ p) := by
  have hz : (X.setCell a u).heap.size = X.heap.size := by simp
  have := h.add1 hN k s i
  rw [hz] at this
  exact this
/-- what the loop over steps keeps -/
def StepD (w : World) (A : Option Addr) (c : Nat) (all : List Tok) (fin : Int) (p : Nat) (R : Rd) (N : Nat) (ts : List (Nat × Tr)) (v : Value) (wr : World) : Prop :=
  (∃ (j : Nat) (t : Tr) (q : Nat), v = .int .i64 (j : Int) ∧ DS w A c all fin (-1) N ((j, t) :: ts) q wr ∧ p ≤ q ∧ rdX (.step t) (all.drop q) = R) ∨ (∃ (x : Int) (l' : List Tok), v = .int .i64 x ∧ R = .error l' ∧ DBad w A c all fin (placeV l' fin) N wr)
set_option maxHeartbeats 12800000 in
set_option maxRecDepth 20000 in
theorem dpost_any (w : World) (A : Option Addr) (c : Nat) (all : List Tok) (fin : Int) (hcx : DCx w A c all fin) (p : Nat) (hle : p ≤ all.length) (HP : DC w A c all fin 65 #[.pointer (some ⟨w.heap.size, 0, none⟩)] p (rdX (.lv 8) (all.drop p))) :
    DC w A c all fin 41 #[.pointer (some ⟨w.heap.size, 0, none⟩)] p (rdX (.lv 7) (all.drop p)) := by
  intro N ts X hN hS
  have hroom := hcx.ok.room
  generalize hR : rdX (.lv 7) (all.drop p) = R
  rw [post_eq] at hR
  have HC : Hid (∀ N ts X, N ≤ 4096 → DS w A c all fin (-1) N ts p X → Calls Tryz.prog 65 #[.pointer (some ⟨w.heap.size, 0, none⟩)] X (fun e X' => ∃ x, e = .returned x ∧ StepD w A c all fin p R N ts x X')) := by
    rcases HP.read hle with ⟨l', hr, HC⟩ | ⟨t1, p1, hr, hp1, hpl1, HC⟩
    · rw [hr, bind_err] at hR
      exact Lib.hid fun N ts X hN hS => (HC.out N ts X hN hS).mono fun e X' ⟨v, h1, h2⟩ => ⟨_, h1, .inr ⟨v, l', rfl, hR.symm, h2⟩⟩
    · rw [hr, bind_ok] at hR
      exact Lib.hid fun N ts X hN hS => (HC.out N ts X hN hS).mono fun e X' ⟨j, h1, h2⟩ => ⟨_, h1, .inl ⟨j, t1, p1, rfl, h2, by omega, hR⟩⟩
  have HS0 := Lib.hid hS
  have HX := Lib.hid hcx
  clear hS hR hcx HP
  go_enter Tryz.func41, Tryz.ntmps41
  go_wp2_with (go_at_call 65; (with_reducible refine (HC.out _ _ _ hN HS0.out).mono ?_); rintro e w1 ⟨v1, rfl, h1⟩; have H1 := Lib.hid h1; clear h1)
  go_loopw [3, 4, 5] (fun lv kd st wr => Hid (StepD w A c all fin p R N ts lv wr)) (fun _ _ _ wr => dmeas all.length w.heap.size wr)
  case atStart => exact H1
  case round =>
    rename World => wr
    rcases hrel.out with ⟨j, t, q, rfl, hD, hq, hRq⟩ | ⟨x, l', rfl, hRe, hB⟩
    · have HS := Lib.hid hD
      have hqle := hD.le
      have HM : Hid (dmeas all.length w.heap.size wr = all.length + 1 - q) := Lib.hid hD.meas
      obtain ⟨y0, y1, y2, y3, g1, g3⟩ := hD.cells
      have hN1 : q < all.length → 1 ≤ N := fun hp => hD.pos hp
      clear hrel hD y0 y2 g3
      rw [step_eq] at hRq
      cases h0 : isM (all.drop q) [46] with
      | true =>
        have HI0 := DS.isH HX.out q ⟨#[46]⟩ (b := true) h0
        have hsv : stepV (all.drop q) = 8 := by simp [stepV, h0]
        have hql := isM_at h0
        have hN1' := hN1 hql
        have hw1 : IntKind.i64.wrap ((q : Int) + 1) = (q : Int) + 1 := IntWalk.i64_in _ (by omega)
        rw [hsv, if_neg (by decide), drop_one] at hRq
        clear hsv h0 y1 g1
        have hno : nameOfV 8 (all.drop (q + 1)) = nameV (all.drop (q + 1)) := rfl
        rw [hno] at hRq
        clear hno
        cases hh : hasK (all.drop (q + 1)) 3 with
        | false =>
          rw [nameV_no hh, bind_err] at hRq
          have HNM := DS.nameNoH HX.out (q + 1) hh
          have HRq := Lib.hid hRq
          clear hRq hh
          go_wp2_with (first | (go_at_call 39; (with_reducible refine (HI0.out _ _ _ HS.out).mono ?_); rintro e wn ⟨rfl, hs⟩; clear HS; have HS := Lib.hid hs; obtain ⟨x0, x1, x2, x3, f1, f3⟩ := hs.cells; clear hs) | (go_at_call 66; (with_reducible refine (HNM.out _ _ _ (HS.out.inc hql)).mono ?_); rintro e w3 ⟨rfl, hs3⟩; have HS3 := Lib.hid hs3; clear hs3) | (go_at_call 40; (with_reducible refine (HS3.out.add1 (by omega) _ _ _ _).mono ?_); rintro e w4 ⟨j4, rfl, hs4⟩; have HS4 := Lib.hid hs4; clear hs4))
          go_roundw
          case measure => rw [HM.out, HS4.out.meas]; omega
          case rel => exact Lib.hid (.inr ⟨j4, _, rfl, HRq.out.symm, HS4.out.relax (by omega)⟩)
        | true =>
          obtain ⟨u, r, hl, hk, hv⟩ := nameV_yes hh
          obtain ⟨hr, hql2⟩ := drop_cons hl
          rw [hv, bind_ok, hr] at hRq
          have HNM := DS.nameYesH HX.out (q + 1) hl hk
          have HRq := Lib.hid hRq
          clear hRq hh hv hl hr hk
          go_wp2_with (first | (go_at_call 39; (with_reducible refine (HI0.out _ _ _ HS.out).mono ?_); rintro e wn ⟨rfl, hs⟩; clear HS; have HS := Lib.hid hs; obtain ⟨x0, x1, x2, x3, f1, f3⟩ := hs.cells; clear hs) | (go_at_call 66; (with_reducible refine (HNM.out _ _ _ (HS.out.inc hql)).mono ?_); rintro e w3 ⟨rfl, hs3⟩; have HS3 := Lib.hid hs3; clear hs3) | (go_at_call 40; (with_reducible refine (HS3.out.add1 (by omega) _ _ _).mono ?_); rintro e w4 ⟨j4, rfl, hs4⟩; have HS4 := Lib.hid hs4; clear hs4))
          go_roundw
          case measure => rw [HM.out, HS4.out.meas]; omega
          case rel => exact Lib.hid (.inl ⟨j4, _, q + 1 + 1, rfl, HS4.out.relax (by omega), by omega, HRq.out⟩)
      | false =>
        cases h1 : isM (all.drop q) [35] with
        | true =>
          have HI0 := DS.isH HX.out q ⟨#[46]⟩ (b := false) h0
          have HI1 := DS.isH HX.out q ⟨#[35]⟩ (b := true) h1
          have hsv : stepV (all.drop q) = 9 := by simp [stepV, h0, h1]
          have hql := isM_at h1
          have hN1' := hN1 hql
          have hw1 : IntKind.i64.wrap ((q : Int) + 1) = (q : Int) + 1 := IntWalk.i64_in _ (by omega)
          rw [hsv, if_neg (by decide), drop_one] at hRq
          clear hsv h0 h1 y1 g1
          have hno : nameOfV 9 (all.drop (q + 1)) = nameV (all.drop (q + 1)) := rfl
          rw [hno] at hRq
          clear hno
          cases hh : hasK (all.drop (q + 1)) 3 with
          | false =>
            rw [nameV_no hh, bind_err] at hRq
            have HNM := DS.nameNoH HX.out (q + 1) hh
            have HRq := Lib.hid hRq
            clear hRq hh
            go_wp2_with (first | (go_at_call 39; (with_reducible refine (HI0.out _ _ _ HS.out).mono ?_); rintro e wn ⟨rfl, hs⟩; clear HS; have HS := Lib.hid hs; obtain ⟨x0, x1, x2, x3, f1, f3⟩ := hs.cells; clear hs) | (go_at_call 39; (with_reducible refine (HI1.out _ _ _ HS.out).mono ?_); rintro e wn ⟨rfl, hs⟩; clear HS; have HS := Lib.hid hs; obtain ⟨x0, x1, x2, x3, f1, f3⟩ := hs.cells; clear hs) | (go_at_call 66; (with_reducible refine (HNM.out _ _ _ (HS.out.inc hql)).mono ?_); rintro e w3 ⟨rfl, hs3⟩; have HS3 := Lib.hid hs3; clear hs3) | (go_at_call 40; (with_reducible refine (HS3.out.add1 (by omega) _ _ _ _).mono ?_); rintro e w4 ⟨j4, rfl, hs4⟩; have HS4 := Lib.hid hs4; clear hs4))
            go_roundw
            case measure => rw [HM.out, HS4.out.meas]; omega
            case rel => exact Lib.hid (.inr ⟨j4, _, rfl, HRq.out.symm, HS4.out.relax (by omega)⟩)
          | true =>
            obtain ⟨u, r, hl, hk, hv⟩ := nameV_yes hh
            obtain ⟨hr, hql2⟩ := drop_cons hl
            rw [hv, bind_ok, hr] at hRq
            have HNM := DS.nameYesH HX.out (q + 1) hl hk
            have HRq := Lib.hid hRq
            clear hRq hh hv hl hr hk
            go_wp2_with (first | (go_at_call 39; (with_reducible refine (HI0.out _ _ _ HS.out).mono ?_); rintro e wn ⟨rfl, hs⟩; clear HS; have HS := Lib.hid hs; obtain ⟨x0, x1, x2, x3, f1, f3⟩ := hs.cells; clear hs) | (go_at_call 39; (with_reducible refine (HI1.out _ _ _ HS.out).mono ?_); rintro e wn ⟨rfl, hs⟩; clear HS; have HS := Lib.hid hs; obtain ⟨x0, x1, x2, x3, f1, f3⟩ := hs.cells; clear hs) | (go_at_call 66; (with_reducible refine (HNM.out _ _ _ (HS.out.inc hql)).mono ?_); rintro e w3 ⟨rfl, hs3⟩; have HS3 := Lib.hid hs3; clear hs3) | (go_at_call 40; (with_reducible refine (HS3.out.add1 (by omega) _ _ _).mono ?_); rintro e w4 ⟨j4, rfl, hs4⟩; have HS4 := Lib.hid hs4; clear hs4))
            go_roundw
            case measure => rw [HM.out, HS4.out.meas]; omega
            case rel => exact Lib.hid (.inl ⟨j4, _, q + 1 + 1, rfl, HS4.out.relax (by omega), by omega, HRq.out⟩)
        | false =>
          cases h2 : isM (all.drop q) [45, 62] with
          | true =>
            have HI0 := DS.isH HX.out q ⟨#[46]⟩ (b := false) h0
            have HI1 := DS.isH HX.out q ⟨#[35]⟩ (b := false) h1
            have HI2 := DS.isH HX.out q ⟨#[45, 62]⟩ (b := true) h2
            have hsv : stepV (all.drop q) = 10 := by simp [stepV, h0, h1, h2]
            have hql := isM_at h2
            have hN1' := hN1 hql
            have hw1 : IntKind.i64.wrap ((q : Int) + 1) = (q : Int) + 1 := IntWalk.i64_in _ (by omega)
            rw [hsv, if_neg (by decide), drop_one] at hRq
            clear hsv h0 h1 h2 y1 g1
            have hno : nameOfV 10 (all.drop (q + 1)) = nameV (all.drop (q + 1)) := rfl
            rw [hno] at hRq
            clear hno
            cases hh : hasK (all.drop (q + 1)) 3 with
            | false =>
              rw [nameV_no hh, bind_err] at hRq
              have HNM := DS.nameNoH HX.out (q + 1) hh
              have HRq := Lib.hid hRq
              clear hRq hh
              go_wp2_with (first | (go_at_call 39; (with_reducible refine (HI0.out _ _ _ HS.out).mono ?_); rintro e wn ⟨rfl, hs⟩; clear HS; have HS := Lib.hid hs; obtain ⟨x0, x1, x2, x3, f1, f3⟩ := hs.cells; clear hs) | (go_at_call 39; (with_reducible refine (HI1.out _ _ _ HS.out).mono ?_); rintro e wn ⟨rfl, hs⟩; clear HS; have HS := Lib.hid hs; obtain ⟨x0, x1, x2, x3, f1, f3⟩ := hs.cells; clear hs) | (go_at_call 39; (with_reducible refine (HI2.out _ _ _ HS.out).mono ?_); rintro e wn ⟨rfl, hs⟩; clear HS; have HS := Lib.hid hs; obtain ⟨x0, x1, x2, x3, f1, f3⟩ := hs.cells; clear hs) | (go_at_call 66; (with_reducible refine (HNM.out _ _ _ (HS.out.inc hql)).mono ?_); rintro e w3 ⟨rfl, hs3⟩; have HS3 := Lib.hid hs3; clear hs3) | (go_at_call 40; (with_reducible refine (HS3.out.add1 (by omega) _ _ _ _).mono ?_); rintro e w4 ⟨j4, rfl, hs4⟩; have HS4 := Lib.hid hs4; clear hs4))
              go_roundw
              case measure => rw [HM.out, HS4.out.meas]; omega
              case rel => exact Lib.hid (.inr ⟨j4, _, rfl, HRq.out.symm, HS4.out.relax (by omega)⟩)
            | true =>
              obtain ⟨u, r, hl, hk, hv⟩ := nameV_yes hh
              obtain ⟨hr, hql2⟩ := drop_cons hl
              rw [hv, bind_ok, hr] at hRq
              have HNM := DS.nameYesH HX.out (q + 1) hl hk
              have HRq := Lib.hid hRq
              clear hRq hh hv hl hr hk
              go_wp2_with (first | (go_at_call 39; (with_reducible refine (HI0.out _ _ _ HS.out).mono ?_); rintro e wn ⟨rfl, hs⟩; clear HS; have HS := Lib.hid hs; obtain ⟨x0, x1, x2, x3, f1, f3⟩ := hs.cells; clear hs) | (go_at_call 39; (with_reducible refine (HI1.out _ _ _ HS.out).mono ?_); rintro e wn ⟨rfl, hs⟩; clear HS; have HS := Lib.hid hs; obtain ⟨x0, x1, x2, x3, f1, f3⟩ := hs.cells; clear hs) | (go_at_call 39; (with_reducible refine (HI2.out _ _ _ HS.out).mono ?_); rintro e wn ⟨rfl, hs⟩; clear HS; have HS := Lib.hid hs; obtain ⟨x0, x1, x2, x3, f1, f3⟩ := hs.cells; clear hs) | (go_at_call 66; (with_reducible refine (HNM.out _ _ _ (HS.out.inc hql)).mono ?_); rintro e w3 ⟨rfl, hs3⟩; have HS3 := Lib.hid hs3; clear hs3) | (go_at_call 40; (with_reducible refine (HS3.out.add1 (by omega) _ _ _).mono ?_); rintro e w4 ⟨j4, rfl, hs4⟩; have HS4 := Lib.hid hs4; clear hs4))
              go_roundw
              case measure => rw [HM.out, HS4.out.meas]; omega
              case rel => exact Lib.hid (.inl ⟨j4, _, q + 1 + 1, rfl, HS4.out.relax (by omega), by omega, HRq.out⟩)
          | false =>
            cases h3 : isM (all.drop q) [94] with
            | true =>
              have HI0 := DS.isH HX.out q ⟨#[46]⟩ (b := false) h0
              have HI1 := DS.isH HX.out q ⟨#[35]⟩ (b := false) h1
              have HI2 := DS.isH HX.out q ⟨#[45, 62]⟩ (b := false) h2
              have HI3 := DS.isH HX.out q ⟨#[94]⟩ (b := true) h3
              have hsv : stepV (all.drop q) = 11 := by simp [stepV, h0, h1, h2, h3]
              have hql := isM_at h3
              have hN1' := hN1 hql
              have hw1 : IntKind.i64.wrap ((q : Int) + 1) = (q : Int) + 1 := IntWalk.i64_in _ (by omega)
              rw [hsv, if_neg (by decide), drop_one] at hRq
              clear hsv h0 h1 h2 h3 y1 g1
              have hno : nameOfV 11 (all.drop (q + 1)) = .ok (ByteArray.empty, all.drop (q + 1)) := rfl
              rw [hno, bind_ok] at hRq
              have HRq := Lib.hid hRq
              clear hRq hno
              go_wp2_with (first | (go_at_call 39; (with_reducible refine (HI0.out _ _ _ HS.out).mono ?_); rintro e wn ⟨rfl, hs⟩; clear HS; have HS := Lib.hid hs; obtain ⟨x0, x1, x2, x3, f1, f3⟩ := hs.cells; clear hs) | (go_at_call 39; (with_reducible refine (HI1.out _ _ _ HS.out).mono ?_); rintro e wn ⟨rfl, hs⟩; clear HS; have HS := Lib.hid hs; obtain ⟨x0, x1, x2, x3, f1, f3⟩ := hs.cells; clear hs) | (go_at_call 39; (with_reducible refine (HI2.out _ _ _ HS.out).mono ?_); rintro e wn ⟨rfl, hs⟩; clear HS; have HS := Lib.hid hs; obtain ⟨x0, x1, x2, x3, f1, f3⟩ := hs.cells; clear hs) | (go_at_call 39; (with_reducible refine (HI3.out _ _ _ HS.out).mono ?_); rintro e wn ⟨rfl, hs⟩; clear HS; have HS := Lib.hid hs; obtain ⟨x0, x1, x2, x3, f1, f3⟩ := hs.cells; clear hs) | (go_at_call 40; (with_reducible refine ((HS.out.inc hql).add1S (by omega) _ _ _).mono ?_); rintro e w4 ⟨j4, rfl, hs4⟩; have HS4 := Lib.hid hs4; clear hs4))
              go_roundw
              case measure => rw [HM.out, HS4.out.meas]; omega
              case rel => exact Lib.hid (.inl ⟨j4, _, q + 1, rfl, HS4.out.relax (by omega), by omega, HRq.out⟩)
            | false =>
              cases h4 : isM (all.drop q) [63] with
              | true =>
                have HI0 := DS.isH HX.out q ⟨#[46]⟩ (b := false) h0
                have HI1 := DS.isH HX.out q ⟨#[35]⟩ (b := false) h1
                have HI2 := DS.isH HX.out q ⟨#[45, 62]⟩ (b := false) h2
                have HI3 := DS.isH HX.out q ⟨#[94]⟩ (b := false) h3
                have HI4 := DS.isH HX.out q ⟨#[63]⟩ (b := true) h4
                have hsv : stepV (all.drop q) = 12 := by simp [stepV, h0, h1, h2, h3, h4]
                have hql := isM_at h4
                have hN1' := hN1 hql
                have hw1 : IntKind.i64.wrap ((q : Int) + 1) = (q : Int) + 1 := IntWalk.i64_in _ (by omega)
                rw [hsv, if_neg (by decide), drop_one] at hRq
                clear hsv h0 h1 h2 h3 h4 y1 g1
                have hno : nameOfV 12 (all.drop (q + 1)) = nameV (all.drop (q + 1)) := rfl
                rw [hno] at hRq
                clear hno
                cases hh : hasK (all.drop (q + 1)) 3 with
                | false =>
                  rw [nameV_no hh, bind_err] at hRq
                  have HNM := DS.nameNoH HX.out (q + 1) hh
                  have HRq := Lib.hid hRq
                  clear hRq hh
                  go_wp2_with (first | (go_at_call 39; (with_reducible refine (HI0.out _ _ _ HS.out).mono ?_); rintro e wn ⟨rfl, hs⟩; clear HS; have HS := Lib.hid hs; obtain ⟨x0, x1, x2, x3, f1, f3⟩ := hs.cells; clear hs) | (go_at_call 39; (with_reducible refine (HI1.out _ _ _ HS.out).mono ?_); rintro e wn ⟨rfl, hs⟩; clear HS; have HS := Lib.hid hs; obtain ⟨x0, x1, x2, x3, f1, f3⟩ := hs.cells; clear hs) | (go_at_call 39; (with_reducible refine (HI2.out _ _ _ HS.out).mono ?_); rintro e wn ⟨rfl, hs⟩; clear HS; have HS := Lib.hid hs; obtain ⟨x0, x1, x2, x3, f1, f3⟩ := hs.cells; clear hs) | (go_at_call 39; (with_reducible refine (HI3.out _ _ _ HS.out).mono ?_); rintro e wn ⟨rfl, hs⟩; clear HS; have HS := Lib.hid hs; obtain ⟨x0, x1, x2, x3, f1, f3⟩ := hs.cells; clear hs) | (go_at_call 39; (with_reducible refine (HI4.out _ _ _ HS.out).mono ?_); rintro e wn ⟨rfl, hs⟩; clear HS; have HS := Lib.hid hs; obtain ⟨x0, x1, x2, x3, f1, f3⟩ := hs.cells; clear hs) | (go_at_call 66; (with_reducible refine (HNM.out _ _ _ (HS.out.inc hql)).mono ?_); rintro e w3 ⟨rfl, hs3⟩; have HS3 := Lib.hid hs3; clear hs3) | (go_at_call 40; (with_reducible refine (HS3.out.add1 (by omega) _ _ _ _).mono ?_); rintro e w4 ⟨j4, rfl, hs4⟩; have HS4 := Lib.hid hs4; clear hs4))
                  go_roundw
                  case measure => rw [HM.out, HS4.out.meas]; omega
                  case rel => exact Lib.hid (.inr ⟨j4, _, rfl, HRq.out.symm, HS4.out.relax (by omega)⟩)
                | true =>
                  obtain ⟨u, r, hl, hk, hv⟩ := nameV_yes hh
                  obtain ⟨hr, hql2⟩ := drop_cons hl
                  rw [hv, bind_ok, hr] at hRq
                  have HNM := DS.nameYesH HX.out (q + 1) hl hk
                  have HRq := Lib.hid hRq
                  clear hRq hh hv hl hr hk
                  go_wp2_with (first | (go_at_call 39; (with_reducible refine (HI0.out _ _ _ HS.out).mono ?_); rintro e wn ⟨rfl, hs⟩; clear HS; have HS := Lib.hid hs; obtain ⟨x0, x1, x2, x3, f1, f3⟩ := hs.cells; clear hs) | (go_at_call 39; (with_reducible refine (HI1.out _ _ _ HS.out).mono ?_); rintro e wn ⟨rfl, hs⟩; clear HS; have HS := Lib.hid hs; obtain ⟨x0, x1, x2, x3, f1, f3⟩ := hs.cells; clear hs) | (go_at_call 39; (with_reducible refine (HI2.out _ _ _ HS.out).mono ?_); rintro e wn ⟨rfl, hs⟩; clear HS; have HS := Lib.hid hs; obtain ⟨x0, x1, x2, x3, f1, f3⟩ := hs.cells; clear hs) | (go_at_call 39; (with_reducible refine (HI3.out _ _ _ HS.out).mono ?_); rintro e wn ⟨rfl, hs⟩; clear HS; have HS := Lib.hid hs; obtain ⟨x0, x1, x2, x3, f1, f3⟩ := hs.cells; clear hs) | (go_at_call 39; (with_reducible refine (HI4.out _ _ _ HS.out).mono ?_); rintro e wn ⟨rfl, hs⟩; clear HS; have HS := Lib.hid hs; obtain ⟨x0, x1, x2, x3, f1, f3⟩ := hs.cells; clear hs) | (go_at_call 66; (with_reducible refine (HNM.out _ _ _ (HS.out.inc hql)).mono ?_); rintro e w3 ⟨rfl, hs3⟩; have HS3 := Lib.hid hs3; clear hs3) | (go_at_call 40; (with_reducible refine (HS3.out.add1 (by omega) _ _ _).mono ?_); rintro e w4 ⟨j4, rfl, hs4⟩; have HS4 := Lib.hid hs4; clear hs4))
                  go_roundw
                  case measure => rw [HM.out, HS4.out.meas]; omega
                  case rel => exact Lib.hid (.inl ⟨j4, _, q + 1 + 1, rfl, HS4.out.relax (by omega), by omega, HRq.out⟩)
              | false =>
                cases h5 : isM (all.drop q) [33, 33] with
                | true =>
                  have HI0 := DS.isH HX.out q ⟨#[46]⟩ (b := false) h0
                  have HI1 := DS.isH HX.out q ⟨#[35]⟩ (b := false) h1
                  have HI2 := DS.isH HX.out q ⟨#[45, 62]⟩ (b := false) h2
                  have HI3 := DS.isH HX.out q ⟨#[94]⟩ (b := false) h3
                  have HI4 := DS.isH HX.out q ⟨#[63]⟩ (b := false) h4
                  have HI5 := DS.isH HX.out q ⟨#[33, 33]⟩ (b := true) h5
                  have hsv : stepV (all.drop q) = 13 := by simp [stepV, h0, h1, h2, h3, h4, h5]
                  have hql := isM_at h5
                  have hN1' := hN1 hql
                  have hw1 : IntKind.i64.wrap ((q : Int) + 1) = (q : Int) + 1 := IntWalk.i64_in _ (by omega)
                  rw [hsv, if_neg (by decide), drop_one] at hRq
                  clear hsv h0 h1 h2 h3 h4 h5 y1 g1
                  have hno : nameOfV 13 (all.drop (q + 1)) = nameV (all.drop (q + 1)) := rfl
                  rw [hno] at hRq
                  clear hno
                  cases hh : hasK (all.drop (q + 1)) 3 with
                  | false =>
                    rw [nameV_no hh, bind_err] at hRq
                    have HNM := DS.nameNoH HX.out (q + 1) hh
                    have HRq := Lib.hid hRq
                    clear hRq hh
                    go_wp2_with (first | (go_at_call 39; (with_reducible refine (HI0.out _ _ _ HS.out).mono ?_); rintro e wn ⟨rfl, hs⟩; clear HS; have HS := Lib.hid hs; obtain ⟨x0, x1, x2, x3, f1, f3⟩ := hs.cells; clear hs) | (go_at_call 39; (with_reducible refine (HI1.out _ _ _ HS.out).mono ?_); rintro e wn ⟨rfl, hs⟩; clear HS; have HS := Lib.hid hs; obtain ⟨x0, x1, x2, x3, f1, f3⟩ := hs.cells; clear hs) | (go_at_call 39; (with_reducible refine (HI2.out _ _ _ HS.out).mono ?_); rintro e wn ⟨rfl, hs⟩; clear HS; have HS := Lib.hid hs; obtain ⟨x0, x1, x2, x3, f1, f3⟩ := hs.cells; clear hs) | (go_at_call 39; (with_reducible refine (HI3.out _ _ _ HS.out).mono ?_); rintro e wn ⟨rfl, hs⟩; clear HS; have HS := Lib.hid hs; obtain ⟨x0, x1, x2, x3, f1, f3⟩ := hs.cells; clear hs) | (go_at_call 39; (with_reducible refine (HI4.out _ _ _ HS.out).mono ?_); rintro e wn ⟨rfl, hs⟩; clear HS; have HS := Lib.hid hs; obtain ⟨x0, x1, x2, x3, f1, f3⟩ := hs.cells; clear hs) | (go_at_call 39; (with_reducible refine (HI5.out _ _ _ HS.out).mono ?_); rintro e wn ⟨rfl, hs⟩; clear HS; have HS := Lib.hid hs; obtain ⟨x0, x1, x2, x3, f1, f3⟩ := hs.cells; clear hs) | (go_at_call 66; (with_reducible refine (HNM.out _ _ _ (HS.out.inc hql)).mono ?_); rintro e w3 ⟨rfl, hs3⟩; have HS3 := Lib.hid hs3; clear hs3) | (go_at_call 40; (with_reducible refine (HS3.out.add1 (by omega) _ _ _ _).mono ?_); rintro e w4 ⟨j4, rfl, hs4⟩; have HS4 := Lib.hid hs4; clear hs4))
                    go_roundw
                    case measure => rw [HM.out, HS4.out.meas]; omega
                    case rel => exact Lib.hid (.inr ⟨j4, _, rfl, HRq.out.symm, HS4.out.relax (by omega)⟩)
                  | true =>
                    obtain ⟨u, r, hl, hk, hv⟩ := nameV_yes hh
                    obtain ⟨hr, hql2⟩ := drop_cons hl
                    rw [hv, bind_ok, hr] at hRq
                    have HNM := DS.nameYesH HX.out (q + 1) hl hk
                    have HRq := Lib.hid hRq
                    clear hRq hh hv hl hr hk
                    go_wp2_with (first | (go_at_call 39; (with_reducible refine (HI0.out _ _ _ HS.out).mono ?_); rintro e wn ⟨rfl, hs⟩; clear HS; have HS := Lib.hid hs; obtain ⟨x0, x1, x2, x3, f1, f3⟩ := hs.cells; clear hs) | (go_at_call 39; (with_reducible refine (HI1.out _ _ _ HS.out).mono ?_); rintro e wn ⟨rfl, hs⟩; clear HS; have HS := Lib.hid hs; obtain ⟨x0, x1, x2, x3, f1, f3⟩ := hs.cells; clear hs) | (go_at_call 39; (with_reducible refine (HI2.out _ _ _ HS.out).mono ?_); rintro e wn ⟨rfl, hs⟩; clear HS; have HS := Lib.hid hs; obtain ⟨x0, x1, x2, x3, f1, f3⟩ := hs.cells; clear hs) | (go_at_call 39; (with_reducible refine (HI3.out _ _ _ HS.out).mono ?_); rintro e wn ⟨rfl, hs⟩; clear HS; have HS := Lib.hid hs; obtain ⟨x0, x1, x2, x3, f1, f3⟩ := hs.cells; clear hs) | (go_at_call 39; (with_reducible refine (HI4.out _ _ _ HS.out).mono ?_); rintro e wn ⟨rfl, hs⟩; clear HS; have HS := Lib.hid hs; obtain ⟨x0, x1, x2, x3, f1, f3⟩ := hs.cells; clear hs) | (go_at_call 39; (with_reducible refine (HI5.out _ _ _ HS.out).mono ?_); rintro e wn ⟨rfl, hs⟩; clear HS; have HS := Lib.hid hs; obtain ⟨x0, x1, x2, x3, f1, f3⟩ := hs.cells; clear hs) | (go_at_call 66; (with_reducible refine (HNM.out _ _ _ (HS.out.inc hql)).mono ?_); rintro e w3 ⟨rfl, hs3⟩; have HS3 := Lib.hid hs3; clear hs3) | (go_at_call 40; (with_reducible refine (HS3.out.add1 (by omega) _ _ _).mono ?_); rintro e w4 ⟨j4, rfl, hs4⟩; have HS4 := Lib.hid hs4; clear hs4))
                    go_roundw
                    case measure => rw [HM.out, HS4.out.meas]; omega
                    case rel => exact Lib.hid (.inl ⟨j4, _, q + 1 + 1, rfl, HS4.out.relax (by omega), by omega, HRq.out⟩)
                | false =>
                  have HI0 := DS.isH HX.out q ⟨#[46]⟩ (b := false) h0
                  have HI1 := DS.isH HX.out q ⟨#[35]⟩ (b := false) h1
                  have HI2 := DS.isH HX.out q ⟨#[45, 62]⟩ (b := false) h2
                  have HI3 := DS.isH HX.out q ⟨#[94]⟩ (b := false) h3
                  have HI4 := DS.isH HX.out q ⟨#[63]⟩ (b := false) h4
                  have HI5 := DS.isH HX.out q ⟨#[33, 33]⟩ (b := false) h5
                  have hsv : stepV (all.drop q) = 0 := by simp [stepV, h0, h1, h2, h3, h4, h5]
                  rw [hsv, if_pos rfl] at hRq
                  subst hRq
                  clear hsv h0 h1 h2 h3 h4 h5 y1 g1
                  go_wp2_with (first | (go_at_call 39; (with_reducible refine (HI0.out _ _ _ HS.out).mono ?_); rintro e wn ⟨rfl, hs⟩; clear HS; have HS := Lib.hid hs; obtain ⟨x0, x1, x2, x3, f1, f3⟩ := hs.cells; clear hs) | (go_at_call 39; (with_reducible refine (HI1.out _ _ _ HS.out).mono ?_); rintro e wn ⟨rfl, hs⟩; clear HS; have HS := Lib.hid hs; obtain ⟨x0, x1, x2, x3, f1, f3⟩ := hs.cells; clear hs) | (go_at_call 39; (with_reducible refine (HI2.out _ _ _ HS.out).mono ?_); rintro e wn ⟨rfl, hs⟩; clear HS; have HS := Lib.hid hs; obtain ⟨x0, x1, x2, x3, f1, f3⟩ := hs.cells; clear hs) | (go_at_call 39; (with_reducible refine (HI3.out _ _ _ HS.out).mono ?_); rintro e wn ⟨rfl, hs⟩; clear HS; have HS := Lib.hid hs; obtain ⟨x0, x1, x2, x3, f1, f3⟩ := hs.cells; clear hs) | (go_at_call 39; (with_reducible refine (HI4.out _ _ _ HS.out).mono ?_); rintro e wn ⟨rfl, hs⟩; clear HS; have HS := Lib.hid hs; obtain ⟨x0, x1, x2, x3, f1, f3⟩ := hs.cells; clear hs) | (go_at_call 39; (with_reducible refine (HI5.out _ _ _ HS.out).mono ?_); rintro e wn ⟨rfl, hs⟩; clear HS; have HS := Lib.hid hs; obtain ⟨x0, x1, x2, x3, f1, f3⟩ := hs.cells; clear hs))
                  go_ret
                  exact ⟨q, rfl, hqle, j, rfl, HS.out⟩
    · have y3 := hB.cell3
      have q1 : decide (placeV l' fin < 0) = false := decide_eq_false (by have := hB.1; omega)
      have HBx := Lib.hid hB
      subst hRe
      clear hB hrel
      go_wp2_with fail
      go_ret
      exact ⟨x, rfl, HBx.out⟩
end Go.Proofs.YtckfcpiedainfaaGreatDoor

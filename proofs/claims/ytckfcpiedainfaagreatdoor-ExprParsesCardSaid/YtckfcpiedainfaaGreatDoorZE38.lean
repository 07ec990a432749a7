/-
  WALKS over the document's reader: prim.
-/
import Derived.Test.YtckfcpiedainfaaGreatDoorZE37
namespace Go.Proofs.YtckfcpiedainfaaGreatDoor
open Go Go.RowKit Go.Sort
set_option linter.unusedVariables false
theorem call_at {t : Tok} {r : List Tok} (h : 4 ≤ t.kind) : ∀ (k : Nat) (hk : k < 6), callWords[k]'hk = t.text.data.toList → callV (t :: r) = 14 + (k : Int) := fun k hk e => by
  have hM : ∀ q, isM (t :: r) q = (t.text.data.toList == q) := fun q => isM_high h q
  unfold callV
  simp only [hM]
  rw [← e]
  match k, hk with
  | 0, _ => rfl
  | 1, _ => rfl
  | 2, _ => rfl
  | 3, _ => rfl
  | 4, _ => rfl
  | 5, _ => rfl
theorem loop_at {t : Tok} {r : List Tok} (h : 4 ≤ t.kind) : ∀ (k : Nat) (hk : k < 4), loopWords[k]'hk = t.text.data.toList → callV (t :: r) = 0 ∧ loopV (t :: r) = 31 + (k : Int) := fun k hk e => by
  have hM : ∀ q, isM (t :: r) q = (t.text.data.toList == q) := fun q => isM_high h q
  unfold callV loopV
  simp only [hM]
  rw [← e]
  match k, hk with
  | 0, _ => exact ⟨rfl, rfl⟩
  | 1, _ => exact ⟨rfl, rfl⟩
  | 2, _ => exact ⟨rfl, rfl⟩
  | 3, _ => exact ⟨rfl, rfl⟩
theorem word_at {t : Tok} {r : List Tok} (h : 4 ≤ t.kind) (h1 : ∀ (k : Nat) (hk : k < 6), callWords[k]'hk ≠ t.text.data.toList) (h2 : ∀ (k : Nat) (hk : k < 4), loopWords[k]'hk ≠ t.text.data.toList) : callV (t :: r) = 0 ∧ loopV (t :: r) = 0 := by
  have hM : ∀ q, q ≠ t.text.data.toList → isM (t :: r) q = false := fun q hq => by rw [isM_high h]; simpa using Ne.symm hq
  have a0 := hM _ (h1 0 (by decide))
  have a1 := hM _ (h1 1 (by decide))
  have a2 := hM _ (h1 2 (by decide))
  have a3 := hM _ (h1 3 (by decide))
  have a4 := hM _ (h1 4 (by decide))
  have a5 := hM _ (h1 5 (by decide))
  have b0 := hM _ (h2 0 (by decide))
  have b1 := hM _ (h2 1 (by decide))
  have b2 := hM _ (h2 2 (by decide))
  have b3 := hM _ (h2 3 (by decide))
  simp only [callWords, loopWords, List.getElem_cons_zero, List.getElem_cons_succ] at a0 a1 a2 a3 a4 a5 b0 b1 b2 b3
  exact ⟨by simp [callV, a0, a1, a2, a3, a4, a5], by simp [loopV, b0, b1, b2, b3]⟩
set_option maxHeartbeats 3200000 in
set_option maxRecDepth 20000 in
theorem dprim_end (w : World) (A : Option Addr) (c : Nat) (all : List Tok) (fin : Int) (hcx : DCx w A c all fin) (p : Nat) (hp : ¬ p < all.length) :
    DC w A c all fin 65 #[.pointer (some ⟨w.heap.size, 0, none⟩)] p (.error (all.drop p)) := by
  intro N ts X hN hS
  have hroom := hcx.ok.room
  have hle := hS.le
  have HT : Hid (∀ Y, Below X.heap.size X Y → Calls Tryz.prog 22 #[.pointer (some ⟨w.heap.size, 0, none⟩)] Y (fun e X' => e = .returned (.int .i64 0) ∧ DS w A c all fin (placeV (all.drop p) fin) N ts p X')) := Lib.hid fun Y hY => dstop_any w A c all fin hcx N p ts Y (hS.after hY)
  have h0 := place_nn hcx p
  obtain ⟨x0, x1, x2, x3, f1, f3⟩ := hS.cells
  have q1 : decide ((all.length : Int) ≤ (p : Int)) = true := decide_eq_true (by omega)
  clear hS hcx x2 f1 f3
  go_enter Tryz.func65, Tryz.ntmps65
  go_wp2_with fail
  go_quiet (fail)
  have HBq : Hid (Below X.heap.size X (X.drewN nq)) := Lib.hid (below_drewN (Below.refl _ _) nq)
  clear x0 x1 x3
  generalize X.drewN nq = X1 at HBq ⊢
  go_wp2_with (go_at_call 22; (with_reducible refine (HT.out _ HBq.out).mono ?_); rintro e w2 ⟨rfl, hs2⟩; have HS2 := Lib.hid hs2; clear hs2)
  go_ret
  exact ⟨0, rfl, h0, p, HS2.out.less⟩
set_option maxHeartbeats 25600000 in
set_option maxRecDepth 20000 in
theorem dprim_tok (w : World) (A : Option Addr) (c : Nat) (all : List Tok) (fin : Int) (hcx : DCx w A c all fin) (p : Nat) (t : Tok) (ht : all[p]? = some t) (V : Rd) (hV : V = primV rdX (all.drop p))
    (HD : ∀ q, p + 1 ≤ q → q ≤ all.length → DC w A c all fin 21 #[.pointer (some ⟨w.heap.size, 0, none⟩), .int .i64 1] q (rdX (.lv 1) (all.drop q))) :
    DC w A c all fin 65 #[.pointer (some ⟨w.heap.size, 0, none⟩)] p V := by
  intro N ts X hN hS
  have hroom := hcx.ok.room
  have hp := (List.getElem?_eq_some_iff.1 ht).1
  have h1N := hS.pos hp
  have hl := drop_head ht
  rw [hl] at hV
  have hkd := hcx.ok.kinds t (List.mem_of_getElem? ht)
  have hint := hcx.ok.ints t (List.mem_of_getElem? ht)
  have hw1 : IntKind.i64.wrap ((p : Int) + 1) = (p : Int) + 1 := IntWalk.i64_in _ (by omega)
  have HMB : Hid (∀ (s : ByteArray) q N X, DBad w A c all fin q N X → Calls Tryz.prog 84 #[.pointer (some ⟨w.heap.size, 0, none⟩), .string s] X (fun e X' => e = .returned (.tuple #[]) ∧ DBad w A c all fin q N X')) := Lib.hid fun s q N X h => dmustB_any w A c all fin q N X h s
  have HLB : Hid (∀ (n : Int) q N X, DBad w A c all fin q N X → Calls Tryz.prog 21 #[.pointer (some ⟨w.heap.size, 0, none⟩), .int .i64 n] X (fun e X' => e = .returned (.int .i64 0) ∧ DBad w A c all fin q N X')) := Lib.hid fun n q N X h => dlevelB_any w A c all fin q N X h n
  obtain ⟨b, rfl, d0, d1, d2, d3⟩ := hcx.tok hS.bel ht
  obtain ⟨x0, x1, x2, x3, f1, f3⟩ := hS.cells
  have q1 : decide ((all.length : Int) ≤ (p : Int)) = false := decide_eq_false (by omega)
  have HS0 := Lib.hid hS
  have HSX : Hid (∀ Y, Below X.heap.size X Y → Y.cell? ⟨w.heap.size, 0, none⟩ = some (.slice (some ⟨b, 0, none⟩) all.length c) ∧ Y.cell? ⟨w.heap.size, 1, none⟩ = some (.int .i64 p) ∧ Y.cell? ⟨b, p * 4, none⟩ = some (.int .i64 t.kind) ∧ Y.cell? ⟨b, p * 4 + 1, none⟩ = some (.string t.text) ∧ Y.cell? ⟨b, p * 4 + 2, none⟩ = some (.int .i64 t.int) ∧ Y.cell? ⟨b, p * 4 + 3, none⟩ = some (.int .i64 t.place)) := Lib.hid fun Y hY => ⟨(hY.cell (World.block_lt_of_cell? X _ x0)).trans x0, (hY.cell (World.block_lt_of_cell? X _ x1)).trans x1, (hY.cell (World.block_lt_of_cell? X _ d0)).trans d0, (hY.cell (World.block_lt_of_cell? X _ d1)).trans d1, (hY.cell (World.block_lt_of_cell? X _ d2)).trans d2, (hY.cell (World.block_lt_of_cell? X _ d3)).trans d3⟩
  clear hS x2 f1 f3 d0 d1 d2 d3
  go_enter Tryz.func65, Tryz.ntmps65
  go_wp2_with fail
  go_quiet (fail)
  have HBq : Hid (Below X.heap.size X (X.drewN nq)) := Lib.hid (below_drewN (Below.refl _ _) nq)
  clear x0 x1 x3
  generalize X.drewN nq = X1 at HBq ⊢
  go_upto_region 3 with (fail)
  have hix : p < all.length := hp
  refine wp_region_held_drew (S := fun Y => Below X.heap.size X Y) (by kernel_rfl) (HBq.out.trans ((drew1_below X1).mono HBq.out.size)) (fun hHeld => ?q00)
  case q00 =>
    show wpAnyH _ _ _ _ _ 12 (Array.replicate 12 false) _ X1.drew
    have HBd : Hid (Below X.heap.size X X1.drew) := Lib.hid hHeld
    generalize X1.drew = X2 at HBd hHeld ⊢
    refine wpAnyH_take (i := 0) (v := (.pointer (some ⟨w.heap.size, 0, none⟩))) rfl (by kernel_rfl) (by kernel_rfl) (by kernel_rfl) (fun _ _ _ h => h) (Or.inl ⟨by rfl, ?y0⟩) (by assumption) ?q0
    case y0 => (intro w5 hSw; go_simp <;> with_reducible rfl)
    case q0 =>
      (try simp only [Act.put]); (try simp only [List.setIfInBounds_toArray])
      refine wpAnyH_take (i := 1) (v := (.pointer (some ⟨w.heap.size, 0, none⟩))) rfl (by kernel_rfl) (by kernel_rfl) (by kernel_rfl) (fun _ _ _ h => h) (Or.inl ⟨by rfl, ?y1⟩) (by assumption) ?q1
      case y1 => (intro w5 hSw; go_simp <;> with_reducible rfl)
      case q1 =>
        (try simp only [Act.put]); (try simp only [List.setIfInBounds_toArray])
        refine wpAnyH_take (i := 2) (v := (.pointer (some ⟨w.heap.size, 0, none⟩))) rfl (by kernel_rfl) (by kernel_rfl) (by kernel_rfl) (fun _ _ _ h => h) (Or.inl ⟨by rfl, ?y2⟩) (by assumption) ?q2
        case y2 => (intro w5 hSw; go_simp <;> with_reducible rfl)
        case q2 =>
          (try simp only [Act.put]); (try simp only [List.setIfInBounds_toArray])
          refine wpAnyH_take (i := 3) (v := (.slice (some ⟨b, 0, none⟩) all.length c)) rfl (by kernel_rfl) (by kernel_rfl) (by kernel_rfl) (fun _ _ _ h => h) (Or.inl ⟨by rfl, ?y3⟩) (by assumption) ?q3
          case y3 => (intro w5 hSw; obtain ⟨e0, e1, e2, e3, e4, e5⟩ := HSX.out _ hSw; go_simp <;> with_reducible rfl)
          case q3 =>
            (try simp only [Act.put]); (try simp only [List.setIfInBounds_toArray])
            refine wpAnyH_take (i := 4) (v := (.pointer (some ⟨w.heap.size, 0, none⟩))) rfl (by kernel_rfl) (by kernel_rfl) (by kernel_rfl) (fun _ _ _ h => h) (Or.inl ⟨by rfl, ?y4⟩) (by assumption) ?q4
            case y4 => (intro w5 hSw; go_simp <;> with_reducible rfl)
            case q4 =>
              (try simp only [Act.put]); (try simp only [List.setIfInBounds_toArray])
              refine wpAnyH_take (i := 5) (v := (.pointer (some ⟨w.heap.size, 0, none⟩))) rfl (by kernel_rfl) (by kernel_rfl) (by kernel_rfl) (fun _ _ _ h => h) (Or.inl ⟨by rfl, ?y5⟩) (by assumption) ?q5
              case y5 => (intro w5 hSw; go_simp <;> with_reducible rfl)
              case q5 =>
                (try simp only [Act.put]); (try simp only [List.setIfInBounds_toArray])
                refine wpAnyH_take (i := 6) (v := (.pointer (some ⟨w.heap.size, 1, none⟩))) rfl (by kernel_rfl) (by kernel_rfl) (by kernel_rfl) (fun _ _ _ h => h) (Or.inl ⟨by rfl, ?y6⟩) (by assumption) ?q6
                case y6 => (intro w5 hSw; go_simp <;> with_reducible rfl)
                case q6 =>
                  (try simp only [Act.put]); (try simp only [List.setIfInBounds_toArray])
                  refine wpAnyH_take (i := 7) (v := (.int .i64 (p : Int))) rfl (by kernel_rfl) (by kernel_rfl) (by kernel_rfl) (fun _ _ _ h => h) (Or.inl ⟨by rfl, ?y7⟩) (by assumption) ?q7
                  case y7 => (intro w5 hSw; obtain ⟨e0, e1, e2, e3, e4, e5⟩ := HSX.out _ hSw; go_simp <;> with_reducible rfl)
                  case q7 =>
                    (try simp only [Act.put]); (try simp only [List.setIfInBounds_toArray])
                    refine wpAnyH_take (i := 8) (v := (.pointer (some ⟨b, p * 4, none⟩))) rfl (by kernel_rfl) (by kernel_rfl) (by kernel_rfl) (fun _ _ _ h => h) (Or.inl ⟨by rfl, ?y8⟩) (by assumption) ?q8
                    case y8 => (intro w5 hSw; go_simp <;> with_reducible rfl)
                    case q8 =>
                      (try simp only [Act.put]); (try simp only [List.setIfInBounds_toArray])
                      refine wpAnyH_take (i := 9) (v := (.agg #[.int .i64 t.kind, .string t.text, .int .i64 t.int, .int .i64 t.place])) rfl (by kernel_rfl) (by kernel_rfl) (by kernel_rfl) (fun _ _ _ h => h) (Or.inl ⟨by rfl, ?y9⟩) (by assumption) ?q9
                      case y9 => (intro w5 hSw; obtain ⟨e0, e1, e2, e3, e4, e5⟩ := HSX.out _ hSw; go_simp <;> with_reducible rfl)
                      case q9 =>
                        (try simp only [Act.put]); (try simp only [List.setIfInBounds_toArray])
                        refine wpAnyH_ready (rs := [10]) (by kernel_rfl) (by simp) ?_
                        refine AllReadyH.cons rfl (fun K hK => ?s10) ?m10
                        case m10 => exact AllReadyH.nil
                        case s10 =>
                          have HB3 : Hid (Below X.heap.size X (X2.alloc (.cells #[.int .i64 0, .string { data := #[] }, .int .i64 0, .int .i64 0] 80))) := Lib.hid (below_more HBd.out _)
                          go_simp
                          refine hK.out _ _ HB3.out (fun hHeld2 => ?q10)
                          case q10 =>
                            clear hK K hHeld
                            (try simp only [Act.put]); (try simp only [List.setIfInBounds_toArray])
                            refine wpAnyH_ready (rs := [11]) (by kernel_rfl) (by simp) ?_
                            refine AllReadyH.cons rfl (fun K hK => ?s11) ?m11
                            case m11 => exact AllReadyH.nil
                            case s11 =>
                              have HB4 : Hid (Below X.heap.size X (X2.alloc (.cells #[.int .i64 t.kind, .string t.text, .int .i64 t.int, .int .i64 t.place] 80))) := Lib.hid (below_more HBd.out _)
                              have HTB : Hid (Blk (X2.alloc (.cells #[.int .i64 t.kind, .string t.text, .int .i64 t.int, .int .i64 t.place] 80)) X2.heap.size 80 #[.int .i64 t.kind, .string t.text, .int .i64 t.int, .int .i64 t.place]) := Lib.hid (Blk.new _ _ _)
                              go_simp
                              refine hK.out _ _ HB4.out (fun hHeld3 => ?q11)
                              case q11 =>
                                clear hK K hHeld2
                                (try simp only [Act.put]); (try simp only [List.setIfInBounds_toArray])
                                refine wpAnyH_done (by kernel_rfl) ?_ _
                                have HS := Lib.hid (HS0.out.after HB4.out)
                                have hne : X2.heap.size ≠ w.heap.size := by
                                  have h1 := HBd.out.size
                                  have h2 : w.heap.size < X.heap.size := by obtain ⟨_, _, m, Am, cm, h3, _⟩ := HS0.out; exact h3.lt
                                  omega
                                clear hHeld3 HB3
                                generalize hT : X2.heap.size = tb at HTB hne
                                generalize X2.alloc (.cells #[.int .i64 t.kind, .string t.text, .int .i64 t.int, .int .i64 t.place] 80) = X3 at HTB HS ⊢
                                clear hT HB4 HBd HBq HS0 HSX
                                have k0 := (HTB.out.cell 0).trans (show _ = some (.int .i64 t.kind) from rfl)
                                have k1 := (HTB.out.cell 1).trans (show _ = some (.string t.text) from rfl)
                                have k2 := (HTB.out.cell 2).trans (show _ = some (.int .i64 t.int) from rfl)
                                obtain ⟨x0, x1, x2, x3, f1, f3⟩ := HS.out.cells
                                have r1 := drop_one all p
                                by_cases h1 : t.kind = 1
                                · have hV1 : V = .ok (.leaf 1 ByteArray.empty t.int, all.drop (p + 1)) := hV.trans (if_pos h1)
                                  subst hV1
                                  rw [h1] at k0
                                  have HS4 := Lib.hid (HS.out.inc hp)
                                  have HTB4 := Lib.hid (HTB.out.far (p := ⟨w.heap.size, 1, none⟩) hne (.int .i64 ((p : Int) + 1)))
                                  clear hV HD hcx k1 k2
                                  go_upto_region 7 with (fail)
                                  clear x0 x1 x2 x3 f1 f3 k0
                                  generalize X3.setCell ⟨w.heap.size, 1, none⟩ (.int .i64 ((p : Int) + 1)) = X4 at HS4 HTB4 ⊢
                                  have k1 := (HTB4.out.cell 1).trans (show _ = some (.string t.text) from rfl)
                                  have k2 := (HTB4.out.cell 2).trans (show _ = some (.int .i64 t.int) from rfl)
                                  go_wp2_with (go_at_call 40; (with_reducible refine (HS4.out.add0 (by omega) _ _ _).mono ?_); rintro e wz ⟨jz, rfl, hz⟩; have HZ := Lib.hid hz; clear hz)
                                  go_ret
                                  exact ⟨p + 1, rfl, by omega, jz, rfl, HZ.out.relax (by omega)⟩
                                by_cases h2 : t.kind = 2
                                · have hV1 : V = .ok (.leaf 2 t.text 0, all.drop (p + 1)) := hV.trans ((if_neg h1).trans (if_pos h2))
                                  subst hV1
                                  rw [h2] at k0
                                  have HS4 := Lib.hid (HS.out.inc hp)
                                  have HTB4 := Lib.hid (HTB.out.far (p := ⟨w.heap.size, 1, none⟩) hne (.int .i64 ((p : Int) + 1)))
                                  clear hV HD hcx k1 k2
                                  go_upto_region 10 with (fail)
                                  clear x0 x1 x2 x3 f1 f3 k0
                                  generalize X3.setCell ⟨w.heap.size, 1, none⟩ (.int .i64 ((p : Int) + 1)) = X4 at HS4 HTB4 ⊢
                                  have k1 := (HTB4.out.cell 1).trans (show _ = some (.string t.text) from rfl)
                                  have k2 := (HTB4.out.cell 2).trans (show _ = some (.int .i64 t.int) from rfl)
                                  go_wp2_with (go_at_call 40; (with_reducible refine (HS4.out.add0 (by omega) _ _ _).mono ?_); rintro e wz ⟨jz, rfl, hz⟩; have HZ := Lib.hid hz; clear hz)
                                  go_ret
                                  exact ⟨p + 1, rfl, by omega, jz, rfl, HZ.out.relax (by omega)⟩
                                by_cases h3 : t.kind = 3
                                · have hV1 : V = .ok (.leaf 7 t.text 0, all.drop (p + 1)) := hV.trans ((if_neg h1).trans ((if_neg h2).trans (if_pos h3)))
                                  subst hV1
                                  rw [h3] at k0
                                  have HS4 := Lib.hid (HS.out.inc hp)
                                  have HTB4 := Lib.hid (HTB.out.far (p := ⟨w.heap.size, 1, none⟩) hne (.int .i64 ((p : Int) + 1)))
                                  clear hV HD hcx k1 k2
                                  go_upto_region 13 with (fail)
                                  clear x0 x1 x2 x3 f1 f3 k0
                                  generalize X3.setCell ⟨w.heap.size, 1, none⟩ (.int .i64 ((p : Int) + 1)) = X4 at HS4 HTB4 ⊢
                                  have k1 := (HTB4.out.cell 1).trans (show _ = some (.string t.text) from rfl)
                                  have k2 := (HTB4.out.cell 2).trans (show _ = some (.int .i64 t.int) from rfl)
                                  go_wp2_with (go_at_call 40; (with_reducible refine (HS4.out.add0 (by omega) _ _ _).mono ?_); rintro e wz ⟨jz, rfl, hz⟩; have HZ := Lib.hid hz; clear hz)
                                  go_ret
                                  exact ⟨p + 1, rfl, by omega, jz, rfl, HZ.out.relax (by omega)⟩
                                have h4 : 4 ≤ t.kind := by omega
                                have j1 : (t.kind == 1) = false := by simpa using h1
                                have j2 : (t.kind == 2) = false := by simpa using h2
                                have j3 : (t.kind == 3) = false := by simpa using h3
                                have hM : ∀ q, (t.text.toList == q) = isM (t :: all.drop (p + 1)) q := fun q => by rw [isM_high h4, ByteArray.toList_eq]
                                rw [primV_cons rdX t _ h1 h2 h3] at hV
                                cases m0 : isM (t :: all.drop (p + 1)) [45] with
                                | true =>
                                  rw [m0] at hV
                                  have g0 := (hM [45]).trans m0
                                  rw [if_pos rfl] at hV
                                  have HS4 := Lib.hid (HS.out.inc hp)
                                  clear hM
                                  go_upto_region 17 with (fail)
                                  clear x0 x1 x2 x3 f1 f3 k0 k1 k2
                                  generalize X3.setCell ⟨w.heap.size, 1, none⟩ (.int .i64 ((p : Int) + 1)) = X4 at HS4 ⊢
                                  obtain ⟨x0, x1, x2, x3, f1, f3⟩ := HS4.out.cells
                                  have hle4 := HS4.out.le
                                  cases hq : all.drop (p + 1) with
                                  | nil =>
                                    rw [hq] at hV
                                    dsimp only at hV
                                    have hV1 : V = .error (all.drop (p + 1)) := by rw [hV, hq]
                                    subst hV1
                                    have hge : all.length ≤ p + 1 := by
                                      rcases Nat.lt_or_ge (p + 1) all.length with h | h
                                      · rw [List.drop_eq_getElem_cons h] at hq; cases hq
                                      · exact h
                                    have q2 : decide (((p + 1 : Nat) : Int) < (all.length : Int)) = false := decide_eq_false (by omega)
                                    have HXX := Lib.hid hcx
                                    clear hV hq hcx
                                    generalize hpp : p + 1 = pp at *
                                    have hlt' : ¬ pp < all.length := by omega
                                    go_quiet (fail)
                                    have HS5 := Lib.hid (HS4.out.after (below_drewN (Below.refl _ _) nq))
                                    clear x0 x1 x2 x3 f1 f3
                                    generalize X4.drewN nq = X5 at HS5 ⊢
                                    have HST := Lib.hid (dstop_any w _ c all fin HXX.out (N - 1) pp ts X5 HS5.out)
                                    have h0q := place_nn HXX.out pp
                                    clear HD
                                    go_wp2_with ((go_at_call 22; (with_reducible refine HST.out.mono ?_); rintro e w9 ⟨rfl, hs9⟩; have HS9 := Lib.hid hs9; clear hs9))
                                    go_ret
                                    exact ⟨0, rfl, h0q, pp, HS9.out.less.relax (by omega)⟩
                                  | cons u r2 =>
                                    obtain ⟨hr2, hp2⟩ := drop_cons hq
                                    rw [hq] at hV
                                    dsimp only at hV
                                    have hu : all[p + 1]? = some u := by
                                      have := drop_head (List.getElem?_eq_getElem hp2)
                                      rw [hq] at this
                                      injection this with h1 _
                                      rw [h1]; exact List.getElem?_eq_getElem hp2
                                    have huu : all[p + 1] = u := (List.getElem?_eq_some_iff.1 hu).2
                                    obtain ⟨b2, e2, d0, d1, d2, d3⟩ := hcx.tok HS4.out.bel hu
                                    injection e2 with e2
                                    injection e2 with e2
                                    subst e2
                                    have HXX := Lib.hid hcx
                                    have HUU := Lib.hid hu
                                    have hui := hcx.ok.ints u (List.mem_of_getElem? hu)
                                    have q2 : decide (((p + 1 : Nat) : Int) < (all.length : Int)) = true := decide_eq_true (by omega)
                                    have hx1 : X4.cell? ⟨w.heap.size, 1, none⟩ = some (.int .i64 ((p + 1 : Nat) : Int)) := x1
                                    clear x1 huu hu
                                    generalize hpp : p + 1 = pp at *
                                    by_cases hk1 : u.kind = 1
                                    · rw [if_pos hk1] at hV
                                      have hV1 : V = .ok (.leaf 1 ByteArray.empty (-u.int), all.drop (pp + 1)) := by rw [hV, hr2]
                                      subst hV1
                                      have q3 : (u.kind == 1) = true := by simpa using hk1
                                      have hw2 : IntKind.i64.wrap ((pp : Int) + 1) = (pp : Int) + 1 := IntWalk.i64_in _ (by omega)
                                      have hw3 : IntKind.i64.wrap ((pp : Int) + 1 - 1) = (pp : Int) := by rw [IntWalk.i64_in _ (by omega)]; omega
                                      have hw5 : IntKind.i64.wrap (pp : Int) = (pp : Int) := IntWalk.i64_in _ (by omega)
                                      have hw4 : IntKind.i64.wrap (-u.int) = -u.int := IntWalk.i64_in _ (by omega)
                                      clear hV hq hr2 hcx HD hk1
                                      go_quiet (fail)
                                      have HS5 := Lib.hid (HS4.out.after (below_drewN (Below.refl _ _) nq))
                                      clear x0 hx1 x2 x3 f1 f3 d0 d1 d2 d3
                                      generalize X4.drewN nq = X5 at HS5 ⊢
                                      obtain ⟨x0, x1, x2, x3, f1, f3⟩ := HS5.out.cells
                                      have HS6 := Lib.hid (HS5.out.inc hp2)
                                      go_upto_region 19 with (fail)
                                      clear x0 x1 x2 x3 f1 f3
                                      generalize X5.setCell ⟨w.heap.size, 1, none⟩ (.int .i64 ((pp : Int) + 1)) = X6 at HS6 ⊢
                                      obtain ⟨x0, x1, x2, x3, f1, f3⟩ := HS6.out.cells
                                      obtain ⟨b3, e3, d0, d1, d2, d3⟩ := HXX.out.tok HS6.out.bel HUU.out
                                      injection e3 with e3
                                      injection e3 with e3
                                      subst e3
                                      have x1' : X6.cell? ⟨w.heap.size, 1, none⟩ = some (.int .i64 ((pp : Int) + 1)) := by rw [x1]; simp
                                      have HS7 := Lib.hid (HS6.out.after (drew1_below X6))
                                      clear x1 x2 x3 f1 f3 d0 d1 d3
                                      go_still_tail 14, (by kernel_rfl)
                                      clear x0 x1' d2
                                      go_wp2_with ((go_at_call 40; (with_reducible refine ((HS7.out).add0 (by omega) _ _ _).mono ?_); rintro e wz ⟨jz, rfl, hz⟩; have HZ := Lib.hid hz; clear hz))
                                      go_ret
                                      exact ⟨pp + 1, rfl, by omega, jz, rfl, HZ.out.relax (by omega)⟩
                                    · rw [if_neg hk1] at hV
                                      have hV1 : V = .error (all.drop pp) := by rw [hV, hq]
                                      subst hV1
                                      have q3 : (u.kind == 1) = false := by simpa using hk1
                                      clear hV hq hr2 HD hk1
                                      go_quiet (fail)
                                      have HS5 := Lib.hid (HS4.out.after (below_drewN (Below.refl _ _) nq))
                                      clear x0 hx1 x2 x3 f1 f3 d0 d1 d2 d3
                                      generalize X4.drewN nq = X5 at HS5 ⊢
                                      have HST := Lib.hid (dstop_any w _ c all fin HXX.out (N - 1) pp ts X5 HS5.out)
                                      have h0q := place_nn HXX.out pp
                                      clear hcx
                                      go_wp2_with ((go_at_call 22; (with_reducible refine HST.out.mono ?_); rintro e w9 ⟨rfl, hs9⟩; have HS9 := Lib.hid hs9; clear hs9))
                                      go_ret
                                      exact ⟨0, rfl, h0q, pp, HS9.out.less.relax (by omega)⟩
                                | false =>
                                  rw [m0] at hV
                                  cases m1 : isM (t :: all.drop (p + 1)) [40] with
                                  | true =>
                                    rw [m1] at hV
                                    have g0 := (hM [45]).trans m0
                                    have g1 := (hM [40]).trans m1
                                    have hat : atomV (t :: all.drop (p + 1)) = atomV (t :: all.drop (p + 1)) := by rfl
                                    rw [if_neg (by decide), if_pos rfl] at hV
                                    clear hM hat m0 m1
                                    unfold untilV at hV
                                    rcases (HD (p + 1) (by omega) (by omega)).read (by omega) with ⟨l', hr, HE⟩ | ⟨t0, p0, hr, hq0, hl0, HC0⟩
                                    · rw [hr, bind_err] at hV
                                      subst hV
                                      clear hr hcx HD
                                      go_wp2_with (first | (go_at_call 21; (with_reducible refine (HE.out _ _ _ (by omega) (HS.out.inc hp)).mono ?_); rintro e wf ⟨v0, rfl, hf⟩; have HB1 := Lib.hid hf; clear hf) | (go_at_call 84; (with_reducible refine (HMB.out _ _ _ _ HB1.out).mono ?_); rintro e wb1 ⟨rfl, hb⟩; have HB2 := Lib.hid hb; clear hb))
                                      go_ret
                                      exact ⟨_, rfl, HB2.out.relax (by omega)⟩
                                    rw [hr, bind_ok] at hV
                                    (try dsimp only at hV)
                                    clear hr
                                    rcases dmust_read hcx (p0) ⟨#[41]⟩ with ⟨hr, HE⟩ | ⟨hr, hl1, HC1⟩
                                    · rw [hr, bind_err] at hV
                                      subst hV
                                      clear hr hcx HD
                                      go_wp2_with (first | (go_at_call 84; (with_reducible refine (HE.out _ _ _ (HS1.out)).mono ?_); rintro e wf ⟨rfl, hf⟩; have HB2 := Lib.hid hf; clear hf) | (go_at_call 21; (with_reducible refine (HC0.out _ _ _ (by omega) (HS.out.inc hp)).mono ?_); rintro e wg0 ⟨j0, rfl, hg⟩; have HS1 := Lib.hid hg; clear hg))
                                      go_ret
                                      exact ⟨_, rfl, HB2.out.relax (by omega)⟩
                                    rw [hr, bind_ok] at hV
                                    (try dsimp only at hV)
                                    clear hr
                                    subst hV
                                    clear hcx HD
                                    go_wp2_with (first | (go_at_call 84; (with_reducible refine (HC1.out _ _ _ (HS1.out)).mono ?_); rintro e wg1 ⟨rfl, hg⟩; have HS2 := Lib.hid hg; clear hg) | (go_at_call 21; (with_reducible refine (HC0.out _ _ _ (by omega) (HS.out.inc hp)).mono ?_); rintro e wg0 ⟨j0, rfl, hg⟩; have HS1 := Lib.hid hg; clear hg))
                                    go_ret
                                    exact ⟨_, rfl, by omega, _, rfl, HS2.out.relax (by omega)⟩
                                  | false =>
                                    rw [m1] at hV
                                    cases m2 : isM (t :: all.drop (p + 1)) [116, 114, 117, 101] with
                                    | true =>
                                      have g0 := (hM [45]).trans m0
                                      have g1 := (hM [40]).trans m1
                                      have g2 := (hM [116, 114, 117, 101]).trans m2
                                      have hat : atomV (t :: all.drop (p + 1)) = 3 := by simp [atomV, m2]
                                      rw [if_neg (by decide), if_neg (by decide), hat, if_pos (by decide)] at hV
                                      clear hM hat m0 m1 m2
                                      subst hV
                                      clear hcx HD
                                      go_wp2_with ((go_at_call 40; (with_reducible refine ((HS.out.inc hp).add0 (by omega) _ _ _).mono ?_); rintro e wz ⟨jz, rfl, hz⟩; have HZ := Lib.hid hz; clear hz))
                                      go_ret
                                      exact ⟨p + 1, rfl, by omega, jz, rfl, HZ.out.relax (by omega)⟩
                                    | false =>
                                      cases m3 : isM (t :: all.drop (p + 1)) [102, 97, 108, 115, 101] with
                                      | true =>
                                        have g0 := (hM [45]).trans m0
                                        have g1 := (hM [40]).trans m1
                                        have g2 := (hM [116, 114, 117, 101]).trans m2
                                        have g3 := (hM [102, 97, 108, 115, 101]).trans m3
                                        have hat : atomV (t :: all.drop (p + 1)) = 4 := by simp [atomV, m2, m3]
                                        rw [if_neg (by decide), if_neg (by decide), hat, if_pos (by decide)] at hV
                                        clear hM hat m0 m1 m2 m3
                                        subst hV
                                        clear hcx HD
                                        go_wp2_with ((go_at_call 40; (with_reducible refine ((HS.out.inc hp).add0 (by omega) _ _ _).mono ?_); rintro e wz ⟨jz, rfl, hz⟩; have HZ := Lib.hid hz; clear hz))
                                        go_ret
                                        exact ⟨p + 1, rfl, by omega, jz, rfl, HZ.out.relax (by omega)⟩
                                      | false =>
                                        cases m4 : isM (t :: all.drop (p + 1)) [115, 101, 108, 102] with
                                        | true =>
                                          have g0 := (hM [45]).trans m0
                                          have g1 := (hM [40]).trans m1
                                          have g2 := (hM [116, 114, 117, 101]).trans m2
                                          have g3 := (hM [102, 97, 108, 115, 101]).trans m3
                                          have g4 := (hM [115, 101, 108, 102]).trans m4
                                          have hat : atomV (t :: all.drop (p + 1)) = 5 := by simp [atomV, m2, m3, m4]
                                          rw [if_neg (by decide), if_neg (by decide), hat, if_pos (by decide)] at hV
                                          clear hM hat m0 m1 m2 m3 m4
                                          subst hV
                                          clear hcx HD
                                          go_wp2_with ((go_at_call 40; (with_reducible refine ((HS.out.inc hp).add0 (by omega) _ _ _).mono ?_); rintro e wz ⟨jz, rfl, hz⟩; have HZ := Lib.hid hz; clear hz))
                                          go_ret
                                          exact ⟨p + 1, rfl, by omega, jz, rfl, HZ.out.relax (by omega)⟩
                                        | false =>
                                          cases m5 : isM (t :: all.drop (p + 1)) [110, 111, 110, 101] with
                                          | true =>
                                            have g0 := (hM [45]).trans m0
                                            have g1 := (hM [40]).trans m1
                                            have g2 := (hM [116, 114, 117, 101]).trans m2
                                            have g3 := (hM [102, 97, 108, 115, 101]).trans m3
                                            have g4 := (hM [115, 101, 108, 102]).trans m4
                                            have g5 := (hM [110, 111, 110, 101]).trans m5
                                            have hat : atomV (t :: all.drop (p + 1)) = 6 := by simp [atomV, m2, m3, m4, m5]
                                            rw [if_neg (by decide), if_neg (by decide), hat, if_pos (by decide)] at hV
                                            clear hM hat m0 m1 m2 m3 m4 m5
                                            subst hV
                                            clear hcx HD
                                            go_wp2_with ((go_at_call 40; (with_reducible refine ((HS.out.inc hp).add0 (by omega) _ _ _).mono ?_); rintro e wz ⟨jz, rfl, hz⟩; have HZ := Lib.hid hz; clear hz))
                                            go_ret
                                            exact ⟨p + 1, rfl, by omega, jz, rfl, HZ.out.relax (by omega)⟩
                                          | false =>
                                            cases m6 : isM (t :: all.drop (p + 1)) [105, 102] with
                                            | true =>
                                              rw [m6] at hV
                                              have g0 := (hM [45]).trans m0
                                              have g1 := (hM [40]).trans m1
                                              have g2 := (hM [116, 114, 117, 101]).trans m2
                                              have g3 := (hM [102, 97, 108, 115, 101]).trans m3
                                              have g4 := (hM [115, 101, 108, 102]).trans m4
                                              have g5 := (hM [110, 111, 110, 101]).trans m5
                                              have g6 := (hM [105, 102]).trans m6
                                              have hat : atomV (t :: all.drop (p + 1)) = 0 := by simp [atomV, m2, m3, m4, m5, m6]
                                              rw [if_neg (by decide), if_neg (by decide), hat, if_neg (by decide), if_pos rfl] at hV
                                              clear hM hat m0 m1 m2 m3 m4 m5 m6
                                              simp only [until_bind] at hV
                                              rcases (HD (p + 1) (by omega) (by omega)).read (by omega) with ⟨l', hr, HE⟩ | ⟨t0, p0, hr, hq0, hl0, HC0⟩
                                              · rw [hr, bind_err] at hV
                                                subst hV
                                                clear hr hcx HD
                                                go_wp2_with (first | (go_at_call 40; (with_reducible refine (HB6.out.add3 (by omega) _ _ _ _ _ _).mono ?_); rintro e wz ⟨vz, rfl, hz⟩; have HZ := Lib.hid hz; clear hz) | (go_at_call 21; (with_reducible refine (HE.out _ _ _ (by omega) (HS.out.inc hp)).mono ?_); rintro e wf ⟨v0, rfl, hf⟩; have HB1 := Lib.hid hf; clear hf) | (go_at_call 84; (with_reducible refine (HMB.out _ _ _ _ HB5.out).mono ?_); rintro e wb5 ⟨rfl, hb⟩; have HB6 := Lib.hid hb; clear hb) | (go_at_call 21; (with_reducible refine (HLB.out _ _ _ _ HB4.out).mono ?_); rintro e wb4 ⟨rfl, hb⟩; have HB5 := Lib.hid hb; clear hb) | (go_at_call 84; (with_reducible refine (HMB.out _ _ _ _ HB3.out).mono ?_); rintro e wb3 ⟨rfl, hb⟩; have HB4 := Lib.hid hb; clear hb) | (go_at_call 21; (with_reducible refine (HLB.out _ _ _ _ HB2.out).mono ?_); rintro e wb2 ⟨rfl, hb⟩; have HB3 := Lib.hid hb; clear hb) | (go_at_call 84; (with_reducible refine (HMB.out _ _ _ _ HB1.out).mono ?_); rintro e wb1 ⟨rfl, hb⟩; have HB2 := Lib.hid hb; clear hb))
                                                go_ret
                                                exact ⟨vz, rfl, HZ.out.relax (by omega)⟩
                                              rw [hr, bind_ok] at hV
                                              (try dsimp only at hV)
                                              clear hr
                                              rcases dmust_read hcx (p0) ⟨#[116, 104, 101, 110]⟩ with ⟨hr, HE⟩ | ⟨hr, hl1, HC1⟩
                                              · rw [hr, bind_err] at hV
                                                subst hV
                                                clear hr hcx HD
                                                go_wp2_with (first | (go_at_call 40; (with_reducible refine (HB6.out.add3 (by omega) _ _ _ _ _ _).mono ?_); rintro e wz ⟨vz, rfl, hz⟩; have HZ := Lib.hid hz; clear hz) | (go_at_call 84; (with_reducible refine (HE.out _ _ _ (HS1.out)).mono ?_); rintro e wf ⟨rfl, hf⟩; have HB2 := Lib.hid hf; clear hf) | (go_at_call 84; (with_reducible refine (HMB.out _ _ _ _ HB5.out).mono ?_); rintro e wb5 ⟨rfl, hb⟩; have HB6 := Lib.hid hb; clear hb) | (go_at_call 21; (with_reducible refine (HLB.out _ _ _ _ HB4.out).mono ?_); rintro e wb4 ⟨rfl, hb⟩; have HB5 := Lib.hid hb; clear hb) | (go_at_call 84; (with_reducible refine (HMB.out _ _ _ _ HB3.out).mono ?_); rintro e wb3 ⟨rfl, hb⟩; have HB4 := Lib.hid hb; clear hb) | (go_at_call 21; (with_reducible refine (HLB.out _ _ _ _ HB2.out).mono ?_); rintro e wb2 ⟨rfl, hb⟩; have HB3 := Lib.hid hb; clear hb) | (go_at_call 21; (with_reducible refine (HC0.out _ _ _ (by omega) (HS.out.inc hp)).mono ?_); rintro e wg0 ⟨j0, rfl, hg⟩; have HS1 := Lib.hid hg; clear hg))
                                                go_ret
                                                exact ⟨vz, rfl, HZ.out.relax (by omega)⟩
                                              rw [hr, bind_ok] at hV
                                              (try dsimp only at hV)
                                              clear hr
                                              rcases (HD (p0 + 1) (by omega) (by omega)).read (by omega) with ⟨l', hr, HE⟩ | ⟨t2, p2, hr, hq2, hl2, HC2⟩
                                              · rw [hr, bind_err] at hV
                                                subst hV
                                                clear hr hcx HD
                                                go_wp2_with (first | (go_at_call 40; (with_reducible refine (HB6.out.add3 (by omega) _ _ _ _ _ _).mono ?_); rintro e wz ⟨vz, rfl, hz⟩; have HZ := Lib.hid hz; clear hz) | (go_at_call 21; (with_reducible refine (HE.out _ _ _ (by omega) (HS2.out)).mono ?_); rintro e wf ⟨v2, rfl, hf⟩; have HB3 := Lib.hid hf; clear hf) | (go_at_call 84; (with_reducible refine (HMB.out _ _ _ _ HB5.out).mono ?_); rintro e wb5 ⟨rfl, hb⟩; have HB6 := Lib.hid hb; clear hb) | (go_at_call 21; (with_reducible refine (HLB.out _ _ _ _ HB4.out).mono ?_); rintro e wb4 ⟨rfl, hb⟩; have HB5 := Lib.hid hb; clear hb) | (go_at_call 84; (with_reducible refine (HMB.out _ _ _ _ HB3.out).mono ?_); rintro e wb3 ⟨rfl, hb⟩; have HB4 := Lib.hid hb; clear hb) | (go_at_call 84; (with_reducible refine (HC1.out _ _ _ (HS1.out)).mono ?_); rintro e wg1 ⟨rfl, hg⟩; have HS2 := Lib.hid hg; clear hg) | (go_at_call 21; (with_reducible refine (HC0.out _ _ _ (by omega) (HS.out.inc hp)).mono ?_); rintro e wg0 ⟨j0, rfl, hg⟩; have HS1 := Lib.hid hg; clear hg))
                                                go_ret
                                                exact ⟨vz, rfl, HZ.out.relax (by omega)⟩
                                              rw [hr, bind_ok] at hV
                                              (try dsimp only at hV)
                                              clear hr
                                              rcases dmust_read hcx (p2) ⟨#[101, 108, 115, 101]⟩ with ⟨hr, HE⟩ | ⟨hr, hl3, HC3⟩
                                              · rw [hr, bind_err] at hV
                                                subst hV
                                                clear hr hcx HD
                                                go_wp2_with (first | (go_at_call 40; (with_reducible refine (HB6.out.add3 (by omega) _ _ _ _ _ _).mono ?_); rintro e wz ⟨vz, rfl, hz⟩; have HZ := Lib.hid hz; clear hz) | (go_at_call 84; (with_reducible refine (HE.out _ _ _ (HS3.out)).mono ?_); rintro e wf ⟨rfl, hf⟩; have HB4 := Lib.hid hf; clear hf) | (go_at_call 84; (with_reducible refine (HMB.out _ _ _ _ HB5.out).mono ?_); rintro e wb5 ⟨rfl, hb⟩; have HB6 := Lib.hid hb; clear hb) | (go_at_call 21; (with_reducible refine (HLB.out _ _ _ _ HB4.out).mono ?_); rintro e wb4 ⟨rfl, hb⟩; have HB5 := Lib.hid hb; clear hb) | (go_at_call 21; (with_reducible refine (HC2.out _ _ _ (by omega) (HS2.out)).mono ?_); rintro e wg2 ⟨j2, rfl, hg⟩; have HS3 := Lib.hid hg; clear hg) | (go_at_call 84; (with_reducible refine (HC1.out _ _ _ (HS1.out)).mono ?_); rintro e wg1 ⟨rfl, hg⟩; have HS2 := Lib.hid hg; clear hg) | (go_at_call 21; (with_reducible refine (HC0.out _ _ _ (by omega) (HS.out.inc hp)).mono ?_); rintro e wg0 ⟨j0, rfl, hg⟩; have HS1 := Lib.hid hg; clear hg))
                                                go_ret
                                                exact ⟨vz, rfl, HZ.out.relax (by omega)⟩
                                              rw [hr, bind_ok] at hV
                                              (try dsimp only at hV)
                                              clear hr
                                              rcases (HD (p2 + 1) (by omega) (by omega)).read (by omega) with ⟨l', hr, HE⟩ | ⟨t4, p4, hr, hq4, hl4, HC4⟩
                                              · rw [hr, bind_err] at hV
                                                subst hV
                                                clear hr hcx HD
                                                go_wp2_with (first | (go_at_call 40; (with_reducible refine (HB6.out.add3 (by omega) _ _ _ _ _ _).mono ?_); rintro e wz ⟨vz, rfl, hz⟩; have HZ := Lib.hid hz; clear hz) | (go_at_call 21; (with_reducible refine (HE.out _ _ _ (by omega) (HS4.out)).mono ?_); rintro e wf ⟨v4, rfl, hf⟩; have HB5 := Lib.hid hf; clear hf) | (go_at_call 84; (with_reducible refine (HMB.out _ _ _ _ HB5.out).mono ?_); rintro e wb5 ⟨rfl, hb⟩; have HB6 := Lib.hid hb; clear hb) | (go_at_call 84; (with_reducible refine (HC3.out _ _ _ (HS3.out)).mono ?_); rintro e wg3 ⟨rfl, hg⟩; have HS4 := Lib.hid hg; clear hg) | (go_at_call 21; (with_reducible refine (HC2.out _ _ _ (by omega) (HS2.out)).mono ?_); rintro e wg2 ⟨j2, rfl, hg⟩; have HS3 := Lib.hid hg; clear hg) | (go_at_call 84; (with_reducible refine (HC1.out _ _ _ (HS1.out)).mono ?_); rintro e wg1 ⟨rfl, hg⟩; have HS2 := Lib.hid hg; clear hg) | (go_at_call 21; (with_reducible refine (HC0.out _ _ _ (by omega) (HS.out.inc hp)).mono ?_); rintro e wg0 ⟨j0, rfl, hg⟩; have HS1 := Lib.hid hg; clear hg))
                                                go_ret
                                                exact ⟨vz, rfl, HZ.out.relax (by omega)⟩
                                              rw [hr, bind_ok] at hV
                                              (try dsimp only at hV)
                                              clear hr
                                              rcases dmust_read hcx (p4) ⟨#[101, 110, 100]⟩ with ⟨hr, HE⟩ | ⟨hr, hl5, HC5⟩
                                              · rw [hr, bind_err] at hV
                                                subst hV
                                                clear hr hcx HD
                                                go_wp2_with (first | (go_at_call 40; (with_reducible refine (HB6.out.add3 (by omega) _ _ _ _ _ _).mono ?_); rintro e wz ⟨vz, rfl, hz⟩; have HZ := Lib.hid hz; clear hz) | (go_at_call 84; (with_reducible refine (HE.out _ _ _ (HS5.out)).mono ?_); rintro e wf ⟨rfl, hf⟩; have HB6 := Lib.hid hf; clear hf) | (go_at_call 21; (with_reducible refine (HC4.out _ _ _ (by omega) (HS4.out)).mono ?_); rintro e wg4 ⟨j4, rfl, hg⟩; have HS5 := Lib.hid hg; clear hg) | (go_at_call 84; (with_reducible refine (HC3.out _ _ _ (HS3.out)).mono ?_); rintro e wg3 ⟨rfl, hg⟩; have HS4 := Lib.hid hg; clear hg) | (go_at_call 21; (with_reducible refine (HC2.out _ _ _ (by omega) (HS2.out)).mono ?_); rintro e wg2 ⟨j2, rfl, hg⟩; have HS3 := Lib.hid hg; clear hg) | (go_at_call 84; (with_reducible refine (HC1.out _ _ _ (HS1.out)).mono ?_); rintro e wg1 ⟨rfl, hg⟩; have HS2 := Lib.hid hg; clear hg) | (go_at_call 21; (with_reducible refine (HC0.out _ _ _ (by omega) (HS.out.inc hp)).mono ?_); rintro e wg0 ⟨j0, rfl, hg⟩; have HS1 := Lib.hid hg; clear hg))
                                                go_ret
                                                exact ⟨vz, rfl, HZ.out.relax (by omega)⟩
                                              rw [hr, bind_ok] at hV
                                              (try dsimp only at hV)
                                              clear hr
                                              subst hV
                                              clear hcx HD
                                              go_wp2_with (first | (go_at_call 40; (with_reducible refine (HS6.out.add3 (by omega) _ _ _).mono ?_); rintro e wz ⟨jz, rfl, hz⟩; have HZ := Lib.hid hz; clear hz) | (go_at_call 84; (with_reducible refine (HC5.out _ _ _ (HS5.out)).mono ?_); rintro e wg5 ⟨rfl, hg⟩; have HS6 := Lib.hid hg; clear hg) | (go_at_call 21; (with_reducible refine (HC4.out _ _ _ (by omega) (HS4.out)).mono ?_); rintro e wg4 ⟨j4, rfl, hg⟩; have HS5 := Lib.hid hg; clear hg) | (go_at_call 84; (with_reducible refine (HC3.out _ _ _ (HS3.out)).mono ?_); rintro e wg3 ⟨rfl, hg⟩; have HS4 := Lib.hid hg; clear hg) | (go_at_call 21; (with_reducible refine (HC2.out _ _ _ (by omega) (HS2.out)).mono ?_); rintro e wg2 ⟨j2, rfl, hg⟩; have HS3 := Lib.hid hg; clear hg) | (go_at_call 84; (with_reducible refine (HC1.out _ _ _ (HS1.out)).mono ?_); rintro e wg1 ⟨rfl, hg⟩; have HS2 := Lib.hid hg; clear hg) | (go_at_call 21; (with_reducible refine (HC0.out _ _ _ (by omega) (HS.out.inc hp)).mono ?_); rintro e wg0 ⟨j0, rfl, hg⟩; have HS1 := Lib.hid hg; clear hg))
                                              go_ret
                                              exact ⟨_, rfl, by omega, jz, rfl, HZ.out.relax (by omega)⟩
                                            | false =>
                                              rw [m6] at hV
                                              have g0 := (hM [45]).trans m0
                                              have g1 := (hM [40]).trans m1
                                              have g2 := (hM [116, 114, 117, 101]).trans m2
                                              have g3 := (hM [102, 97, 108, 115, 101]).trans m3
                                              have g4 := (hM [115, 101, 108, 102]).trans m4
                                              have g5 := (hM [110, 111, 110, 101]).trans m5
                                              have g6 := (hM [105, 102]).trans m6
                                              have hat : atomV (t :: all.drop (p + 1)) = 0 := by simp [atomV, m2, m3, m4, m5]
                                              rw [if_neg (by decide), if_neg (by decide), hat, if_neg (by decide), if_neg (by decide)] at hV
                                              clear hM hat m0 m1 m2 m3 m4 m5 m6
                                              have HWD : Hid (Calls Tryz.prog 85 #[.pointer (some ⟨w.heap.size, 0, none⟩), .string t.text] X3 (LPost w (some ⟨b, 0, none⟩) c all fin V N ts)) := Lib.hid (dword_any w _ c all fin hcx p hp t.text V (fun k hk e => by rw [hV, call_at h4 k hk e, if_pos (by omega)]; rfl) (fun k hk e => by rw [hV, (loop_at h4 k hk e).1, (loop_at h4 k hk e).2, if_neg (by decide), if_pos (by omega)]; rfl) (fun e1 e2 => by rw [hV, (word_at h4 e1 e2).1, (word_at h4 e1 e2).2, if_neg (by decide), if_neg (by decide), hl]) HD N ts X3 hN HS.out)
                                              clear hV hcx HD hl
                                              cases V with
                                              | error l' =>
                                                go_wp2_with (go_at_call 85; (with_reducible refine HWD.out.mono ?_); rintro e w9 ⟨v9, rfl, h9⟩; have H9 := Lib.hid h9; clear h9)
                                                go_ret
                                                exact ⟨v9, rfl, H9.out⟩
                                              | ok q9 =>
                                                go_wp2_with (go_at_call 85; (with_reducible refine HWD.out.mono ?_); rintro e w9 ⟨p9, e9, l9, v9, rfl, h9⟩; have H9 := Lib.hid h9; clear h9)
                                                go_ret
                                                exact ⟨p9, e9, l9, v9, rfl, H9.out⟩
end Go.Proofs.YtckfcpiedainfaaGreatDoor

/-
  WALKS over the document's sheet: takes: a node's line; takes, whatever the line.
  THE LEAST NUMBER ABOVE THE LAST ONE, in plain mathematics: what the document's selection finds is the next node of the sorted list.
-/
import Derived.Test.YtjjlofaejpnnnaaGreatDoorZR22
namespace Go.Proofs.YtjjlofaejpnnnaaGreatDoor
open Go Go.RowKit Go.Sort
set_option linter.unusedVariables false
section
variable {B0 B gu c gx : Nat} {next : Int} {v vd : Value} {l : List (Nd × Leaf)} {ws : List Int} {w W : World} {nn : Nd}
/-- the role, the concept is known -/
theorem UMid.roleS (h : UMid B0 B gu c gx next v vd l ws (ndBox nn) w W) (y : ByteArray) : UMid B0 B gu c gx next v vd l ws (ndBox { nn with role := y }) w (W.setCell ⟨gx, 3, none⟩ (.string y)) :=
  ⟨h.bx.far (p := ⟨gx, 3, none⟩) h.ne _, h.np.otherN h.bn h.gv, by have := h.bn.set_ 3 (.string y); simpa [ndBox] using this, h.bel.setCell (p := ⟨gx, 3, none⟩) h.lx _, h.l0, h.l2, h.lx, h.gv⟩
theorem UMid.conS (h : UMid B0 B gu c gx next v vd l ws (ndBox nn) w W) (y : ByteArray) : UMid B0 B gu c gx next v vd l ws (ndBox { nn with con := y }) w (W.setCell ⟨gx, 1, none⟩ (.string y)) :=
  ⟨h.bx.far (p := ⟨gx, 1, none⟩) h.ne _, h.np.otherN h.bn h.gv, by have := h.bn.set_ 1 (.string y); simpa [ndBox] using this, h.bel.setCell (p := ⟨gx, 1, none⟩) h.lx _, h.l0, h.l2, h.lx, h.gv⟩
end
/-- the node under way -/
def ndW (id : Int) (role con : ByteArray) : Nd := ⟨id, con, 0, role, [], [], []⟩
theorem nodeR_root {st : RS} {s : ByteArray} {id : Int} {role con : ByteArray} {p : Nat} : nodeR st s 0 id 0 role con p = nodeR st s 0 id 1 role con p := by
  rw [nodeR0, nodeR1, if_pos rfl]
theorem nodeR_none0 {st : RS} {s : ByteArray} {d : Nat} {id : Int} {role con : ByteArray} {p : Nat} (hd : d ≠ 0) (h : stepW s p = none) : nodeR st s d id 0 role con p = none := by
  rw [nodeR0, if_neg hd, h]; rfl
theorem nodeR_none1 {st : RS} {s : ByteArray} {d : Nat} {id : Int} {role con : ByteArray} {p : Nat} (h : stepW s p = none) : nodeR st s d id 1 role con p = none := by
  rw [nodeR1, h]; rfl
theorem nodeR_some0 {st : RS} {s : ByteArray} {d : Nat} {id : Int} {role con x : ByteArray} {p q : Nat} (hd : d ≠ 0) (h : stepW s p = some (x, q)) : nodeR st s d id 0 role con p = nodeR st s d id 1 x con q := by
  rw [nodeR0, if_neg hd, h]; rfl
theorem nodeR_some1 {st : RS} {s : ByteArray} {d : Nat} {id : Int} {role con x : ByteArray} {p q : Nat} (h : stepW s p = some (x, q)) : nodeR st s d id 1 role con p = nodeR st s d id 2 role x q := by
  rw [nodeR1, h]; rfl
theorem nodeR_end {st : RS} {s : ByteArray} {d : Nat} {id : Int} {role con : ByteArray} : nodeR st s d id 2 role con s.size = standsV st (ndW id role con) d := by
  rw [nodeR2, if_pos rfl]; rfl
theorem nodeR_no2 {st : RS} {s : ByteArray} {d : Nat} {id : Int} {role con : ByteArray} {p : Nat} (h : p ≠ s.size) : nodeR st s d id 2 role con p = none := by
  rw [nodeR2, if_neg h]
theorem szW {id : Int} {role con : ByteArray} (h1 : role.size ≤ 1048576) (h2 : con.size ≤ 1048576) : SzN (ndW id role con) := ⟨(by show con.size ≤ maxLen; unfold maxLen; omega), (by show role.size ≤ maxLen; unfold maxLen; omega), (fun p hp => absurd hp (by simp [ndW])), (fun p hp => absurd hp (by simp [ndW]))⟩
set_option maxRecDepth 20000 in
set_option maxHeartbeats 12800000 in
theorem takesD_node (w : World) (B0 B gu c k : Nat) (v vd : Value) (l : List (Nd × Leaf)) (st : RS) (h : UIn B gu c k v vd l st w) (h0 : st.next ≠ 0) (hc : 1 ≤ c) (hcb : c ≤ 4194304) (hB0 : B0 ≤ gu) (s : ByteArray) (hs : s.size ≤ 1048576) (d : Nat) (hd : blanksV s.data.toList = d) (hlt : d < s.size) (hch : ¬ (s[d].toNat = 46 ∨ s[d].toNat = 62)) (hk : k + 1 ≤ 4194304) :
    Calls Tryz.prog 21 #[.pointer (some ⟨gu, 0, none⟩), .string s] w (LineU B0 B gu (c + 1) (k + 1) (takesV st s.data.toList) w) := by
  have hok := h.ok h0
  have hln := hok.ln
  have hn1 := hok.n1
  have hn2 := hok.n2
  have c3 : w.cell? ⟨gu, 3, none⟩ = some (.int .i64 c) := (h.box.cell 3).trans rfl
  have f3 := h.box.frozen 3
  have e1 : (((c : Int) + 1) == 1) = false := by rw [beq_eq_false_iff_ne]; omega
  have ec : ((c + 1 : Nat) : Int) = (c : Int) + 1 := by omega
  have HU := Lib.hid h.count
  have HB : Hid (Below B0 w (w.setCell ⟨gu, 3, none⟩ (.int .i64 ((c + 1 : Nat) : Int)))) := Lib.hid ((Below.refl B0 w).setCell (p := ⟨gu, 3, none⟩) hB0 _)
  have HBL : Hid (∀ (n : Nat) (hn : n < s.size), n < d → s[n].toNat = 32) := Lib.hid fun n hn hnd => blanks_before s (by omega) hn
  have b32 := blanks_at hd hlt
  have d32 : ((s[d].toNat : Int) == 32) = false := by rw [beq_eq_false_iff_ne]; omega
  have dsz : ((d : Int) == (s.size : Int)) = false := by rw [beq_eq_false_iff_ne]; omega
  have x46 : ((s[d].toNat : Int) == 46) = false := by rw [beq_eq_false_iff_ne]; omega
  have x62 : ((s[d].toNat : Int) == 62) = false := by rw [beq_eq_false_iff_ne]; omega
  have HN1 : Hid (numberV (wordAt s d).data.toList st.next = none → takesV st s.data.toList = none) := Lib.hid fun hx => node_no h0 hd hlt hch hx
  have HY1 : Hid (∀ id, numberV (wordAt s d).data.toList st.next = some id → takesV st s.data.toList = nodeR st s d id 0 ByteArray.empty ByteArray.empty (d + (wordAt s d).size)) := Lib.hid fun id hx => node_yes h0 hd hlt hch hx
  have hawl := at_le (s := s) d (by omega)
  have HWD0 : ∀ Y, Calls Tryz.prog 51 #[.string s, .int .i64 d] Y fun e w' => e = .returned (.string (wordAt s d)) ∧ Y = w' := fun Y => wordD_any s d Y (by omega) (by omega)
  obtain ⟨W, hW⟩ : ∃ W, wordAt s d = W := ⟨_, rfl⟩
  rw [hW] at HN1 HY1 hawl
  simp only [hW] at HWD0
  obtain ⟨p, hp⟩ : ∃ p, d + W.size = p := ⟨_, rfl⟩
  have hw2 : IntKind.i64.wrap ((d : Int) + (W.size : Int)) = (p : Int) := by rw [IntWalk.i64_in _ (by omega)]; omega
  have hws : W.size ≤ 1048576 := by omega
  rw [hp] at HY1 hawl
  have HWD := Lib.hid HWD0
  obtain ⟨A, cp, hv, hc1, hc2⟩ := h.v_form
  obtain ⟨W1, hW1⟩ : ∃ W1, w.setCell ⟨gu, 3, none⟩ (.int .i64 ((c : Int) + 1)) = W1 := ⟨_, rfl⟩
  rw [ec] at HU HB
  rw [hW1] at HU HB
  have HNO : Hid (∀ Y, Below B0 W1 Y → Blk Y gu 51 (udBox st.next v vd (c + 1)) → takesV st s.data.toList = none → LineU B0 B gu (c + 1) (k + 1) (takesV st s.data.toList) w (.returned (.bool false)) Y) := Lib.hid fun Y hY hx hr => lineU_no hr (HB.out.trans hY) (by rw [hx.cell]; rfl)
  have HMD : Hid (∀ id, UMid B0 B gu (c + 1) W1.heap.size st.next v vd l (deepI st.deep) (ndBox (ndW id ByteArray.empty ByteArray.empty)) W1 (W1.alloc (.cells (ndBox (ndW id ByteArray.empty ByteArray.empty)) 55))) := Lib.hid fun id => HU.out.mid hB0 _
  have c1 : W1.cell? ⟨gu, 1, none⟩ = some (.slice A st.nds.length cp) := by rw [← hv]; exact (HU.out.box.cell 1).trans rfl
  have HNU := Lib.hid (numberD_any W st.next W1 (by unfold maxLen; omega))
  generalize st.nds.length = q at c1 hln
  clear h hok b32 hch hd hW hp hc1 hc2 hv HWD0
  go_enter Tryz.func21, Tryz.ntmps21
  go_upto_region 2 with fail
  (try rw [hW1])
  have c3 : W1.cell? ⟨gu, 3, none⟩ = some (.int .i64 ((c : Int) + 1)) := (HU.out.box.cell 3).trans rfl
  have c0 : W1.cell? ⟨gu, 0, none⟩ = some (.int .i64 st.next) := (HU.out.box.cell 0).trans rfl
  clear hW1 ec
  go_wp2_with fail
  go_loop [7] (fun a7 => ∃ n : Nat, a7 = .int .i64 n ∧ n ≤ d) (fun a7 => d - (intOf a7).toNat)
  case atStart => exact ⟨0, rfl, Nat.zero_le _⟩
  case round =>
    obtain ⟨n, rfl, hn⟩ := hrel
    by_cases hnd : n < d
    · have hns : n < s.size := by omega
      have y1 : ((s[n].toNat : Int) == 32) = true := by rw [beq_iff_eq]; have := HBL.out n hns hnd; omega
      clear x46 x62 d32 dsz
      go_wp2_with fail
      go_round
      case rel => exact ⟨n + 1, by go_num, by omega⟩
      case measure => simp [intOf]; omega
    · obtain rfl : n = d := by omega
      clear hnd hn HBL
      unfold NumQ at HNU
      cases hnv : numberV W.data.toList st.next with
      | none =>
        have HN : Hid (∀ o, LineU B0 B gu (c + 1) (k + 1) (takesV st s.data.toList) w (.returned (.bool false)) (W1.alloc o)) := Lib.hid fun o => HNO.out _ ((Below.refl _ _).alloc (Nat.le_trans hB0 (Nat.le_of_lt HU.out.box.lt)) _) (HU.out.box.alloc o) (HN1.out hnv)
        rw [hnv] at HNU
        clear HNO HN1 HY1 hnv HMD
        go_wp2_with (first | (go_at_call 51; refine (HWD.out _).mono ?_; rintro e w4 ⟨rfl, rfl⟩) | (go_at_call 50; refine HNU.out.mono ?_; rintro e w4 ⟨rfl, rfl⟩; (try simp only [Option.getD_some, Option.getD_none, Option.isSome_some, Option.isSome_none])))
        go_ret
        exact HN.out _
      | some id =>
        have HR0 := Lib.hid (HY1.out id hnv)
        have HID := Lib.hid (numberV_in hnv)
        rw [hnv] at HNU
        have HM0 := Lib.hid (HMD.out id)
        have HM0 : Hid (UMid B0 B gu (c + 1) W1.heap.size st.next v vd l (deepI st.deep) (ndBox (ndW id ByteArray.empty ByteArray.empty)) W1 (W1.alloc (.cells #[.int .i64 id, .string ⟨#[]⟩, .int .i64 0, .string ⟨#[]⟩, .slice none 0 0, .slice none 0 0, .slice none 0 0] 55))) := HM0
        clear HN1 HY1 hnv HMD
        go_upto_region 28 with (first | (go_at_call 51; refine (HWD.out _).mono ?_; rintro e w4 ⟨rfl, rfl⟩) | (go_at_call 50; refine HNU.out.mono ?_; rintro e w4 ⟨rfl, rfl⟩; (try simp only [Option.getD_some, Option.getD_none, Option.isSome_some, Option.isSome_none])))
        clear HNU HWD c0 c1 c3
        generalize (W1.alloc (.cells #[.int .i64 id, .string ⟨#[]⟩, .int .i64 0, .string ⟨#[]⟩, .slice none 0 0, .slice none 0 0, .slice none 0 0] 55)) = W2 at HM0 ⊢
        have HM1 := HM0
        clear HM0
        go_wp2_with fail
        go_loopw [11, 15, 16] (fun a11 a15 a16 wr => ∃ (kk p : Nat) (role con : ByteArray), a15 = .int .i64 p ∧ a16 = .int .i64 kk ∧ kk ≤ 2 ∧ p ≤ s.size ∧ Hid (role.size ≤ 1048576 ∧ con.size ≤ 1048576) ∧ Hid (UMid B0 B gu (c + 1) W1.heap.size st.next v vd l (deepI st.deep) (ndBox (ndW id role con)) W1 wr) ∧ Hid (takesV st s.data.toList = nodeR st s n id kk role con p)) (fun _ _ a16 _ => 2 - (intOf a16).toNat)
        case atStart => exact ⟨0, p, ByteArray.empty, ByteArray.empty, rfl, rfl, by omega, hawl, Lib.hid ⟨by decide, by decide⟩, HM1, HR0⟩
        case round =>
          rename World => wr
          obtain ⟨kk, p, role, con, rfl, rfl, hkk, hps0, HSZ, HM, HR⟩ := hrel
          clear HM1 HR0 hw2 hawl
          obtain rfl | rfl | rfl : kk = 0 ∨ kk = 1 ∨ kk = 2 := by omega
          · by_cases hn0 : n = 0
            · subst hn0
              have HR2 := Lib.hid (HR.out.trans nodeR_root)
              clear HR
              go_wp2_with fail
              go_roundw
              case rel => exact ⟨1, p, role, con, rfl, by go_num, by omega, hps0, HSZ, HM, HR2⟩
              case measure => simp [intOf]
            · have en : ((n : Int) == 0) = false := by rw [beq_eq_false_iff_ne]; omega
              by_cases hps : s.size ≤ p
              · have e7 : ((p : Int) == (s.size : Int)) = true := by rw [beq_iff_eq]; omega
                have HN := Lib.hid (HNO.out _ HM.out.bel HM.out.bx (by rw [HR.out]; exact nodeR_none0 hn0 (stepW_none1 hps)))
                clear HNO HR HM HSZ hps
                go_wp2_with fail
                go_ret
                exact HN.out
              · have hpl : p < s.size := by omega
                have e7 : ((p : Int) == (s.size : Int)) = false := by rw [beq_eq_false_iff_ne]; omega
                by_cases h32 : s[p].toNat = 32
                · have e8 : ((s[p].toNat : Int) != 32) = false := by rw [bne_eq_false_iff_eq]; omega
                  have hawl := at_le (s := s) (p + 1) (by omega)
                  have hst := stepW_some (s := s) hpl h32
                  have hnn : wordB (wordAt s (p + 1)) = false → stepW s p = none := fun hx => stepW_none2 hpl fun hy => by rw [hx] at hy; exact absurd hy.2 (by decide)
                  obtain ⟨p1, hp1⟩ : ∃ p1, p + 1 = p1 := ⟨_, rfl⟩
                  have hw1 : IntKind.i64.wrap ((p : Int) + 1) = (p1 : Int) := by rw [IntWalk.i64_in _ (by omega)]; omega
                  have HWE : Hid (∀ Y, Calls Tryz.prog 51 #[.string s, .int .i64 p1] Y fun e w' => e = .returned (.string (wordAt s p1)) ∧ Y = w') := Lib.hid fun Y => wordD_any s p1 Y (by omega) (by omega)
                  rw [hp1] at hawl hst hnn
                  obtain ⟨X, hX⟩ : ∃ X, wordAt s p1 = X := ⟨_, rfl⟩
                  rw [hX] at hawl hst hnn HWE
                  obtain ⟨p2, hp2⟩ : ∃ p2, p1 + X.size = p2 := ⟨_, rfl⟩
                  have hw2 : IntKind.i64.wrap ((p1 : Int) + (X.size : Int)) = (p2 : Int) := by rw [IntWalk.i64_in _ (by omega)]; omega
                  rw [hp2] at hawl hst
                  have hxs : X.size ≤ 1048576 := by omega
                  have HW2 : Hid (∀ Y, Calls Tryz.prog 52 #[.string X] Y fun e w' => e = .returned (.bool (wordB X)) ∧ Y = w') := Lib.hid fun Y => refWord_any X Y (by unfold maxLen; omega)
                  cases hwb : wordB X with
                  | false =>
                    have HN := Lib.hid (HNO.out _ HM.out.bel HM.out.bx (by rw [HR.out]; exact nodeR_none0 hn0 (hnn hwb)))
                    rw [hwb] at HW2
                    clear HNO HR HM HSZ hst hnn hwb hX hp2 hp1 h32
                    go_wp2_with (first | (go_at_call 51; refine (HWE.out _).mono ?_; rintro e w4 ⟨rfl, rfl⟩) | (go_at_call 52; refine (HW2.out _).mono ?_; rintro e w4 ⟨rfl, rfl⟩))
                    go_ret
                    exact HN.out
                  | true =>
                    have HR2 : Hid (takesV st s.data.toList = nodeR st s n id 1 X con p2) := Lib.hid (by rw [HR.out]; exact nodeR_some0 hn0 (hst hwb))
                    have HM2 := Lib.hid (HM.out.roleS X)
                    have bx := HM.out.bn.frozen 3
                    have bc : wr.cell? ⟨W1.heap.size, 3, none⟩ = some (.string role) := (HM.out.bn.cell 3).trans rfl
                    rw [hwb] at HW2
                    have hkk : ((0 : Nat) : Int) = 0 := rfl
                    clear HR HM hst hnn hwb hX hp2 hp1 h32
                    go_wp2_with (first | (go_at_call 51; refine (HWE.out _).mono ?_; rintro e w4 ⟨rfl, rfl⟩) | (go_at_call 52; refine (HW2.out _).mono ?_; rintro e w4 ⟨rfl, rfl⟩))
                    go_roundw
                    case rel => exact ⟨1, p2, X, con, rfl, by go_num, by omega, hawl, Lib.hid ⟨hxs, HSZ.out.2⟩, HM2, HR2⟩
                    case measure => simp [intOf]
                · have e8 : ((s[p].toNat : Int) != 32) = true := by rw [bne_iff_ne]; omega
                  have HN := Lib.hid (HNO.out _ HM.out.bel HM.out.bx (by rw [HR.out]; exact nodeR_none0 hn0 (stepW_none2 hpl fun hy => h32 hy.1)))
                  clear HNO HR HM HSZ h32
                  go_wp2_with fail
                  go_ret
                  exact HN.out
          · skip
            by_cases hps : s.size ≤ p
            · have e7 : ((p : Int) == (s.size : Int)) = true := by rw [beq_iff_eq]; omega
              have HN := Lib.hid (HNO.out _ HM.out.bel HM.out.bx (by rw [HR.out]; exact nodeR_none1 (stepW_none1 hps)))
              clear HNO HR HM HSZ hps
              go_wp2_with fail
              go_ret
              exact HN.out
            · have hpl : p < s.size := by omega
              have e7 : ((p : Int) == (s.size : Int)) = false := by rw [beq_eq_false_iff_ne]; omega
              by_cases h32 : s[p].toNat = 32
              · have e8 : ((s[p].toNat : Int) != 32) = false := by rw [bne_eq_false_iff_eq]; omega
                have hawl := at_le (s := s) (p + 1) (by omega)
                have hst := stepW_some (s := s) hpl h32
                have hnn : wordB (wordAt s (p + 1)) = false → stepW s p = none := fun hx => stepW_none2 hpl fun hy => by rw [hx] at hy; exact absurd hy.2 (by decide)
                obtain ⟨p1, hp1⟩ : ∃ p1, p + 1 = p1 := ⟨_, rfl⟩
                have hw1 : IntKind.i64.wrap ((p : Int) + 1) = (p1 : Int) := by rw [IntWalk.i64_in _ (by omega)]; omega
                have HWE : Hid (∀ Y, Calls Tryz.prog 51 #[.string s, .int .i64 p1] Y fun e w' => e = .returned (.string (wordAt s p1)) ∧ Y = w') := Lib.hid fun Y => wordD_any s p1 Y (by omega) (by omega)
                rw [hp1] at hawl hst hnn
                obtain ⟨X, hX⟩ : ∃ X, wordAt s p1 = X := ⟨_, rfl⟩
                rw [hX] at hawl hst hnn HWE
                obtain ⟨p2, hp2⟩ : ∃ p2, p1 + X.size = p2 := ⟨_, rfl⟩
                have hw2 : IntKind.i64.wrap ((p1 : Int) + (X.size : Int)) = (p2 : Int) := by rw [IntWalk.i64_in _ (by omega)]; omega
                rw [hp2] at hawl hst
                have hxs : X.size ≤ 1048576 := by omega
                have HW2 : Hid (∀ Y, Calls Tryz.prog 52 #[.string X] Y fun e w' => e = .returned (.bool (wordB X)) ∧ Y = w') := Lib.hid fun Y => refWord_any X Y (by unfold maxLen; omega)
                cases hwb : wordB X with
                | false =>
                  have HN := Lib.hid (HNO.out _ HM.out.bel HM.out.bx (by rw [HR.out]; exact nodeR_none1 (hnn hwb)))
                  rw [hwb] at HW2
                  clear HNO HR HM HSZ hst hnn hwb hX hp2 hp1 h32
                  go_wp2_with (first | (go_at_call 51; refine (HWE.out _).mono ?_; rintro e w4 ⟨rfl, rfl⟩) | (go_at_call 52; refine (HW2.out _).mono ?_; rintro e w4 ⟨rfl, rfl⟩))
                  go_ret
                  exact HN.out
                | true =>
                  have HR2 : Hid (takesV st s.data.toList = nodeR st s n id 2 role X p2) := Lib.hid (by rw [HR.out]; exact nodeR_some1 (hst hwb))
                  have HM2 := Lib.hid (HM.out.conS X)
                  have bx := HM.out.bn.frozen 1
                  have bc : wr.cell? ⟨W1.heap.size, 1, none⟩ = some (.string con) := (HM.out.bn.cell 1).trans rfl
                  rw [hwb] at HW2
                  have hkk : ((1 : Nat) : Int) = 1 := rfl
                  clear HR HM hst hnn hwb hX hp2 hp1 h32
                  go_wp2_with (first | (go_at_call 51; refine (HWE.out _).mono ?_; rintro e w4 ⟨rfl, rfl⟩) | (go_at_call 52; refine (HW2.out _).mono ?_; rintro e w4 ⟨rfl, rfl⟩))
                  go_roundw
                  case rel => exact ⟨2, p2, role, X, rfl, by go_num, by omega, hawl, Lib.hid ⟨HSZ.out.1, hxs⟩, HM2, HR2⟩
                  case measure => simp [intOf]
              · have e8 : ((s[p].toNat : Int) != 32) = true := by rw [bne_iff_ne]; omega
                have HN := Lib.hid (HNO.out _ HM.out.bel HM.out.bx (by rw [HR.out]; exact nodeR_none1 (stepW_none2 hpl fun hy => h32 hy.1)))
                clear HNO HR HM HSZ h32
                go_wp2_with fail
                go_ret
                exact HN.out
          · by_cases hpe : p = s.size
            · subst hpe
              have HRE := Lib.hid (HR.out.trans nodeR_end)
              have HUW : Hid (UIn B gu (c + 1) k v vd l st wr) := Lib.hid ⟨HM.out.bx, HM.out.np, HU.out.nds, HU.out.ok, HU.out.zr, HU.out.ln, HU.out.lu, HU.out.k1⟩
              have HST := Lib.hid (standsD_any wr B0 B gu (c + 1) k v vd l st HUW.out h0 hB0 (ndW id role con) n (by omega) HID.out ⟨rfl, rfl, rfl, rfl⟩ (szW HSZ.out.1 HSZ.out.2) hk)
              rw [← HRE.out] at HST
              unfold ndBox ndW at HST
              have hcl := nd_cells HM.out.bn
              simp only [ndW] at hcl
              obtain ⟨b0, b1, b2, b3, b4, b5, b6⟩ := hcl
              have HBW := Lib.hid (HB.out.trans HM.out.bel)
              clear HM HR HRE HUW HNO
              go_wp2_with (go_at_call 55; refine HST.out.mono ?_; rintro e w5 ⟨rfl, hb5, hc5, hst⟩; have HL5 : Hid (LineU B0 B gu (c + 1) (k + 1) (takesV st s.data.toList) w (.returned (.bool (takesV st s.data.toList).isSome)) w5) := Lib.hid ⟨rfl, HBW.out.trans hb5, hc5, hst⟩; clear hb5 hc5 hst)
              go_ret
              exact HL5.out
            · have e7 : ((p : Int) == (s.size : Int)) = false := by rw [beq_eq_false_iff_ne]; omega
              have HN := Lib.hid (HNO.out _ HM.out.bel HM.out.bx (by rw [HR.out]; exact nodeR_no2 hpe))
              clear HNO HR HM HSZ hpe
              go_wp2_with fail
              go_ret
              exact HN.out
/-- a line that is not the first one -/
theorem takesD_next (w : World) (B0 B gu c k : Nat) (v vd : Value) (l : List (Nd × Leaf)) (st : RS) (h : UIn B gu c k v vd l st w) (h0 : st.next ≠ 0) (hc : 1 ≤ c) (hcb : c ≤ 4194304) (hB0 : B0 ≤ gu) (s : ByteArray) (hs : s.size ≤ 1048576) (hk : k + 1 ≤ 4194304) :
    Calls Tryz.prog 21 #[.pointer (some ⟨gu, 0, none⟩), .string s] w (LineU B0 B gu (c + 1) (k + 1) (takesV st s.data.toList) w) := by
  have hle := blanksV_le s.data.toList
  rw [toList_eq] at hle
  by_cases hd : blanksV s.data.toList = s.size
  · exact takesD_blank w B0 B gu c k v vd l st h h0 hc hcb hB0 s hs hd
  · have hlt : blanksV s.data.toList < s.size := by omega
    by_cases h62 : s[blanksV s.data.toList].toNat = 62
    · exact takesD_ref w B0 B gu c k v vd l st h h0 hc hcb hB0 s hs _ rfl hlt h62 hk
    · by_cases h46 : s[blanksV s.data.toList].toNat = 46
      · exact takesD_prop w B0 B gu c k v vd l st h h0 hc hcb hB0 s hs _ rfl hlt h46 hk
      · exact takesD_node w B0 B gu c k v vd l st h h0 hc hcb hB0 s hs _ rfl hlt (fun hx => hx.elim h46 h62) hk
end Go.Proofs.YtjjlofaejpnnnaaGreatDoor
namespace Go.Proofs.YtjjlofaejpnnnaaGreatDoor
open Go Go.RowKit
set_option linter.unusedVariables false
/-- where the selection stands ahead of place i: at -1 there is none above last; else the least of them -/
def Picked (ids : List Int) (last : Int) (i : Nat) (at_ : Int) : Prop :=
  (at_ = -1 ∧ ∀ j x, j < i → ids[j]? = some x → x ≤ last) ∨ (∃ (a : Nat) (y : Int), at_ = (a : Int) ∧ a < i ∧ ids[a]? = some y ∧ last < y ∧ ∀ j x, j < i → ids[j]? = some x → last < x → y ≤ x)
theorem Picked.start (ids : List Int) (last : Int) : Picked ids last 0 (-1) := .inl ⟨rfl, fun j x h => by omega⟩
theorem Picked.skip {ids : List Int} {last at_ x : Int} {i : Nat} (h : Picked ids last i at_) (hx : ids[i]? = some x) (hle : x ≤ last) : Picked ids last (i + 1) at_ := by
  rcases h with ⟨rfl, h⟩ | ⟨a, y, rfl, ha, hy, hl, h⟩
  · refine .inl ⟨rfl, fun j z hj hz => ?_⟩
    rcases Nat.lt_or_ge j i with h1 | h1
    · exact h j z h1 hz
    · obtain rfl : j = i := by omega
      rw [hx] at hz; obtain rfl := Option.some.inj hz; exact hle
  · refine .inr ⟨a, y, rfl, by omega, hy, hl, fun j z hj hz hlz => ?_⟩
    rcases Nat.lt_or_ge j i with h1 | h1
    · exact h j z h1 hz hlz
    · obtain rfl : j = i := by omega
      rw [hx] at hz; obtain rfl := Option.some.inj hz; omega
theorem Picked.none_ {ids : List Int} {last x : Int} {i : Nat} (h : Picked ids last i (-1)) (hx : ids[i]? = some x) (hlt : last < x) : Picked ids last (i + 1) (i : Int) := by
  rcases h with ⟨_, h⟩ | ⟨a, y, e, _⟩
  · refine .inr ⟨i, x, rfl, by omega, hx, hlt, fun j z hj hz hlz => ?_⟩
    rcases Nat.lt_or_ge j i with h1 | h1
    · have := h j z h1 hz; omega
    · obtain rfl : j = i := by omega
      rw [hx] at hz; obtain rfl := Option.some.inj hz; exact Int.le_refl _
  · omega
theorem Picked.less {ids : List Int} {last x y : Int} {i a : Nat} (h : Picked ids last i (a : Int)) (hy : ids[a]? = some y) (hx : ids[i]? = some x) (hlt : last < x) (hxy : x < y) : Picked ids last (i + 1) (i : Int) := by
  rcases h with ⟨e, _⟩ | ⟨b, z, e, hb, hz, hl, h⟩
  · omega
  · obtain rfl : a = b := by omega
    rw [hy] at hz; obtain rfl := Option.some.inj hz
    refine .inr ⟨i, x, rfl, by omega, hx, hlt, fun j u hj hu hlu => ?_⟩
    rcases Nat.lt_or_ge j i with h1 | h1
    · have := h j u h1 hu hlu; omega
    · obtain rfl : j = i := by omega
      rw [hx] at hu; obtain rfl := Option.some.inj hu; exact Int.le_refl _
theorem Picked.more {ids : List Int} {last x y : Int} {i a : Nat} (h : Picked ids last i (a : Int)) (hy : ids[a]? = some y) (hx : ids[i]? = some x) (hxy : ¬ x < y) : Picked ids last (i + 1) (a : Int) := by
  rcases h with ⟨e, _⟩ | ⟨b, z, e, hb, hz, hl, h⟩
  · omega
  · obtain rfl : a = b := by omega
    rw [hy] at hz; obtain rfl := Option.some.inj hz
    refine .inr ⟨a, y, rfl, by omega, hy, hl, fun j u hj hu hlu => ?_⟩
    rcases Nat.lt_or_ge j i with h1 | h1
    · exact h j u h1 hu hlu
    · obtain rfl : j = i := by omega
      rw [hx] at hu; obtain rfl := Option.some.inj hu; omega
/-- the place that stands: there is such a node -/
theorem Picked.at_ok {ids : List Int} {last : Int} {i a : Nat} (h : Picked ids last i (a : Int)) : a < i ∧ ∃ y, ids[a]? = some y := by
  rcases h with ⟨e, _⟩ | ⟨b, z, e, hb, hz, _⟩
  · omega
  · obtain rfl : a = b := by omega
    exact ⟨hb, z, hz⟩
theorem Picked.form {ids : List Int} {last at_ : Int} {i : Nat} (h : Picked ids last i at_) : at_ = -1 ∨ ∃ a : Nat, at_ = (a : Int) := by
  rcases h with ⟨e, _⟩ | ⟨b, z, e, _⟩
  · exact .inl e
  · exact .inr ⟨b, e⟩
/-- the number of the last node taken; 0: none yet -/
def lastId (m : List Nd) (k : Nat) : Int := if k = 0 then 0 else match m[k - 1]? with
  | some nd => nd.id
  | none => 0
theorem lastId_next {m : List Nd} {k : Nat} {nd : Nd} (h : m[k]? = some nd) : lastId m (k + 1) = nd.id := by
  unfold lastId
  rw [if_neg (by omega), Nat.add_sub_cancel, h]
theorem sortV_len (l : List Nd) : (sortV l).length = l.length := (sortV_perm l).length_eq
theorem picked_done {l : List Nd} (hd : (l.map (·.id)).Nodup) (hpos : ∀ x ∈ l.map (·.id), 1 ≤ x) {k : Nat} (hk : k < l.length) {at_ : Int} (hP : Picked (l.map (·.id)) (lastId (sortV l) k) l.length at_) :
    ∃ (a : Nat) (nd : Nd), at_ = (a : Int) ∧ l[a]? = some nd ∧ (sortV l)[k]? = some nd := by
  have hs := sortV_sorted hd
  have hp := sortV_perm l
  have hk2 : k < (sortV l).length := by rw [sortV_len]; exact hk
  obtain ⟨nk, hnk⟩ : ∃ nk, (sortV l)[k]? = some nk := ⟨_, List.getElem?_eq_getElem hk2⟩
  have hmem : nk ∈ l := hp.mem_iff.1 (List.mem_of_getElem? hnk)
  have hgt : lastId (sortV l) k < nk.id := by
    unfold lastId
    by_cases h0 : k = 0
    · rw [if_pos h0]
      have := hpos nk.id (List.mem_map_of_mem hmem)
      omega
    · rw [if_neg h0]
      have hk3 : k - 1 < (sortV l).length := by omega
      rw [List.getElem?_eq_getElem hk3]
      simp only
      obtain ⟨_, e⟩ := List.getElem?_eq_some_iff.1 hnk
      have := List.pairwise_iff_getElem.1 hs (k - 1) k hk3 hk2 (by omega)
      unfold IdLt at this
      rw [← e]
      exact this
  obtain ⟨j, hj⟩ := List.getElem?_of_mem hmem
  have hjl := (List.getElem?_eq_some_iff.1 hj).1
  have hji : (l.map (·.id))[j]? = some nk.id := by rw [List.getElem?_map, hj]; rfl
  rcases hP with ⟨_, h⟩ | ⟨a, y, rfl, ha, hy, hl, h⟩
  · have := h j _ hjl hji; omega
  · obtain ⟨na, hna⟩ : ∃ na, l[a]? = some na := ⟨_, List.getElem?_eq_getElem ha⟩
    have hya : y = na.id := by
      rw [List.getElem?_map, hna] at hy
      exact (Option.some.inj hy).symm
    have h1 : na.id ≤ nk.id := by rw [← hya]; exact h j _ hjl hji hgt
    have h2 : nk.id ≤ na.id := by
      refine (sortV_next hd hnk).2 na (List.mem_of_getElem? hna) fun hm => ?_
      obtain ⟨i, hi⟩ := List.getElem?_of_mem hm
      rw [List.getElem?_take] at hi
      split at hi
      · rename_i hik
        -- then its number is at most the last one's
        have hil : i < (sortV l).length := (List.getElem?_eq_some_iff.1 hi).1
        have hle : na.id ≤ lastId (sortV l) k := by
          unfold lastId
          rw [if_neg (by omega)]
          have hk3 : k - 1 < (sortV l).length := by omega
          rw [List.getElem?_eq_getElem hk3]
          simp only
          obtain ⟨_, e⟩ := List.getElem?_eq_some_iff.1 hi
          rcases Nat.lt_or_ge i (k - 1) with hlt | hge
          · have := List.pairwise_iff_getElem.1 hs i (k - 1) hil hk3 hlt
            unfold IdLt at this
            rw [← e]; exact Int.le_of_lt this
          · obtain rfl : i = k - 1 := by omega
            rw [← e]; exact Int.le_refl _
        omega
      · cases hi
    have e : a = j := by
      have hai : (l.map (·.id))[a]? = some nk.id := by rw [List.getElem?_map, hna]; simp; omega
      obtain ⟨q1, e1⟩ := List.getElem?_eq_some_iff.1 hai
      obtain ⟨q2, e2⟩ := List.getElem?_eq_some_iff.1 hji
      rcases Nat.lt_trichotomy a j with h3 | h3 | h3
      · exact absurd (e1.trans e2.symm) (List.pairwise_iff_getElem.1 hd a j q1 q2 h3)
      · exact h3
      · exact absurd (e2.trans e1.symm) (List.pairwise_iff_getElem.1 hd j a q2 q1 h3)
    subst e
    exact ⟨a, nk, rfl, hj, hnk⟩
end Go.Proofs.YtjjlofaejpnnnaaGreatDoor

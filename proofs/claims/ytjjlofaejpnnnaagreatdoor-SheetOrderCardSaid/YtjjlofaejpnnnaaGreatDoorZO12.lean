/-
  WALKS over the law SheetOrder: told.
  THE LAW SheetOrder, in plain mathematics: line by line, the numbers told are those of document order.
  THE MODELS that awake reads and prints, computed by the kernel.
  WALKS over package sheet: first, fresh, last.
-/
import Derived.Test.YtjjlofaejpnnnaaGreatDoorZO11
namespace Go.Proofs.YtjjlofaejpnnnaaGreatDoor
open Go Go.RowKit
set_option linter.unusedVariables false
def TelP (s : ByteArray) (w : World) (e : Ending) (w' : World) : Prop := e = .returned (.int .i64 (toldN s.data.toList)) ∧ Below w.heap.size w w'
theorem dig_go {c : UInt8} {t : List UInt8} (h : isDg c = true) : ((c :: t).takeWhile isDg).length = (t.takeWhile isDg).length + 1 := by
  rw [List.takeWhile_cons, if_pos h, List.length_cons]
theorem dig_stop {c : UInt8} {t : List UInt8} (h : isDg c = false) : (c :: t).takeWhile isDg = [] := by
  rw [List.takeWhile_cons, if_neg (by rw [h]; decide)]
theorem isDg_yes {c : UInt8} (h1 : 48 ≤ c.toNat) (h2 : c.toNat ≤ 57) : isDg c = true := by unfold isDg; exact decide_eq_true ⟨h1, h2⟩
theorem isDg_no {c : UInt8} (h : ¬ (48 ≤ c.toNat ∧ c.toNat ≤ 57)) : isDg c = false := by unfold isDg; exact decide_eq_false h
set_option maxRecDepth 20000 in
set_option maxHeartbeats 3200000 in
theorem told_any (s : ByteArray) (w : World) (hs : s.size ≤ 1048576) (hE : Env w) : Calls Tryz.prog 17 #[.string s] w (TelP s w) := by
  have HE := Lib.hid hE
  obtain ⟨d, hd⟩ : ∃ d, blanksV s.data.toList = d := ⟨_, rfl⟩
  have hle := blanksV_le s.data.toList
  rw [hd, toList_eq] at hle
  have HD := Lib.hid hd
  have HBL : Hid (∀ (n : Nat) (hn : n < s.size), n < d → s[n].toNat = 32) := Lib.hid fun n hn hnd => blanks_before s (by omega) hn
  have HB3 : Hid (∀ hlt : d < s.size, s[d].toNat ≠ 32) := Lib.hid fun hlt => blanks_at hd hlt
  clear hE hd
  go_enter Tryz.func17, Tryz.ntmps17
  go_wp2_with fail
  go_loop [3] (fun a3 => ∃ n : Nat, a3 = .int .i64 n ∧ n ≤ d) (fun a3 => d - (intOf a3).toNat)
  case atStart => exact ⟨0, rfl, Nat.zero_le _⟩
  case round =>
    obtain ⟨k, rfl, hk⟩ := hrel
    by_cases hkd : k < d
    · have hks : k < s.size := by omega
      have y1 : ((s[k].toNat : Int) == 32) = true := by rw [beq_iff_eq]; have := HBL.out k hks hkd; omega
      go_wp2_with fail
      go_round
      case rel => exact ⟨k + 1, by go_num, by omega⟩
      case measure => simp [intOf]; omega
    · obtain rfl : k = d := by omega
      clear hkd hk HBL
      have HC : Hid (∀ n : Nat, n = k → n < s.size → True) := Lib.hid fun _ _ _ => trivial
      by_cases hks : k < s.size
      · have y1 : ((s[k].toNat : Int) == 32) = false := by rw [beq_eq_false_iff_ne]; have := HB3.out hks; omega
        clear HB3 HC
        go_upto_region 5 with fail
        go_loop [4] (fun a4 => ∃ n : Nat, a4 = .int .i64 n ∧ k ≤ n ∧ n ≤ s.size ∧ Hid (k + ((s.data.toList.drop k).takeWhile isDg).length = n + ((s.data.toList.drop n).takeWhile isDg).length)) (fun a4 => s.size - (intOf a4).toNat)
        case atStart => exact ⟨k, rfl, Nat.le_refl _, by omega, Lib.hid rfl⟩
        case round =>
          obtain ⟨n, rfl, hkn, hn, HR⟩ := hrel
          by_cases hlt : n < s.size
          · have e0 := drop_get' s n hlt
            by_cases h48 : 48 ≤ s[n].toNat
            · have z1 : (48 : Int) ≤ (s[n].toNat : Int) := by omega
              by_cases h57 : s[n].toNat ≤ 57
              · have z2 : (s[n].toNat : Int) ≤ 57 := by omega
                have HR2 : Hid (k + ((s.data.toList.drop k).takeWhile isDg).length = (n + 1) + ((s.data.toList.drop (n + 1)).takeWhile isDg).length) := Lib.hid (by rw [HR.out, e0, dig_go (isDg_yes h48 h57)]; omega)
                clear e0 h48 h57 HR
                go_wp2_with fail
                go_round
                case rel => exact ⟨n + 1, by go_num, by omega, by omega, HR2⟩
                case measure => simp [intOf]; omega
              · have z2 : ¬ (s[n].toNat : Int) ≤ 57 := by omega
                have HEN : Hid (k + ((s.data.toList.drop k).takeWhile isDg).length = n) := Lib.hid (by rw [HR.out, e0, dig_stop (isDg_no fun h => h57 h.2)]; rfl)
                clear e0 h48 h57 HR
                have HX : Hid ((s.extract k n).data.toList = (s.data.toList.drop k).takeWhile isDg) := Lib.hid (by rw [Lib.extract_data, ← HEN.out, Nat.add_sub_cancel_left]; exact (List.prefix_iff_eq_take.1 (List.takeWhile_prefix _)).symm)
                have hxs : (s.extract k n).size ≤ 281474976710656 := by rw [← toList_eq, HX.out]; have := (List.takeWhile_prefix (p := isDg) (l := s.data.toList.drop k)).length_le; rw [List.length_drop, toList_eq] at this; omega
                have HT : Hid (toldN s.data.toList = (intT (s.extract k n).data.toList).getD 0) := Lib.hid (by unfold toldN; rw [HD.out, HX.out])
                cases hi : intT (s.extract k n).data.toList with
                | none =>
                  have HI := Lib.hid (int_none hxs HE.out hi)
                  rw [hi] at HT
                  clear hi hxs HX HEN
                  go_wp2_with (go_at_call 39; refine HI.out.mono ?_; rintro e w1 ⟨rfl, hb1⟩; have HB1 := Lib.hid hb1; clear hb1)
                  go_ret
                  exact ⟨by rw [HT.out]; rfl, HB1.out⟩
                | some v =>
                  have HI := Lib.hid (int_some hxs HE.out hi)
                  rw [hi] at HT
                  clear hi hxs HX HEN
                  go_wp2_with (go_at_call 39; refine HI.out.mono ?_; rintro e w1 ⟨rfl, hb1⟩; have HB1 := Lib.hid hb1; clear hb1)
                  go_ret
                  exact ⟨by rw [HT.out]; rfl, HB1.out⟩
            · have z1 : ¬ (48 : Int) ≤ (s[n].toNat : Int) := by omega
              have HEN : Hid (k + ((s.data.toList.drop k).takeWhile isDg).length = n) := Lib.hid (by rw [HR.out, e0, dig_stop (isDg_no fun h => h48 h.1)]; rfl)
              clear e0 h48 HR
              have HX : Hid ((s.extract k n).data.toList = (s.data.toList.drop k).takeWhile isDg) := Lib.hid (by rw [Lib.extract_data, ← HEN.out, Nat.add_sub_cancel_left]; exact (List.prefix_iff_eq_take.1 (List.takeWhile_prefix _)).symm)
              have hxs : (s.extract k n).size ≤ 281474976710656 := by rw [← toList_eq, HX.out]; have := (List.takeWhile_prefix (p := isDg) (l := s.data.toList.drop k)).length_le; rw [List.length_drop, toList_eq] at this; omega
              have HT : Hid (toldN s.data.toList = (intT (s.extract k n).data.toList).getD 0) := Lib.hid (by unfold toldN; rw [HD.out, HX.out])
              cases hi : intT (s.extract k n).data.toList with
              | none =>
                have HI := Lib.hid (int_none hxs HE.out hi)
                rw [hi] at HT
                clear hi hxs HX HEN
                go_wp2_with (go_at_call 39; refine HI.out.mono ?_; rintro e w1 ⟨rfl, hb1⟩; have HB1 := Lib.hid hb1; clear hb1)
                go_ret
                exact ⟨by rw [HT.out]; rfl, HB1.out⟩
              | some v =>
                have HI := Lib.hid (int_some hxs HE.out hi)
                rw [hi] at HT
                clear hi hxs HX HEN
                go_wp2_with (go_at_call 39; refine HI.out.mono ?_; rintro e w1 ⟨rfl, hb1⟩; have HB1 := Lib.hid hb1; clear hb1)
                go_ret
                exact ⟨by rw [HT.out]; rfl, HB1.out⟩
          · have z0 : ¬ (n : Int) < (s.size : Int) := by omega
            have HEN : Hid (k + ((s.data.toList.drop k).takeWhile isDg).length = n) := Lib.hid (by rw [HR.out, drop_empty (by omega)]; rfl)
            clear HR
            have HX : Hid ((s.extract k n).data.toList = (s.data.toList.drop k).takeWhile isDg) := Lib.hid (by rw [Lib.extract_data, ← HEN.out, Nat.add_sub_cancel_left]; exact (List.prefix_iff_eq_take.1 (List.takeWhile_prefix _)).symm)
            have hxs : (s.extract k n).size ≤ 281474976710656 := by rw [← toList_eq, HX.out]; have := (List.takeWhile_prefix (p := isDg) (l := s.data.toList.drop k)).length_le; rw [List.length_drop, toList_eq] at this; omega
            have HT : Hid (toldN s.data.toList = (intT (s.extract k n).data.toList).getD 0) := Lib.hid (by unfold toldN; rw [HD.out, HX.out])
            cases hi : intT (s.extract k n).data.toList with
            | none =>
              have HI := Lib.hid (int_none hxs HE.out hi)
              rw [hi] at HT
              clear hi hxs HX HEN
              go_wp2_with (go_at_call 39; refine HI.out.mono ?_; rintro e w1 ⟨rfl, hb1⟩; have HB1 := Lib.hid hb1; clear hb1)
              go_ret
              exact ⟨by rw [HT.out]; rfl, HB1.out⟩
            | some v =>
              have HI := Lib.hid (int_some hxs HE.out hi)
              rw [hi] at HT
              clear hi hxs HX HEN
              go_wp2_with (go_at_call 39; refine HI.out.mono ?_; rintro e w1 ⟨rfl, hb1⟩; have HB1 := Lib.hid hb1; clear hb1)
              go_ret
              exact ⟨by rw [HT.out]; rfl, HB1.out⟩
      · have y0 : ¬ (k : Int) < (s.size : Int) := by omega
        clear HB3 HC
        go_upto_region 5 with fail
        go_loop [4] (fun a4 => ∃ n : Nat, a4 = .int .i64 n ∧ k ≤ n ∧ n ≤ s.size ∧ Hid (k + ((s.data.toList.drop k).takeWhile isDg).length = n + ((s.data.toList.drop n).takeWhile isDg).length)) (fun a4 => s.size - (intOf a4).toNat)
        case atStart => exact ⟨k, rfl, Nat.le_refl _, by omega, Lib.hid rfl⟩
        case round =>
          obtain ⟨n, rfl, hkn, hn, HR⟩ := hrel
          by_cases hlt : n < s.size
          · have e0 := drop_get' s n hlt
            by_cases h48 : 48 ≤ s[n].toNat
            · have z1 : (48 : Int) ≤ (s[n].toNat : Int) := by omega
              by_cases h57 : s[n].toNat ≤ 57
              · have z2 : (s[n].toNat : Int) ≤ 57 := by omega
                have HR2 : Hid (k + ((s.data.toList.drop k).takeWhile isDg).length = (n + 1) + ((s.data.toList.drop (n + 1)).takeWhile isDg).length) := Lib.hid (by rw [HR.out, e0, dig_go (isDg_yes h48 h57)]; omega)
                clear e0 h48 h57 HR
                go_wp2_with fail
                go_round
                case rel => exact ⟨n + 1, by go_num, by omega, by omega, HR2⟩
                case measure => simp [intOf]; omega
              · have z2 : ¬ (s[n].toNat : Int) ≤ 57 := by omega
                have HEN : Hid (k + ((s.data.toList.drop k).takeWhile isDg).length = n) := Lib.hid (by rw [HR.out, e0, dig_stop (isDg_no fun h => h57 h.2)]; rfl)
                clear e0 h48 h57 HR
                have HX : Hid ((s.extract k n).data.toList = (s.data.toList.drop k).takeWhile isDg) := Lib.hid (by rw [Lib.extract_data, ← HEN.out, Nat.add_sub_cancel_left]; exact (List.prefix_iff_eq_take.1 (List.takeWhile_prefix _)).symm)
                have hxs : (s.extract k n).size ≤ 281474976710656 := by rw [← toList_eq, HX.out]; have := (List.takeWhile_prefix (p := isDg) (l := s.data.toList.drop k)).length_le; rw [List.length_drop, toList_eq] at this; omega
                have HT : Hid (toldN s.data.toList = (intT (s.extract k n).data.toList).getD 0) := Lib.hid (by unfold toldN; rw [HD.out, HX.out])
                cases hi : intT (s.extract k n).data.toList with
                | none =>
                  have HI := Lib.hid (int_none hxs HE.out hi)
                  rw [hi] at HT
                  clear hi hxs HX HEN
                  go_wp2_with (go_at_call 39; refine HI.out.mono ?_; rintro e w1 ⟨rfl, hb1⟩; have HB1 := Lib.hid hb1; clear hb1)
                  go_ret
                  exact ⟨by rw [HT.out]; rfl, HB1.out⟩
                | some v =>
                  have HI := Lib.hid (int_some hxs HE.out hi)
                  rw [hi] at HT
                  clear hi hxs HX HEN
                  go_wp2_with (go_at_call 39; refine HI.out.mono ?_; rintro e w1 ⟨rfl, hb1⟩; have HB1 := Lib.hid hb1; clear hb1)
                  go_ret
                  exact ⟨by rw [HT.out]; rfl, HB1.out⟩
            · have z1 : ¬ (48 : Int) ≤ (s[n].toNat : Int) := by omega
              have HEN : Hid (k + ((s.data.toList.drop k).takeWhile isDg).length = n) := Lib.hid (by rw [HR.out, e0, dig_stop (isDg_no fun h => h48 h.1)]; rfl)
              clear e0 h48 HR
              have HX : Hid ((s.extract k n).data.toList = (s.data.toList.drop k).takeWhile isDg) := Lib.hid (by rw [Lib.extract_data, ← HEN.out, Nat.add_sub_cancel_left]; exact (List.prefix_iff_eq_take.1 (List.takeWhile_prefix _)).symm)
              have hxs : (s.extract k n).size ≤ 281474976710656 := by rw [← toList_eq, HX.out]; have := (List.takeWhile_prefix (p := isDg) (l := s.data.toList.drop k)).length_le; rw [List.length_drop, toList_eq] at this; omega
              have HT : Hid (toldN s.data.toList = (intT (s.extract k n).data.toList).getD 0) := Lib.hid (by unfold toldN; rw [HD.out, HX.out])
              cases hi : intT (s.extract k n).data.toList with
              | none =>
                have HI := Lib.hid (int_none hxs HE.out hi)
                rw [hi] at HT
                clear hi hxs HX HEN
                go_wp2_with (go_at_call 39; refine HI.out.mono ?_; rintro e w1 ⟨rfl, hb1⟩; have HB1 := Lib.hid hb1; clear hb1)
                go_ret
                exact ⟨by rw [HT.out]; rfl, HB1.out⟩
              | some v =>
                have HI := Lib.hid (int_some hxs HE.out hi)
                rw [hi] at HT
                clear hi hxs HX HEN
                go_wp2_with (go_at_call 39; refine HI.out.mono ?_; rintro e w1 ⟨rfl, hb1⟩; have HB1 := Lib.hid hb1; clear hb1)
                go_ret
                exact ⟨by rw [HT.out]; rfl, HB1.out⟩
          · have z0 : ¬ (n : Int) < (s.size : Int) := by omega
            have HEN : Hid (k + ((s.data.toList.drop k).takeWhile isDg).length = n) := Lib.hid (by rw [HR.out, drop_empty (by omega)]; rfl)
            clear HR
            have HX : Hid ((s.extract k n).data.toList = (s.data.toList.drop k).takeWhile isDg) := Lib.hid (by rw [Lib.extract_data, ← HEN.out, Nat.add_sub_cancel_left]; exact (List.prefix_iff_eq_take.1 (List.takeWhile_prefix _)).symm)
            have hxs : (s.extract k n).size ≤ 281474976710656 := by rw [← toList_eq, HX.out]; have := (List.takeWhile_prefix (p := isDg) (l := s.data.toList.drop k)).length_le; rw [List.length_drop, toList_eq] at this; omega
            have HT : Hid (toldN s.data.toList = (intT (s.extract k n).data.toList).getD 0) := Lib.hid (by unfold toldN; rw [HD.out, HX.out])
            cases hi : intT (s.extract k n).data.toList with
            | none =>
              have HI := Lib.hid (int_none hxs HE.out hi)
              rw [hi] at HT
              clear hi hxs HX HEN
              go_wp2_with (go_at_call 39; refine HI.out.mono ?_; rintro e w1 ⟨rfl, hb1⟩; have HB1 := Lib.hid hb1; clear hb1)
              go_ret
              exact ⟨by rw [HT.out]; rfl, HB1.out⟩
            | some v =>
              have HI := Lib.hid (int_some hxs HE.out hi)
              rw [hi] at HT
              clear hi hxs HX HEN
              go_wp2_with (go_at_call 39; refine HI.out.mono ?_; rintro e w1 ⟨rfl, hb1⟩; have HB1 := Lib.hid hb1; clear hb1)
              go_ret
              exact ⟨by rw [HT.out]; rfl, HB1.out⟩
end Go.Proofs.YtjjlofaejpnnnaaGreatDoor
namespace Go.Proofs.YtjjlofaejpnnnaaGreatDoor
open Go Go.RowKit
set_option linter.unusedVariables false
theorem cutA_stopS {c : UInt8} {t : List UInt8} (h : c = 10) : cutA 10 (c :: t) = [] := by
  unfold cutA
  rw [List.takeWhile_cons, if_neg (by simp [h])]
theorem cutA_goS {c : UInt8} {t : List UInt8} (h : c ≠ 10) : (cutA 10 (c :: t)).length = (cutA 10 t).length + 1 := by
  unfold cutA
  rw [List.takeWhile_cons, if_pos (by simp [h]), List.length_cons]
/-- a line taken: what is read still hangs together -/
theorem line_step {st st' : RS} {l : List UInt8} (h0 : st.next = 0 → st.nds = []) (h1 : st.next ≠ 0 → RsOk st ∧ RsTree st) (h : takesV st l = some st') : st'.next ≠ 0 ∧ RsOk st' ∧ RsTree st' ∧ idsOf st <+: idsOf st' := by
  have hok : RsOk st' := line_ok (fun h => (h1 h).1) (by rw [← takesV_line]; exact h)
  have hn : st'.next ≠ 0 := by have := hok.n1; omega
  have e : takesV st (bytesOf l).data.toList = some st' := h
  by_cases hz : st.next = 0
  · obtain ⟨_, ht⟩ := line_first hz e
    refine ⟨hn, hok, ht, ?_⟩
    unfold idsOf
    rw [h0 hz]
    exact List.nil_prefix
  · obtain ⟨ht, hi⟩ := line_told (h1 hz).1 (h1 hz).2 hz e
    refine ⟨hn, hok, ht, ?_⟩
    rcases hi with ⟨h2, _⟩ | ⟨h2, _⟩
    · rw [h2]; exact List.prefix_append _ _
    · rw [h2]; exact List.prefix_refl _
theorem lines_fin : ∀ (f : Nat) (st : RS) (c : Nat) (l : List UInt8) (fin : RS), (st.next = 0 → st.nds = []) → (st.next ≠ 0 → RsOk st ∧ RsTree st) → linesV f st c l = .inl fin → fin.next ≠ 0 ∧ RsOk fin ∧ RsTree fin ∧ idsOf st <+: idsOf fin
  | 0, _, _, _, _, _, _, h => by cases h
  | f + 1, st, c, l, fin, h0, h1, h => by
    have e : linesV (f + 1) st c l = match takesV st (cutA 10 l), l.drop (cutA 10 l).length with
      | some st', _ :: rest => if rest = [] then .inl st' else linesV f st' (c + 1) rest
      | _, _ => .inr (c + 1) := rfl
    rw [e] at h
    cases ht : takesV st (cutA 10 l) with
    | none => rw [ht] at h; cases h
    | some st' =>
      rw [ht] at h
      cases hd : l.drop (cutA 10 l).length with
      | nil => rw [hd] at h; cases h
      | cons x rest =>
        rw [hd] at h
        simp only at h
        obtain ⟨a1, a2, a3, a4⟩ := line_step h0 h1 ht
        split at h
        · obtain rfl := Sum.inl.inj h
          exact ⟨a1, a2, a3, a4⟩
        · obtain ⟨b1, b2, b3, b4⟩ := lines_fin f st' (c + 1) rest fin (fun h => absurd h a1) (fun _ => ⟨a2, a3⟩) h
          exact ⟨b1, b2, b3, a4.trans b4⟩
/-- what is read, whole -/
theorem read_fin {l : List UInt8} {f : Nat} {fin : RS} (h : linesV f ⟨0, [], []⟩ 0 l = .inl fin) : fin.next ≠ 0 ∧ RsOk fin ∧ RsTree fin := by
  obtain ⟨h1, h2, h3, _⟩ := lines_fin f _ 0 l fin (fun _ => rfl) (fun h => absurd rfl h) h
  exact ⟨h1, h2, h3⟩
/-- ahead of a line: how many numbers have been told -/
structure OrdS (s : ByteArray) (fr c at_ : Nat) (st : RS) : Prop where
  left : LeftU (s.data.toList.length + 1) s fr c st
  zero : c = 0 → st.next = 0 ∧ st.nds = [] ∧ fr = 0
  pos : 1 ≤ c → st.next ≠ 0 ∧ RsOk st ∧ RsTree st
  at_ : at_ = st.nds.length
section
variable {s : ByteArray} {fr c a i : Nat} {st fin : RS}
theorem OrdS.start (s : ByteArray) : OrdS s 0 0 0 ⟨0, [], []⟩ := ⟨LeftU.start s, fun _ => ⟨rfl, rfl, rfl⟩, fun h => by omega, rfl⟩
theorem OrdS.h0 (h : OrdS s fr c a st) : st.next = 0 → st.nds = [] := fun hz => by
  rcases Nat.eq_zero_or_pos c with h1 | h1
  · exact (h.zero h1).2.1
  · exact absurd hz (h.pos h1).1
theorem OrdS.h1 (h : OrdS s fr c a st) : st.next ≠ 0 → RsOk st ∧ RsTree st := fun hz => by
  rcases Nat.eq_zero_or_pos c with h1 | h1
  · exact absurd (h.zero h1).1 hz
  · exact (h.pos h1).2
theorem OrdS.pre (h : OrdS s fr c a st) (hfin : linesV (s.data.toList.length + 1) ⟨0, [], []⟩ 0 s.data.toList = .inl fin) : idsOf st <+: idsOf fin := by
  by_cases hgo : fr < s.size ∨ c = 0
  · obtain ⟨f, _, hL⟩ := h.left.go hgo
    rw [hfin] at hL
    exact (lines_fin f st c _ fin h.h0 h.h1 hL.symm).2.2.2
  · have := h.left.done hgo
    rw [hfin] at this
    obtain rfl := Sum.inl.inj this
    exact List.prefix_refl _
/-- a line's end -/
theorem OrdS.line (h : OrdS s fr c a st) (hfin : linesV (s.data.toList.length + 1) ⟨0, [], []⟩ 0 s.data.toList = .inl fin) (he : fr + (cutA 10 (s.data.toList.drop fr)).length = i) (hi : i < s.size) (hfr : fr ≤ i) :
    (c = 0 ∧ ∃ st', OrdS s (i + 1) (c + 1) a st') ∨ (1 ≤ c ∧ toldN (s.extract fr i).data.toList = 0 ∧ ∃ st', OrdS s (i + 1) (c + 1) a st') ∨ (1 ≤ c ∧ 1 ≤ toldN (s.extract fr i).data.toList ∧ a < (idsOf fin).length ∧ (idsOf fin)[a]? = some (toldN (s.extract fr i).data.toList) ∧ ∃ st', OrdS s (i + 1) (c + 1) (a + 1) st') := by
  have hgo : fr < s.size ∨ c = 0 := .inl (by omega)
  cases ht : takesV st (s.extract fr i).data.toList with
  | none =>
    have := h.left.no hgo he (by omega) (.inl ht)
    rw [hfin] at this; cases this
  | some st' =>
    have hL := h.left.next hgo he hi ht
    obtain ⟨a1, a2, a3, _⟩ := line_step h.h0 h.h1 ht
    rcases Nat.eq_zero_or_pos c with hc | hc
    · obtain ⟨z1, z2, _⟩ := h.zero hc
      obtain ⟨b1, _⟩ := line_first z1 ht
      exact .inl ⟨hc, st', hL, fun hx => by omega, fun _ => ⟨a1, a2, a3⟩, by rw [h.at_, z2, b1]⟩
    · obtain ⟨p1, p2, p3⟩ := h.pos hc
      obtain ⟨_, hi2⟩ := line_told p2 p3 p1 ht
      have hlen : ∀ (x : RS), (idsOf x).length = x.nds.length := fun x => by unfold idsOf; rw [List.length_map]
      rcases hi2 with ⟨h2, h3⟩ | ⟨h2, h3⟩
      · have hO : OrdS s (i + 1) (c + 1) (a + 1) st' := ⟨hL, fun hx => by omega, fun _ => ⟨a1, a2, a3⟩, by
          have := congrArg List.length h2
          rw [List.length_append, hlen, hlen] at this
          rw [h.at_, this]; rfl⟩
        have hp := hO.pre hfin
        rw [h2] at hp
        obtain ⟨t, ht2⟩ := hp
        have ha : a = (idsOf st).length := by rw [hlen]; exact h.at_
        refine .inr (.inr ⟨hc, h3, ?_, ?_, st', hO⟩)
        · rw [← ht2, ha]; simp
        · rw [← ht2, ha]; simp
      · refine .inr (.inl ⟨hc, h3, st', hL, fun hx => by omega, fun _ => ⟨a1, a2, a3⟩, ?_⟩)
        have := congrArg List.length h2
        rw [hlen, hlen] at this
        rw [h.at_, this]
theorem OrdS.end_ (h : OrdS s fr c a st) (hfin : linesV (s.data.toList.length + 1) ⟨0, [], []⟩ 0 s.data.toList = .inl fin) (he : fr + (cutA 10 (s.data.toList.drop fr)).length = s.size) : a = (idsOf fin).length := by
  by_cases hgo : fr < s.size ∨ c = 0
  · have := h.left.no hgo he (Nat.le_refl _) (.inr (Nat.lt_irrefl _))
    rw [hfin] at this; cases this
  · have := h.left.done hgo
    rw [hfin] at this
    obtain rfl := Sum.inl.inj this
    rw [h.at_]; unfold idsOf; rw [List.length_map]
end
/-- what a text is read as -/
theorem parse_cases (l : List UInt8) : (∃ a e, parseV l = ((0, []), a, e) ∧ e ≠ 0) ∨ ∃ st, parseV l = ((st.next, sortV st.nds), 0, 0) ∧ linesV (l.length + 1) ⟨0, [], []⟩ 0 l = .inl st ∧ l.length ≤ 1048576 := by
  unfold parseV
  by_cases h : 1048576 < l.length
  · rw [if_pos h]; exact .inl ⟨0, 3, rfl, by decide⟩
  · rw [if_neg h]
    cases hl : linesV (l.length + 1) ⟨0, [], []⟩ 0 l with
    | inl st => exact .inr ⟨st, rfl, rfl, by omega⟩
    | inr k => exact .inl ⟨_, 30, rfl, by decide⟩
end Go.Proofs.YtjjlofaejpnnnaaGreatDoor
namespace Go.Proofs.YtjjlofaejpnnnaaGreatDoor
open Go Go.RowKit
def awT : List UInt8 := [110, 101, 120, 116, 32, 49, 50, 10, 49, 32, 67, 108, 97, 115, 115, 10, 32, 46, 110, 97, 109, 101, 61, 34, 97, 92, 34, 98, 34, 10, 32, 62, 115, 117, 112, 101, 114, 61, 57, 10, 32, 52, 32, 109, 101, 109, 98, 101, 114, 115, 32, 70, 105, 101, 108, 100, 10, 32, 32, 46, 120, 61, 34, 49, 34, 10, 32, 50, 32, 101, 120, 116, 114, 97, 32, 70, 105, 101, 108, 100, 10, 51, 32, 63, 75, 101, 112, 116, 10]
def awM : List Nd := [⟨1, ⟨#[67, 108, 97, 115, 115]⟩, 0, ⟨#[]⟩, [(⟨#[110, 97, 109, 101]⟩, ⟨#[97, 34, 98]⟩)], [4, 2], [(⟨#[115, 117, 112, 101, 114]⟩, 9)]⟩, ⟨2, ⟨#[70, 105, 101, 108, 100]⟩, 1, ⟨#[101, 120, 116, 114, 97]⟩, [], [], []⟩, ⟨3, ⟨#[63, 75, 101, 112, 116]⟩, 0, ⟨#[]⟩, [], [], []⟩, ⟨4, ⟨#[70, 105, 101, 108, 100]⟩, 1, ⟨#[109, 101, 109, 98, 101, 114, 115]⟩, [(⟨#[120]⟩, ⟨#[49]⟩)], [], []⟩]
theorem aw1 : parseV awT = ((12, awM), 0, 0) := by kernel_rfl
theorem aw2 : parseV [110, 101, 120, 116, 32, 53, 10, 50, 32, 65, 10, 49, 32, 66, 10] = ((0, []), 3, 30) := by kernel_rfl
theorem aw3 : parseV [] = ((0, []), 1, 30) := by kernel_rfl
theorem aw4 : printV 12 awM = (awT, 0) := by kernel_rfl
theorem aw5 : printV 0 [] = ([], 29) := by kernel_rfl
end Go.Proofs.YtjjlofaejpnnnaaGreatDoor
namespace Go.Proofs.YtjjlofaejpnnnaaGreatDoor
open Go Go.RowKit
set_option linter.unusedVariables false
/-- a line is read: what there is then, or nothing -/
def LineQ (B0 B gr gm k : Nat) (r : Option RS) (w : World) (e : Ending) (w' : World) : Prop :=
  e = .returned (.bool r.isSome) ∧ Below B0 w w' ∧ ∀ st', r = some st' → ∃ v vw l, RIn B gr gm (k + 1) v vw l st' w'
theorem lineQ_no {B0 B gr gm k : Nat} {r : Option RS} {w w' : World} (hr : r = none) (h : Below B0 w w') : LineQ B0 B gr gm k r w (.returned (.bool false)) w' := by
  subst hr
  exact ⟨rfl, h, fun st' e => by cases e⟩
theorem lineQ_yes {B0 B gr gm k : Nat} {r : Option RS} {st : RS} {v vw : Value} {l : List (Nd × Leaf)} {w w' : World} (hr : r = some st) (h : Below B0 w w') (hR : RIn B gr gm (k + 1) v vw l st w') : LineQ B0 B gr gm k r w (.returned (.bool true)) w' := by
  subst hr
  exact ⟨rfl, h, fun st' e => by cases e; exact ⟨_, _, _, hR⟩⟩
theorem prefix_no {s p : List UInt8} (h : s.take p.length ≠ p) : Lib.hasPrefix s p = false := by
  unfold Lib.hasPrefix
  cases hb : p.isPrefixOf s with
  | false => rfl
  | true =>
    exfalso
    rw [List.isPrefixOf_iff_prefix] at hb
    exact h (List.prefix_iff_eq_take.1 hb).symm
theorem prefix_yes {s p : List UInt8} (h : s.take p.length = p) : Lib.hasPrefix s p = true ∧ Lib.trimPrefix s p = s.drop p.length := by
  have hb : p.isPrefixOf s = true := by
    rw [List.isPrefixOf_iff_prefix]
    exact List.prefix_iff_eq_take.2 h.symm
  refine ⟨hb, ?_⟩
  unfold Lib.trimPrefix Lib.hasPrefix
  rw [if_pos hb]
/-- what is cut off ahead -/
def PreP (s p : ByteArray) (w : World) (e : Ending) (w' : World) : Prop :=
  ∃ r : ByteArray, e = .returned (.tuple #[.string r, .bool (decide (s.data.toList.take p.size = p.data.toList))]) ∧ (s.data.toList.take p.size = p.data.toList → r.data.toList = s.data.toList.drop p.size) ∧ r.size ≤ s.size ∧ w = w'
theorem pre_any (s p : ByteArray) (w : World) : Calls Tryz.prog 43 #[.string s, .string p] w (PreP s p w) := by
  refine (Tryz.strings_CutPrefix s p w).mono ?_
  rintro e w' ⟨rfl, rfl⟩
  have hp : p.data.toList.length = p.size := toList_eq p
  by_cases h : s.data.toList.take p.size = p.data.toList
  · obtain ⟨h1, h2⟩ := prefix_yes (s := s.data.toList) (p := p.data.toList) (by rw [hp]; exact h)
    refine ⟨_, by rw [h1, decide_eq_true h], fun _ => by rw [h2, hp], ?_, rfl⟩
    rw [h2]
    show (List.drop _ _).toArray.size ≤ _
    rw [List.size_toArray, List.length_drop, toList_eq]
    omega
  · have h1 := prefix_no (s := s.data.toList) (p := p.data.toList) (by rw [hp]; exact h)
    refine ⟨_, by rw [h1, decide_eq_false h], fun hh => absurd hh h, ?_, rfl⟩
    unfold Lib.trimPrefix
    rw [h1]
    show (s.data.toList).toArray.size ≤ _
    rw [List.size_toArray, toList_eq]
    exact Nat.le_refl _
/-- the reader's five cells -/
theorem rd_cells {w : World} {gr gm : Nat} {next root : Int} {v vw : Value} (h : Blk w gr 45 #[.int .i64 next, v, .map (some gm), .int .i64 root, vw]) :
    w.cell? ⟨gr, 0, none⟩ = some (.int .i64 next) ∧ w.cell? ⟨gr, 1, none⟩ = some v ∧ w.cell? ⟨gr, 2, none⟩ = some (.map (some gm)) ∧ w.cell? ⟨gr, 3, none⟩ = some (.int .i64 root) ∧ w.cell? ⟨gr, 4, none⟩ = some vw :=
  ⟨(h.cell 0).trans rfl, (h.cell 1).trans rfl, (h.cell 2).trans rfl, (h.cell 3).trans rfl, (h.cell 4).trans rfl⟩
set_option maxRecDepth 20000 in
set_option maxHeartbeats 1600000 in
theorem first_any (w : World) (B0 B gr gm k : Nat) (v vw : Value) (l : List (Nd × Leaf)) (st : RS) (h : RIn B gr gm k v vw l st w) (h0 : st.next = 0) (hB0 : B0 ≤ gr) (s : ByteArray) (hs : s.size ≤ 1048576) (hk : k + 1 ≤ 4194304) (hE : Env w) :
    Calls Tryz.prog 41 #[.pointer (some ⟨gr, 0, none⟩), .string s] w (LineQ B0 B gr gm k (firstP s.data.toList) w) := by
  have H := Lib.hid h
  have HP := Lib.hid (pre_any s ⟨#[110, 101, 120, 116, 32]⟩ w)
  have HB : Hid (B0 ≤ w.heap.size) := Lib.hid (Nat.le_trans hB0 (Nat.le_of_lt h.box.lt))
  have HN : Hid (∀ r : ByteArray, r.size ≤ s.size → Calls Tryz.prog 76 #[.string r, .int .i64 1048577] w (NumP w (numberV r.data.toList 1048578))) := Lib.hid fun r hr => number_any r 1048577 w (by omega) hE
  have hgl := h.box.lt
  clear h hE
  go_enter Tryz.func41, Tryz.ntmps41
  go_wp2_with fail
  refine HP.out.mono ?_
  rintro e w1 ⟨r, rfl, hr1, hr2, rfl⟩
  have HR := Lib.hid (HN.out r hr2)
  by_cases hp : s.data.toList.take 5 = [110, 101, 120, 116, 32]
  · have hd : decide (s.data.toList.take (⟨#[110, 101, 120, 116, 32]⟩ : ByteArray).size = (⟨#[110, 101, 120, 116, 32]⟩ : ByteArray).data.toList) = true := decide_eq_true hp
    rw [hd]
    have HRL : Hid (r.data.toList = s.data.toList.drop 5) := Lib.hid (hr1 hp)
    rw [HRL.out] at HR
    have HF : Hid (firstP s.data.toList = (numberV (s.data.toList.drop 5) 1048578).map fun n => ⟨n, [], []⟩) := Lib.hid (by unfold firstP; rw [if_pos hp])
    clear hd hr1 hr2 hp
    cases hn : numberV (s.data.toList.drop 5) 1048578 with
    | none =>
      rw [hn] at HR HF
      clear hn
      go_wp2_with (go_at_call 76; refine HR.out.mono ?_; rintro e w2 ⟨rfl, hb2⟩; have HB2 := Lib.hid (hb2.mono HB.out); clear hb2; (try simp only [Option.getD_none, Option.isSome_none]))
      go_ret
      exact lineQ_no HF.out HB2.out
    | some n =>
      rw [hn] at HR HF
      have HNN := Lib.hid (numberV_some hn).2
      clear hn
      go_upto_region 5 with (go_at_call 76; refine HR.out.mono ?_; rintro e w2 ⟨rfl, hb2⟩; have HB2 := Lib.hid (hb2.mono HB.out); have H2 := Lib.hid (H.out.after hb2); clear hb2; (try simp only [Option.getD_some, Option.isSome_some]))
      have cx := (rd_cells H2.out.box).1
      have fx := H2.out.box.frozen 0
      go_wp2_with fail
      go_ret
      have hz := H2.out.zr h0
      have hbox := H2.out.box.set_ 0 (.int .i64 n)
      have hroot : rootV st = rootV ⟨n, [], []⟩ := by unfold rootV; rw [hz.1, hz.2]
      rw [hroot] at hbox
      have hnp := H2.out.np.other H2.out.box (by decide) (by decide) (by decide) (by decide) 0 (.int .i64 n)
      rw [hz.2] at hnp
      have hst := (H2.out.set.set (p := ⟨gr, 0, none⟩) (H2.out.set.blk_ne H2.out.box) (.int .i64 n)).mono (Nat.le_succ k)
      rw [hz.1] at hst
      refine lineQ_yes HF.out (HB2.out.setCell (p := ⟨gr, 0, none⟩) hB0 _) (v := v) (vw := vw) (l := l) ⟨by simpa using hbox, hnp, hst, by rw [H2.out.nds, hz.1], fun _ => ⟨HNN.out.1, by have := HNN.out.2; simp only; omega, rfl, deepOk_nil, Nat.zero_le _, by simp, by simp⟩, fun _ => ⟨rfl, rfl⟩, by simp, H2.out.lr, H2.out.lm, hk⟩
  · have hd : decide (s.data.toList.take (⟨#[110, 101, 120, 116, 32]⟩ : ByteArray).size = (⟨#[110, 101, 120, 116, 32]⟩ : ByteArray).data.toList) = false := decide_eq_false hp
    rw [hd]
    have HF : Hid (firstP s.data.toList = none) := Lib.hid (by unfold firstP; rw [if_neg hp])
    clear hd hr1 hr2 hp
    go_wp2_with (go_at_call 76; refine HR.out.mono ?_; rintro e w2 ⟨rfl, hb2⟩; have HB2 := Lib.hid (hb2.mono HB.out); clear hb2)
    go_ret
    exact lineQ_no HF.out HB2.out
/-- may a node with this number stand here? -/
def freshV (st : RS) (d : Nat) (s : List UInt8) : Option Int := (numberV s st.next).bind fun id => if (d = 0 ∧ id ≤ rootV st) ∨ id ∈ idsOf st then none else some id
set_option maxRecDepth 20000 in
set_option maxHeartbeats 1600000 in
theorem fresh_any (w : World) (B gr gm k : Nat) (v vw : Value) (l : List (Nd × Leaf)) (st : RS) (h : RIn B gr gm k v vw l st w) (h0 : st.next ≠ 0) (d : Nat) (s : ByteArray) (hs : s.size ≤ 1048576) (hE : Env w) :
    Calls Tryz.prog 85 #[.pointer (some ⟨gr, 0, none⟩), .int .i64 d, .string s] w (NumP w (freshV st d s.data.toList)) := by
  have H := Lib.hid h
  have hok := h.ok h0
  have hn1 := hok.n1
  have hn2 := hok.n2
  have HN : Hid (Calls Tryz.prog 76 #[.string s, .int .i64 (st.next - 1)] w (NumP w (numberV s.data.toList st.next))) := Lib.hid (by
    have := number_any s (st.next - 1) w (by omega) hE
    rwa [show st.next - 1 + 1 = st.next from by omega] at this)
  have hgl := h.box.lt
  obtain ⟨c0, _, c2, c3, _⟩ := rd_cells h.box
  have hw1 : IntKind.i64.wrap (st.next - 1) = st.next - 1 := IntWalk.i64_in _ (by omega)
  clear h hE hok
  cases hn : numberV s.data.toList st.next with
  | none =>
    rw [hn] at HN
    have HF : Hid (freshV st d s.data.toList = none) := Lib.hid (by unfold freshV; rw [hn]; rfl)
    clear hn
    go_enter Tryz.func85, Tryz.ntmps85
    go_wp2_with (go_at_call 76; refine HN.out.mono ?_; rintro e w2 ⟨rfl, hb2⟩; (try simp only [Option.getD_none, Option.isSome_none]))
    go_ret2
    rw [HF.out]
    exact numP rfl rfl hb2
  | some id =>
    rw [hn] at HN
    have hid := (numberV_some hn).2
    have HFF : Hid (freshV st d s.data.toList = if (d = 0 ∧ id ≤ rootV st) ∨ id ∈ idsOf st then none else some id) := Lib.hid (by unfold freshV; rw [hn]; rfl)
    clear hn
    have hk1 : -9223372036854775808 ≤ id ∧ id ≤ 9223372036854775807 := by omega
    have HK1 := Lib.hid hk1
    clear hk1
    by_cases hd : d = 0
    · by_cases hr : id ≤ rootV st
      · have HF : Hid (freshV st d s.data.toList = none) := Lib.hid (by rw [HFF.out, if_pos (.inl ⟨hd, hr⟩)])
        have hd0 : ((d : Int) == 0) = true := by rw [beq_iff_eq]; omega
        clear hd HFF
        go_enter Tryz.func85, Tryz.ntmps85
        go_wp2_with (go_at_call 76; refine HN.out.mono ?_; rintro e w2 ⟨rfl, hb2⟩; (try simp only [Option.getD_some, Option.isSome_some]); have c3' := (hb2.cell (p := ⟨gr, 3, none⟩) hgl).trans c3)
        go_ret2
        rw [HF.out]
        exact numP rfl rfl hb2
      · have hd0 : ((d : Int) == 0) = true := by rw [beq_iff_eq]; omega
        cases hm : (idsOf st).contains id with
        | true =>
          have HF : Hid (freshV st d s.data.toList = none) := Lib.hid (by rw [HFF.out, if_pos (.inr (by simpa using hm))])
          have HM := Lib.hid hm
          clear hd HFF hm
          go_enter Tryz.func85, Tryz.ntmps85
          go_wp2_with (go_at_call 76; refine HN.out.mono ?_; rintro e w2 ⟨rfl, hb2⟩; (try simp only [Option.getD_some, Option.isSome_some]); have c3' := (hb2.cell (p := ⟨gr, 3, none⟩) hgl).trans c3; have c2' := (hb2.cell (p := ⟨gr, 2, none⟩) hgl).trans c2; have hlk := (H.out.set.after hb2).look HK1.out; rw [show st.nds.map (·.id) = idsOf st from rfl, HM.out] at hlk)
          go_ret2
          rw [HF.out]
          exact numP rfl rfl ((hb2.alloc hb2.size _))
        | false =>
          have HF : Hid (freshV st d s.data.toList = some id) := Lib.hid (by rw [HFF.out, if_neg (by exact fun h => h.elim (fun h => hr h.2) (fun h => absurd h (by simpa using hm)))])
          have HM := Lib.hid hm
          clear hd HFF hm
          go_enter Tryz.func85, Tryz.ntmps85
          go_wp2_with (go_at_call 76; refine HN.out.mono ?_; rintro e w2 ⟨rfl, hb2⟩; (try simp only [Option.getD_some, Option.isSome_some]); have c3' := (hb2.cell (p := ⟨gr, 3, none⟩) hgl).trans c3; have c2' := (hb2.cell (p := ⟨gr, 2, none⟩) hgl).trans c2; have hlk := (H.out.set.after hb2).look HK1.out; rw [show st.nds.map (·.id) = idsOf st from rfl, HM.out] at hlk)
          go_ret2
          rw [HF.out]
          exact numP rfl rfl ((hb2.alloc hb2.size _))
    · have hd0 : ((d : Int) == 0) = false := by rw [beq_eq_false_iff_ne]; omega
      cases hm : (idsOf st).contains id with
      | true =>
        have HF : Hid (freshV st d s.data.toList = none) := Lib.hid (by rw [HFF.out, if_pos (.inr (by simpa using hm))])
        have HM := Lib.hid hm
        clear hd HFF hm
        go_enter Tryz.func85, Tryz.ntmps85
        go_wp2_with (go_at_call 76; refine HN.out.mono ?_; rintro e w2 ⟨rfl, hb2⟩; (try simp only [Option.getD_some, Option.isSome_some]); have c2' := (hb2.cell (p := ⟨gr, 2, none⟩) hgl).trans c2; have hlk := (H.out.set.after hb2).look HK1.out; rw [show st.nds.map (·.id) = idsOf st from rfl, HM.out] at hlk)
        go_ret2
        rw [HF.out]
        exact numP rfl rfl ((hb2.alloc hb2.size _))
      | false =>
        have HF : Hid (freshV st d s.data.toList = some id) := Lib.hid (by rw [HFF.out, if_neg (by exact fun h => h.elim (fun h => hd h.1) (fun h => absurd h (by simpa using hm)))])
        have HM := Lib.hid hm
        clear hd HFF hm
        go_enter Tryz.func85, Tryz.ntmps85
        go_wp2_with (go_at_call 76; refine HN.out.mono ?_; rintro e w2 ⟨rfl, hb2⟩; (try simp only [Option.getD_some, Option.isSome_some]); have c2' := (hb2.cell (p := ⟨gr, 2, none⟩) hgl).trans c2; have hlk := (H.out.set.after hb2).look HK1.out; rw [show st.nds.map (·.id) = idsOf st from rfl, HM.out] at hlk)
        go_ret2
        rw [HF.out]
        exact numP rfl rfl ((hb2.alloc hb2.size _))
/-- the last node, in its place -/
theorem last_no (w : World) (B gr gm k : Nat) (v vw : Value) (l : List (Nd × Leaf)) (st : RS) (h : RIn B gr gm k v vw l st w) (d : Nat) (hd : lastNd st d = none) :
    Calls Tryz.prog 82 #[.pointer (some ⟨gr, 0, none⟩), .int .i64 d] w fun e w' => e = .returned (.tuple #[.pointer none, .bool false]) ∧ w = w' := by
  obtain ⟨A, c, rfl, hc1, hc2⟩ := h.v_form
  obtain ⟨Aw, cw, rfl, hw1, hw2⟩ := h.w_form
  obtain ⟨_, c1, _, _, c4⟩ := rd_cells h.box
  by_cases h0 : st.nds.length = 0
  · have d0 : ((st.nds.length : Int) == 0) = true := by rw [h0]; rfl
    clear hd h h0
    go_enter Tryz.func82, Tryz.ntmps82
    go_wp2_with fail
    go_ret2
    exact ⟨rfl, rfl⟩
  · have d0 : ((st.nds.length : Int) == 0) = false := by rw [beq_eq_false_iff_ne]; omega
    have hne : d ≠ st.deep.getLastD 0 := by
      intro e
      unfold lastNd at hd
      rw [if_pos e, List.getLast?_eq_getElem?, List.getElem?_eq_none_iff] at hd
      omega
    have d1 : ((d : Int) == (st.deep.getLastD 0 : Int)) = false := by rw [beq_eq_false_iff_ne]; omega
    have d2 : ((d : Int) != (st.deep.getLastD 0 : Int)) = true := by rw [bne_iff_ne]; omega
    clear hd h h0 hne
    generalize st.deep.getLastD 0 = q at c4 d1 d2 hw1
    go_enter Tryz.func82, Tryz.ntmps82
    go_wp2_with fail
    go_ret2
    exact ⟨rfl, rfl⟩
theorem last_yes (w : World) (B gr gm k g n c : Nat) (vw : Value) (l : List (Nd × Leaf)) (st : RS) (h : RIn B gr gm k (.slice (some ⟨g, 0, none⟩) n c) vw l st w) (hn : st.nds.length = n) (h0 : 0 < n) (d : Nat) (hd : d = st.deep.getLastD 0) :
    Calls Tryz.prog 82 #[.pointer (some ⟨gr, 0, none⟩), .int .i64 d] w fun e w' => e = .returned (.tuple #[.pointer (some ⟨g, (n - 1) * 7, none⟩), .bool true]) ∧ Below w.heap.size w w' := by
  obtain ⟨A, c', hv, hc1, hc2⟩ := h.v_form
  injection hv with hA hn' hc'
  subst hc'
  obtain ⟨Aw, cw, rfl, hw1, hw2⟩ := h.w_form
  obtain ⟨_, c1, _, _, c4⟩ := rd_cells h.box
  have hcm : c ≤ 9223372036854775807 := by unfold maxLen at hc2; omega
  have d0 : ((n : Int) == 0) = false := by rw [beq_eq_false_iff_ne]; omega
  have d1 : ((d : Int) == (st.deep.getLastD 0 : Int)) = true := by rw [beq_iff_eq]; omega
  have d2 : ((d : Int) != (st.deep.getLastD 0 : Int)) = false := by rw [hd]; simp
  have hwr : IntKind.i64.wrap ((n : Int) - 1) = ((n - 1 : Nat) : Int) := by rw [IntWalk.i64_in _ (by omega)]; omega
  have hix : n - 1 < n := by omega
  clear h hn hA hd hn'
  generalize st.deep.getLastD 0 = q at c4 d1 d2 hw1
  go_enter Tryz.func82, Tryz.ntmps82
  go_wp2_with fail
  go_quiet (fail)
  go_wp2_with fail
  go_ret2
  exact ⟨by first | rfl | (simp; done), below_drewN (Below.refl _ _) _⟩
end Go.Proofs.YtjjlofaejpnnnaaGreatDoor

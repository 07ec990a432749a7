/-
  WALK of the law LexBlanks.
-/
import Derived.Test.YtinhlemebnlijaaDoorY18
import Derived.Test.YtinhlemebnlijaaDoorY23
namespace Go.Proofs.YtinhlemebnlijaaDoor
open Go Go.RowKit
set_option linter.unusedVariables false
theorem ints_at {w : World} {hi n c : Nat} {A : Option Addr} {l : List Int} (h : Row w 0 hi 1 A n c (intCells l)) {i : Nat} (hi' : i < n) : ∃ b o z, A = some ⟨b, o, none⟩ ∧ b < hi ∧ l[i]? = some z ∧ w.cell? ⟨b, o + i, none⟩ = some (.int .i64 z) := by
  have hl : l.length = n := by have := h.1; rw [intCells_length] at this; omega
  obtain ⟨b, o, e, _, hlt, hc⟩ := Row.at_ h (by omega)
  exact ⟨b, o, _, e, hlt, List.getElem?_eq_getElem (by omega), hc i _ (intCells_get (List.getElem?_eq_getElem (by omega)))⟩
set_option maxRecDepth 100000 in
set_option maxHeartbeats 6400000 in
theorem blanks_any (w : World) (hi : Nat) (s : ByteArray) (A : Option Addr) (n c : Nat) (l : List Int) (h : Row w 0 hi 1 A n c (intCells l)) (hh : hi ≤ w.heap.size) (hs : s.size ≤ 140737488355328) (hE : ScanEnv w) :
    Calls Tryd.prog 7 #[.string s, .slice A n c] w (Tells1 w true) := by
  have HA : Hid (Calls Tryd.prog 14 #[] w (Tells1 w true)) := Lib.hid (awake_any w hE)
  have HI : Hid (∀ Y, After w Y → Row Y 0 hi 1 A n c (intCells l)) := Lib.hid fun Y hY => Row.below h (hY.below.mono hh)
  have HLN : Hid (l.length = n) := Lib.hid (by have := h.1; rw [intCells_length] at this; omega)
  have hsz := toList_eq s
  rcases scanR_cases s.data.toList with ⟨_, hr⟩ | ⟨h4, toks, ht, hr⟩ | ⟨_, k, _, hr⟩
  · have HS : Hid (∀ Y, After w Y → Calls Tryd.prog 9 #[.string s] Y (ScanRow Y [] (0 : Nat) 3)) := Lib.hid fun Y hY => scan_row hs (hE.below hY.below) hr
    clear hE hr h hh hs
    go_enter Tryd.func7, Tryd.ntmps7
    go_wp2_with fail
    refine HA.out.mono ?_
    rintro e w1 ⟨rfl, hb1⟩
    have A1 := (After.refl w).next hb1
    clear hb1
    go_wp2_with fail
    refine (HS.out _ A1).mono ?_
    rintro e x1 ⟨B1, b1, rfl, _, _, hx1⟩
    have X1 := A1.next hx1
    clear hx1
    go_wp2_with fail
    go_ret
    exact tells1 (by first | rfl | (simp; done)) X1.below
  · obtain ⟨hN4, T, hT0, hTl, hTs⟩ := blanks_text l ht h4
    obtain ⟨N, hN⟩ : ∃ N, toks.length = N := ⟨_, rfl⟩
    have HS : Hid (∀ Y, After w Y → Calls Tryd.prog 9 #[.string s] Y (ScanRowN Y toks N)) := Lib.hid fun Y hY => by
      rw [← hN]; exact scan_row hs (hE.below hY.below) hr
    have HSC : Hid (T.length ≤ 4096 → ∃ m, AlikeL toks m ∧ ∀ Y, After w Y → Calls Tryd.prog 9 #[.string (ba T)] Y (ScanRowN Y m N)) := Lib.hid fun h => by
      obtain ⟨m, hm, ha⟩ := hTs h
      refine ⟨m, ha, fun Y hY => ?_⟩
      rw [← hN, ha.len]
      exact scan_row (by rw [ba_size]; omega) (hE.below hY.below) (by rw [ba_data]; exact hm)
    have HN := Lib.hid hN
    have HT0 := Lib.hid hT0
    clear hE hr h hh hTs ht hN hT0
    go_enter Tryd.func7, Tryd.ntmps7
    go_wp2_with fail
    refine HA.out.mono ?_
    rintro e w1 ⟨rfl, hb1⟩
    have A1 := (After.refl w).next hb1
    clear hb1
    go_wp2_with fail
    refine (HS.out _ A1).mono ?_
    rintro e w2 ⟨Ax, kx, rfl, _, htx, hb2⟩
    have A2 := A1.next hb2
    have HTX : Hid (∀ Y, Below w2.heap.size w2 Y → TokIn Y w2.heap.size Ax N kx toks) := Lib.hid fun Y hb => htx.below hb
    have hNm : N ≤ 4096 := by rw [← HN.out]; exact hN4
    clear hN4
    clear hb2 htx
    go_wp2_with fail
    go_loopw [8, 9, 10] (fun v at_ i wr => ∃ (j a : Nat) (out : List UInt8), i = .int .i64 j ∧ at_ = .int .i64 a ∧ ownB wr w2.heap.size v out ∧ BlankAt (moreB l) s.data.toList T toks j a out ∧ Below w2.heap.size w2 wr) (fun _ _ i _ => N + 1 - (intOf i).toNat)
    case atStart => exact ⟨0, 0, [], rfl, rfl, ownB.nil _ _, HT0.out, Below.refl _ _⟩
    case round =>
      obtain ⟨j, a, out, rfl, rfl, hown, hB, hb⟩ := hrel
      obtain ⟨wo, rfl⟩ : ∃ wo : World, wo = wr := ⟨_, rfl⟩
      have htop := hB.top
      rw [HN.out] at htop
      by_cases hle : j ≤ N
      · obtain ⟨q, h1, h2, h3, h4', hB', hlen⟩ := hB.turn (by rw [HN.out]; exact hle)
        rw [HN.out] at h3 h4'
        rw [hsz] at h2
        have hbl := moreB_len l j
        have HB' := Lib.hid hB'
        have HB0 := Lib.hid hb
        obtain ⟨av, cv, rfl⟩ := ownB_form hown
        have HO := Lib.hid hown
        clear hB hB' hown
        by_cases hjN : j < N
        · obtain ⟨b, o, t, rfl, hbl', htk, hc⟩ := (HTX.out _ hb).at_ hjN
          have hpl : t.place = (q : Int) := by
            obtain ⟨k, hk, hp⟩ := h3 hjN
            rw [htk] at hk
            cases hk
            exact hp
          have c3 := hc.c3
          rw [hpl] at c3
          clear hc hb h3 h4' hpl
          have t1 : ¬ q < a := by omega
          have t2 : ¬ s.size < q := by omega
          have hes : out.length + (s.extract a q).size ≤ 140737488355328 := by rw [← toList_eq, Lib.extract_data]; have := List.length_take_le (q - a) (s.data.toList.drop a); omega
          obtain ⟨P, hP⟩ : ∃ P, out ++ (s.extract a q).data.toList = P := ⟨_, rfl⟩
          have HP := Lib.hid hP
          by_cases hm : j < n
          · obtain ⟨b2, o2, z, rfl, _, hz, _⟩ := ints_at (HI.out _ A2) hm
            have HM : Hid (∀ Y, After w Y → Y.cell? ⟨b2, o2 + j, none⟩ = some (.int .i64 z)) := Lib.hid fun Y hY => by
              obtain ⟨b3, o3, z3, e3, _, hz3, hc3⟩ := ints_at (HI.out _ hY) hm
              cases e3
              rw [hz] at hz3
              cases hz3
              exact hc3
            have hcz : cntOf l j = z.tmod 8 := by unfold cntOf; rw [hz]
            have HCZ := Lib.hid hcz
            clear hz hcz
            go_wp2_with (at_builtin; go_must (refine app_str rfl _ _ rfl w2.heap.size _ out rfl HO.out (s.extract a q) rfl (by omega) HB0.out.size ?_; intro v3 w3 hown3 hb3; rw [HP.out] at hown3; obtain ⟨a3, cc3, rfl⟩ := ownB_form hown3; have HO3 := Lib.hid hown3; have HB3 := Lib.hid (HB0.out.trans hb3); have cz := HM.out _ (A2.next HB3.out); clear hown3 hb3))
            clear hP
            obtain ⟨cnt, hcnt⟩ : ∃ x : Int, z.tmod 8 = x := ⟨_, rfl⟩
            rw [hcnt] at HCZ
            simp only [hcnt]
            have HBT : Hid (BlankAt (moreB l) s.data.toList T toks (j + 1) q (P ++ blanksL cnt.toNat)) := Lib.hid (by
              have h := HB'.out
              unfold moreB at h
              rw [HCZ.out, ← Lib.extract_data, HP.out] at h
              exact h)
            have hc7 : cnt ≤ 7 := by have := cntOf_le l j; rw [HCZ.out] at this; omega
            have hPl : P.length + cnt.toNat ≤ T.length + 8 := by
              have h := HBT.out
              have hP' := HP.out
              have := congrArg List.length hP'
              rw [List.length_append, toList_eq] at this
              have he : (s.extract a q).size ≤ q - a := by rw [← toList_eq, Lib.extract_data]; exact List.length_take_le _ _
              omega
            go_loopw [8, 13] (fun v kk wr => ∃ k : Nat, k ≤ cnt.toNat ∧ kk = .int .i64 k ∧ ownB wr w2.heap.size v (P ++ blanksL k) ∧ Below w2.heap.size w2 wr) (fun _ kk _ => 8 - (intOf kk).toNat)
            case atStart => exact ⟨0, Nat.zero_le _, rfl, by simpa [blanksL] using HO3.out, HB3.out⟩
            case round =>
              obtain ⟨k, hk, rfl, hown, hb⟩ := hrel
              have HB4 := Lib.hid hb
              have hbz := hb.size
              have hbk := blanksL_len k
              obtain ⟨a4, c4, rfl⟩ := ownB_form hown
              have HO4 := Lib.hid hown
              have hl4 : (P ++ blanksL k).length ≤ T.length + 8 := by rw [List.length_append, hbk]; omega
              clear hown hb
              by_cases hlt : (k : Int) < cnt
              · rcases Nat.mod_two_eq_zero_or_one k with hp | hp
                · have hpm : (k : Int).tmod 2 = 0 := by rw [Int.tmod_eq_emod_of_nonneg (by omega)]; omega
                  have HBS : Hid (blanksL k ++ [32] = blanksL (k + 1)) := Lib.hid (by rw [blanksL_succ, if_pos hp])
                  go_wp2_with (at_builtin; (with_reducible show wpList _ _ _ (Oper.mk _ (Op.call ⟨_, _, #[42, 42]⟩) _ _ _ _ :: _) _ _); go_must (refine app_bytes rfl _ _ rfl w2.heap.size _ (P ++ blanksL k) rfl (HO4.out.alloc _) ⟨wr.heap.size, 0, none⟩ 1 1 [32] rfl rfl (cells_new wr _ _ _ rfl) (by omega) (by simp; omega) ?_; intro v5 w5 hown5 hb5; rw [List.append_assoc, HBS.out] at hown5; have HO5 := Lib.hid hown5; have HB5 := Lib.hid ((HB4.out.alloc (by have := HB4.out.size; omega) _).trans hb5); clear hown5 hb5))
                  exact ⟨⟨k + 1, by omega, by go_num, HO5.out, HB5.out⟩, by simp [intOf]; omega⟩
                · have hpm : (k : Int).tmod 2 = 1 := by rw [Int.tmod_eq_emod_of_nonneg (by omega)]; omega
                  have HBS : Hid (blanksL k ++ [10] = blanksL (k + 1)) := Lib.hid (by rw [blanksL_succ, if_neg (by omega)])
                  go_wp2_with (at_builtin; (with_reducible show wpList _ _ _ (Oper.mk _ (Op.call ⟨_, _, #[42, 42]⟩) _ _ _ _ :: _) _ _); go_must (refine app_bytes rfl _ _ rfl w2.heap.size _ (P ++ blanksL k) rfl (HO4.out.alloc _) ⟨wr.heap.size, 0, none⟩ 1 1 [10] rfl rfl (cells_new wr _ _ _ rfl) (by omega) (by simp; omega) ?_; intro v5 w5 hown5 hb5; rw [List.append_assoc, HBS.out] at hown5; have HO5 := Lib.hid hown5; have HB5 := Lib.hid ((HB4.out.alloc (by have := HB4.out.size; omega) _).trans hb5); clear hown5 hb5))
                  exact ⟨⟨k + 1, by omega, by go_num, HO5.out, HB5.out⟩, by simp [intOf]; omega⟩
              · obtain rfl : k = cnt.toNat := by omega
                go_wp2_with fail
                exact ⟨⟨j + 1, q, _, by go_num, rfl, HO4.out, HBT.out, HB4.out⟩, by simp [intOf]; omega⟩
          · have HCZ : Hid (cntOf l j = 0) := Lib.hid (by unfold cntOf; rw [List.getElem?_eq_none (by have := HLN.out; omega)])
            go_wp2_with (at_builtin; go_must (refine app_str rfl _ _ rfl w2.heap.size _ out rfl HO.out (s.extract a q) rfl (by omega) HB0.out.size ?_; intro v3 w3 hown3 hb3; rw [HP.out] at hown3; obtain ⟨a3, cc3, rfl⟩ := ownB_form hown3; have HO3 := Lib.hid hown3; have HB3 := Lib.hid (HB0.out.trans hb3);  clear hown3 hb3))
            clear hP
            obtain ⟨cnt, hcnt⟩ : ∃ x : Int, 0 = x := ⟨_, rfl⟩
            have HBT : Hid (BlankAt (moreB l) s.data.toList T toks (j + 1) q (P ++ blanksL cnt.toNat)) := Lib.hid (by
              have h := HB'.out
              unfold moreB at h
              rw [HCZ.out, ← Lib.extract_data, HP.out, hcnt] at h
              exact h)
            have hc7 : cnt ≤ 7 := by have := cntOf_le l j; rw [HCZ.out] at this; omega
            have hPl : P.length + cnt.toNat ≤ T.length + 8 := by
              have h := HBT.out
              have hP' := HP.out
              have := congrArg List.length hP'
              rw [List.length_append, toList_eq] at this
              have he : (s.extract a q).size ≤ q - a := by rw [← toList_eq, Lib.extract_data]; exact List.length_take_le _ _
              omega
            go_loopw [8, 13] (fun v kk wr => ∃ k : Nat, k ≤ cnt.toNat ∧ kk = .int .i64 k ∧ ownB wr w2.heap.size v (P ++ blanksL k) ∧ Below w2.heap.size w2 wr) (fun _ kk _ => 8 - (intOf kk).toNat)
            case atStart => exact ⟨0, Nat.zero_le _, rfl, by simpa [blanksL] using HO3.out, HB3.out⟩
            case round =>
              obtain ⟨k, hk, rfl, hown, hb⟩ := hrel
              have HB4 := Lib.hid hb
              have hbz := hb.size
              have hbk := blanksL_len k
              obtain ⟨a4, c4, rfl⟩ := ownB_form hown
              have HO4 := Lib.hid hown
              have hl4 : (P ++ blanksL k).length ≤ T.length + 8 := by rw [List.length_append, hbk]; omega
              clear hown hb
              by_cases hlt : (k : Int) < cnt
              · exact absurd hlt (by omega)
              · obtain rfl : k = cnt.toNat := by omega
                go_wp2_with fail
                exact ⟨⟨j + 1, q, _, by go_num, rfl, HO4.out, HBT.out, HB4.out⟩, by simp [intOf]; omega⟩
        · have hqs : q = s.size := by rw [h4' hjN, hsz]
          subst hqs
          clear hb h3 h4'
          have t1 : ¬ s.size < a := by omega
          have t2 : ¬ s.size < s.size := by omega
          have hes : out.length + (s.extract a s.size).size ≤ 140737488355328 := by rw [← toList_eq, Lib.extract_data]; have := List.length_take_le (s.size - a) (s.data.toList.drop a); omega
          obtain ⟨P, hP⟩ : ∃ P, out ++ (s.extract a s.size).data.toList = P := ⟨_, rfl⟩
          have HP := Lib.hid hP
          by_cases hm : j < n
          · obtain ⟨b2, o2, z, rfl, _, hz, _⟩ := ints_at (HI.out _ A2) hm
            have HM : Hid (∀ Y, After w Y → Y.cell? ⟨b2, o2 + j, none⟩ = some (.int .i64 z)) := Lib.hid fun Y hY => by
              obtain ⟨b3, o3, z3, e3, _, hz3, hc3⟩ := ints_at (HI.out _ hY) hm
              cases e3
              rw [hz] at hz3
              cases hz3
              exact hc3
            have hcz : cntOf l j = z.tmod 8 := by unfold cntOf; rw [hz]
            have HCZ := Lib.hid hcz
            clear hz hcz
            go_wp2_with (at_builtin; go_must (refine app_str rfl _ _ rfl w2.heap.size _ out rfl HO.out (s.extract a s.size) rfl (by omega) HB0.out.size ?_; intro v3 w3 hown3 hb3; rw [HP.out] at hown3; obtain ⟨a3, cc3, rfl⟩ := ownB_form hown3; have HO3 := Lib.hid hown3; have HB3 := Lib.hid (HB0.out.trans hb3); have cz := HM.out _ (A2.next HB3.out); clear hown3 hb3))
            clear hP
            obtain ⟨cnt, hcnt⟩ : ∃ x : Int, z.tmod 8 = x := ⟨_, rfl⟩
            rw [hcnt] at HCZ
            simp only [hcnt]
            have HBT : Hid (BlankAt (moreB l) s.data.toList T toks (j + 1) s.size (P ++ blanksL cnt.toNat)) := Lib.hid (by
              have h := HB'.out
              unfold moreB at h
              rw [HCZ.out, ← Lib.extract_data, HP.out] at h
              exact h)
            have hc7 : cnt ≤ 7 := by have := cntOf_le l j; rw [HCZ.out] at this; omega
            have hPl : P.length + cnt.toNat ≤ T.length + 8 := by
              have h := HBT.out
              have hP' := HP.out
              have := congrArg List.length hP'
              rw [List.length_append, toList_eq] at this
              have he : (s.extract a s.size).size ≤ s.size - a := by rw [← toList_eq, Lib.extract_data]; exact List.length_take_le _ _
              omega
            go_loopw [8, 13] (fun v kk wr => ∃ k : Nat, k ≤ cnt.toNat ∧ kk = .int .i64 k ∧ ownB wr w2.heap.size v (P ++ blanksL k) ∧ Below w2.heap.size w2 wr) (fun _ kk _ => 8 - (intOf kk).toNat)
            case atStart => exact ⟨0, Nat.zero_le _, rfl, by simpa [blanksL] using HO3.out, HB3.out⟩
            case round =>
              obtain ⟨k, hk, rfl, hown, hb⟩ := hrel
              have HB4 := Lib.hid hb
              have hbz := hb.size
              have hbk := blanksL_len k
              obtain ⟨a4, c4, rfl⟩ := ownB_form hown
              have HO4 := Lib.hid hown
              have hl4 : (P ++ blanksL k).length ≤ T.length + 8 := by rw [List.length_append, hbk]; omega
              clear hown hb
              by_cases hlt : (k : Int) < cnt
              · rcases Nat.mod_two_eq_zero_or_one k with hp | hp
                · have hpm : (k : Int).tmod 2 = 0 := by rw [Int.tmod_eq_emod_of_nonneg (by omega)]; omega
                  have HBS : Hid (blanksL k ++ [32] = blanksL (k + 1)) := Lib.hid (by rw [blanksL_succ, if_pos hp])
                  go_wp2_with (at_builtin; (with_reducible show wpList _ _ _ (Oper.mk _ (Op.call ⟨_, _, #[42, 42]⟩) _ _ _ _ :: _) _ _); go_must (refine app_bytes rfl _ _ rfl w2.heap.size _ (P ++ blanksL k) rfl (HO4.out.alloc _) ⟨wr.heap.size, 0, none⟩ 1 1 [32] rfl rfl (cells_new wr _ _ _ rfl) (by omega) (by simp; omega) ?_; intro v5 w5 hown5 hb5; rw [List.append_assoc, HBS.out] at hown5; have HO5 := Lib.hid hown5; have HB5 := Lib.hid ((HB4.out.alloc (by have := HB4.out.size; omega) _).trans hb5); clear hown5 hb5))
                  exact ⟨⟨k + 1, by omega, by go_num, HO5.out, HB5.out⟩, by simp [intOf]; omega⟩
                · have hpm : (k : Int).tmod 2 = 1 := by rw [Int.tmod_eq_emod_of_nonneg (by omega)]; omega
                  have HBS : Hid (blanksL k ++ [10] = blanksL (k + 1)) := Lib.hid (by rw [blanksL_succ, if_neg (by omega)])
                  go_wp2_with (at_builtin; (with_reducible show wpList _ _ _ (Oper.mk _ (Op.call ⟨_, _, #[42, 42]⟩) _ _ _ _ :: _) _ _); go_must (refine app_bytes rfl _ _ rfl w2.heap.size _ (P ++ blanksL k) rfl (HO4.out.alloc _) ⟨wr.heap.size, 0, none⟩ 1 1 [10] rfl rfl (cells_new wr _ _ _ rfl) (by omega) (by simp; omega) ?_; intro v5 w5 hown5 hb5; rw [List.append_assoc, HBS.out] at hown5; have HO5 := Lib.hid hown5; have HB5 := Lib.hid ((HB4.out.alloc (by have := HB4.out.size; omega) _).trans hb5); clear hown5 hb5))
                  exact ⟨⟨k + 1, by omega, by go_num, HO5.out, HB5.out⟩, by simp [intOf]; omega⟩
              · obtain rfl : k = cnt.toNat := by omega
                go_wp2_with fail
                exact ⟨⟨j + 1, s.size, _, by go_num, rfl, HO4.out, HBT.out, HB4.out⟩, by simp [intOf]; omega⟩
          · have HCZ : Hid (cntOf l j = 0) := Lib.hid (by unfold cntOf; rw [List.getElem?_eq_none (by have := HLN.out; omega)])
            go_wp2_with (at_builtin; go_must (refine app_str rfl _ _ rfl w2.heap.size _ out rfl HO.out (s.extract a s.size) rfl (by omega) HB0.out.size ?_; intro v3 w3 hown3 hb3; rw [HP.out] at hown3; obtain ⟨a3, cc3, rfl⟩ := ownB_form hown3; have HO3 := Lib.hid hown3; have HB3 := Lib.hid (HB0.out.trans hb3);  clear hown3 hb3))
            clear hP
            obtain ⟨cnt, hcnt⟩ : ∃ x : Int, 0 = x := ⟨_, rfl⟩
            have HBT : Hid (BlankAt (moreB l) s.data.toList T toks (j + 1) s.size (P ++ blanksL cnt.toNat)) := Lib.hid (by
              have h := HB'.out
              unfold moreB at h
              rw [HCZ.out, ← Lib.extract_data, HP.out, hcnt] at h
              exact h)
            have hc7 : cnt ≤ 7 := by have := cntOf_le l j; rw [HCZ.out] at this; omega
            have hPl : P.length + cnt.toNat ≤ T.length + 8 := by
              have h := HBT.out
              have hP' := HP.out
              have := congrArg List.length hP'
              rw [List.length_append, toList_eq] at this
              have he : (s.extract a s.size).size ≤ s.size - a := by rw [← toList_eq, Lib.extract_data]; exact List.length_take_le _ _
              omega
            go_loopw [8, 13] (fun v kk wr => ∃ k : Nat, k ≤ cnt.toNat ∧ kk = .int .i64 k ∧ ownB wr w2.heap.size v (P ++ blanksL k) ∧ Below w2.heap.size w2 wr) (fun _ kk _ => 8 - (intOf kk).toNat)
            case atStart => exact ⟨0, Nat.zero_le _, rfl, by simpa [blanksL] using HO3.out, HB3.out⟩
            case round =>
              obtain ⟨k, hk, rfl, hown, hb⟩ := hrel
              have HB4 := Lib.hid hb
              have hbz := hb.size
              have hbk := blanksL_len k
              obtain ⟨a4, c4, rfl⟩ := ownB_form hown
              have HO4 := Lib.hid hown
              have hl4 : (P ++ blanksL k).length ≤ T.length + 8 := by rw [List.length_append, hbk]; omega
              clear hown hb
              by_cases hlt : (k : Int) < cnt
              · exact absurd hlt (by omega)
              · obtain rfl : k = cnt.toNat := by omega
                go_wp2_with fail
                exact ⟨⟨j + 1, s.size, _, by go_num, rfl, HO4.out, HBT.out, HB4.out⟩, by simp [intOf]; omega⟩
      · have hfin := hB.fin (by rw [HN.out]; exact hle)
        subst hfin
        obtain ⟨av, cv, rfl⟩ := ownB_form hown
        have HO := Lib.hid hown
        have hcv := conv_own hown
        have AW := A2.next hb
        clear hB hown
        by_cases h5 : 4096 < out.length
        · go_wp2_with fail
          go_ret
          exact tells1 (by first | rfl | (simp; done)) AW.below
        · obtain ⟨m, hal, hs3⟩ := HSC.out (by omega)
          go_wp2_with fail
          refine (hs3 _ AW).mono ?_
          rintro e w4 ⟨A4, k4, rfl, _, ht4, hb4⟩
          have X4 := AW.next hb4
          have HX := (HTX.out _ (hb.trans (hb4.mono hb.size)))
          go_wp2_with fail
          refine (same_true w4 _ _ _ _ N kx k4 toks m HX ht4 (by have := hb.size; have := hb4.size; omega) (Nat.le_refl _) hal).mono ?_
          rintro e w5 ⟨rfl, hb5⟩
          have X5 := X4.next hb5
          go_wp2_with fail
          go_ret
          exact tells1 (by first | rfl | (simp; done)) X5.below
  · have HS : Hid (∀ Y, After w Y → Calls Tryd.prog 9 #[.string s] Y (ScanRow Y [] (k : Nat) 70)) := Lib.hid fun Y hY => scan_row hs (hE.below hY.below) hr
    clear hE hr h hh hs
    go_enter Tryd.func7, Tryd.ntmps7
    go_wp2_with fail
    refine HA.out.mono ?_
    rintro e w1 ⟨rfl, hb1⟩
    have A1 := (After.refl w).next hb1
    clear hb1
    go_wp2_with fail
    refine (HS.out _ A1).mono ?_
    rintro e x1 ⟨B1, b1, rfl, _, _, hx1⟩
    have X1 := A1.next hx1
    clear hx1
    go_wp2_with fail
    go_ret
    exact tells1 (by first | rfl | (simp; done)) X1.below
end Go.Proofs.YtinhlemebnlijaaDoor

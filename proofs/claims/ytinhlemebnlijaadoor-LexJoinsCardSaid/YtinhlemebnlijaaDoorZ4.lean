/-
  WALK over the document's own answers: Join.
-/
import Derived.Test.YtinhlemebnlijaaDoorZ3
namespace Go.Proofs.YtinhlemebnlijaaDoor
open Go Go.RowKit
set_option linter.unusedVariables false
theorem all_take {l : List Tok} {j : Nat} {k : Tok} (h : l[j]? = some k) : (l.take (j + 1)).all may = ((l.take j).all may && may k) := by
  rw [List.take_add_one, h]; simp [List.all_append]
theorem all_no {l : List Tok} {j : Nat} {k : Tok} (h : l[j]? = some k) (hm : may k = false) : joinR l = ([], 2) := by
  unfold joinR
  have : l.all may = false := by
    rw [Bool.eq_false_iff]
    intro ha
    rw [List.all_eq_true.1 ha k (List.mem_of_getElem? h)] at hm
    cases hm
  rw [if_pos this]
set_option maxRecDepth 100000 in
set_option maxHeartbeats 6400000 in
theorem refJoin_any (w : World) (hi : Nat) (A : Option Addr) (n c : Nat) (l : List Tok) (h : TokIn w hi A n c l) (hh : hi ≤ w.heap.size) (ht : ∀ k ∈ l, TokOk k) :
    Calls Tryd.prog 13 #[.slice A n c] w (JoinPost w (joinR l)) := by
  have hl := h.len
  have HLN := Lib.hid hl
  have hn := h.max
  have HI : Hid (∀ Y, Below w.heap.size w Y → TokIn Y hi A n c l) := Lib.hid fun Y hb => h.below (hb.mono hh)
  have HM : Hid (∀ k ∈ l, ∀ Y, Calls Tryd.prog 27 #[.agg #[.int .i64 k.kind, .string k.text, .int .i64 k.int, .int .i64 k.place]] Y (Tells1 Y (may k))) := Lib.hid fun k hk Y => refMay_any k Y (by have := (ht k hk).t; unfold maxLen; omega)
  have HF : Hid (∀ k ∈ l, k.text.size ≤ 4096 → ∀ Y, Calls Tryd.prog 28 #[.agg #[.int .i64 k.kind, .string k.text, .int .i64 k.int, .int .i64 k.place]] Y (SaidText Y (ba (formT k)))) := Lib.hid fun k hk h4 Y => refShown_any k Y (ht k hk) (fun _ => h4)
  have HTS : Hid (∀ k ∈ l, k.text.size ≤ 140737488355328 ∧ (k.text.size ≤ 4096 → (formT k).length ≤ 20000)) := Lib.hid fun k hk => ⟨(ht k hk).t, form_le (ht k hk)⟩
  unfold maxLen at hn
  clear h ht
  go_enter Tryd.func13, Tryd.ntmps13
  go_wp2_with fail
  go_loopw [4] (fun i wr => ∃ j : Nat, j ≤ n ∧ i = .int .i64 j ∧ Hid ((l.take j).all may = true) ∧ Below w.heap.size w wr) (fun i _ => n - (intOf i).toNat)
  case atStart => exact ⟨0, by omega, rfl, Lib.hid (by simp), Below.refl _ _⟩
  case round =>
    obtain ⟨j, hj, rfl, HAJ, hb⟩ := hrel
    have hszr : w.heap.size ≤ wr.heap.size := hb.size
    by_cases hlt : j < n
    · obtain ⟨b, o, t, rfl, hbl, htk, hc⟩ := (HI.out wr hb).at_ hlt
      have c0 := hc.c0
      have c1 := hc.c1
      have c2 := hc.c2
      have c3 := hc.c3
      have HTK := Lib.hid htk
      have HB := Lib.hid hb
      have HMT := Lib.hid (HM.out t (List.mem_of_getElem? htk))
      clear hc hb htk
      cases hm : may t with
      | false =>
        rw [hm] at HMT
        have HR := Lib.hid (all_no HTK.out hm)
        clear hm
        go_wp2_with (go_at_call 27; refine (HMT.out _).mono ?_; rintro e w1 ⟨rfl, hb1⟩)
        go_ret2
        exact joinPost (by rw [HR.out]) (HB.out.trans (hb1.mono HB.out.size))
      | true =>
        rw [hm] at HMT
        have HA1 : Hid ((l.take (j + 1)).all may = true) := Lib.hid (by rw [all_take HTK.out, HAJ.out, hm]; rfl)
        clear hm
        go_wp2_with (go_at_call 27; refine (HMT.out _).mono ?_; rintro e w1 ⟨rfl, hb1⟩)
        exact ⟨⟨j + 1, by omega, by go_num, HA1, HB.out.trans (hb1.mono HB.out.size)⟩, by simp [intOf]; omega⟩
    · have HA : Hid (l.all may = true) := Lib.hid (by have := HAJ.out; rwa [List.take_of_length_le (by have := HLN.out; omega)] at this)
      obtain ⟨wo, hwo⟩ : ∃ wo : World, wo = wr := ⟨_, rfl⟩
      rw [← hwo] at hb
      rw [← hwo]
      clear HAJ hszr
      have HBO := Lib.hid hb
      clear hb hwo
      go_wp2_with fail
      go_loopw [5, 6] (fun v i wr => ∃ j : Nat, j ≤ n ∧ i = .int .i64 j ∧ ownB wr w.heap.size v (joinT (l.take j)) ∧ (joinT (l.take j)).length ≤ 24097 ∧ Below w.heap.size w wr) (fun _ i _ => n - (intOf i).toNat)
      case atStart => exact ⟨0, by omega, rfl, by simpa [joinT] using ownB.nil _ _, by simp [joinT], HBO.out⟩
      case round =>
        obtain ⟨j, hj, rfl, hown, hlen, hb⟩ := hrel
        have hszr : w.heap.size ≤ wr.heap.size := hb.size
        by_cases hlt : j < n
        · obtain ⟨b, o, t, rfl, hbl, htk, hc⟩ := (HI.out wr hb).at_ hlt
          have HCA : Hid (∀ Y, Below w.heap.size w Y → CellsAt Y b (o + j * 4) t) := Lib.hid fun Y hY => by
            obtain ⟨b', o', t', e', hbl', htk', hc'⟩ := (HI.out Y hY).at_ hlt
            cases e'
            rw [htk] at htk'
            cases htk'
            exact hc'
          have c0 := hc.c0
          have c1 := hc.c1
          have c2 := hc.c2
          have c3 := hc.c3
          have HB := Lib.hid hb
          have HTK := Lib.hid htk
          have HMY : Hid (may t = true) := Lib.hid (List.all_eq_true.1 HA.out t (List.mem_of_getElem? htk))
          have hts := HTS.out t (List.mem_of_getElem? htk)
          obtain ⟨J, hJ⟩ : ∃ J, joinT (l.take (j + 1)) = J := ⟨_, rfl⟩
          obtain ⟨I, hI⟩ : ∃ I, joinT (l.take j) = I := ⟨_, rfl⟩
          have HIE := Lib.hid hI
          rw [hI] at hown hlen
          have HJT := Lib.hid hJ
          obtain ⟨av, cv, rfl⟩ := ownB_form hown
          have HO := Lib.hid hown
          clear hc hb hown
          by_cases h4 : t.text.size ≤ 4096
          · have HFT := Lib.hid (HF.out t (List.mem_of_getElem? HTK.out) h4)
            have hfl := hts.2 h4
            have g4 : ¬ 4096 < t.text.size := by omega
            by_cases h5 : I.length ≤ 4096
            · have g5 : ¬ 4096 < I.length := by omega
              by_cases h0 : j = 0
              · have HJ : Hid (I ++ formT t = J) := Lib.hid (by subst h0; rw [← hJ, ← hI, joinT_take0 htk]; rfl)
                have hj0 : ¬ 0 < j := by omega
                have hJL : J.length ≤ 24097 := by rw [← HJ.out, List.length_append]; omega
                clear hI hJ htk h0
                go_wp2_with (first | (go_at_call 28; go_must (refine (HFT.out _).mono ?_; rintro e w2 ⟨rfl, hb2⟩)) | (at_builtin; go_must (refine app_str rfl _ _ rfl w.heap.size _ I rfl (HO.out.below hb2) (ba (formT t)) rfl (by rw [ba_size]; first | omega | (simp; omega)) (by have := hb2.size; have := HB.out.size; omega) ?_; intro v3 w3 hown3 hb3; rw [ba_data, HJ.out] at hown3; obtain ⟨a3, cc3, rfl⟩ := ownB_form hown3; have HO3 := Lib.hid hown3; clear hown3)))
                exact ⟨⟨j + 1, by omega, by go_num, by rw [HJT.out]; exact HO3.out, by rw [HJT.out]; exact hJL, (HB.out.trans ((hb2.mono HB.out.size).trans hb3))⟩, by simp [intOf]; omega⟩
              · have HJ : Hid (I ++ [32] ++ formT t = J) := Lib.hid (by rw [← hJ, ← hI, joinT_take htk (by omega)])
                have hj0 : 0 < j := by omega
                have hJL : J.length ≤ 24097 := by rw [← HJ.out, List.length_append, List.length_append, List.length_singleton]; omega
                clear hI hJ htk h0
                go_wp2_with (first | (at_builtin; (with_reducible show wpList _ _ _ (Oper.mk _ (Op.call ⟨_, _, #[42, 42]⟩) _ _ _ _ :: _) _ _); go_must (refine app_bytes rfl _ _ rfl w.heap.size _ I rfl (HO.out.alloc _) ⟨wr.heap.size, 0, none⟩ 1 1 [32] rfl rfl (cells_new wr _ _ _ rfl) (by omega) (by simp; omega) ?_; intro v4 w4 hown4 hb4; have HB4 := Lib.hid ((HB.out.alloc hszr _).trans hb4); have HO4 := Lib.hid hown4; have q4 := HCA.out _ HB4.out; have q0 := q4.c0; have q1 := q4.c1; have q2 := q4.c2; have q3 := q4.c3; clear hown4 hb4 q4)) | (go_at_call 28; go_must (refine (HFT.out _).mono ?_; rintro e w2 ⟨rfl, hb2⟩)) | (at_builtin; go_must (refine app_str rfl _ _ rfl w.heap.size _ (I ++ [32]) rfl (HO4.out.below hb2) (ba (formT t)) rfl (by rw [ba_size]; first | omega | (simp; omega)) (by have := hb2.size; have := HB4.out.size; omega) ?_; intro v3 w3 hown3 hb3; rw [ba_data, HJ.out] at hown3; obtain ⟨a3, cc3, rfl⟩ := ownB_form hown3; have HO3 := Lib.hid hown3; clear hown3)))
                exact ⟨⟨j + 1, by omega, by go_num, by rw [HJT.out]; exact HO3.out, by rw [HJT.out]; exact hJL, (HB4.out.trans ((hb2.mono HB4.out.size).trans hb3))⟩, by simp [intOf]; omega⟩
            · have g5 : 4096 < I.length := by omega
              have HR := Lib.hid (joinR_long HA.out (by have := joinT_mono l j; rw [HIE.out] at this; omega))
              clear hI hJ htk
              go_wp2_with fail
              go_ret2
              exact joinPost (by rw [HR.out]) HB.out
          · have g4 : 4096 < t.text.size := by omega
            have HR := Lib.hid (joinR_long HA.out (by have := form_in HTK.out; have := form_ge HMY.out; omega))
            clear hI hJ htk
            go_wp2_with fail
            go_ret2
            exact joinPost (by rw [HR.out]) HB.out
        · have HLE : Hid (joinT (l.take j) = joinT l) := Lib.hid (by rw [List.take_of_length_le (by have := HLN.out; omega)])
          obtain ⟨I, hI⟩ : ∃ I, joinT (l.take j) = I := ⟨_, rfl⟩
          have HIE := Lib.hid hI
          rw [hI] at hown hlen
          obtain ⟨av, cv, rfl⟩ := ownB_form hown
          have HCV := Lib.hid (conv_own hown)
          have HB := Lib.hid hb
          clear hown hb hI
          by_cases h5 : I.length ≤ 4096
          · have g5 : ¬ 4096 < I.length := by omega
            have HR := Lib.hid (joinR_fin HA.out (by rw [HIE.out]; exact h5) (by have := HLN.out; omega : l.length ≤ j))
            go_wp2_with ((with_reducible show wpList _ _ _ (Oper.mk _ (Op.convert 42 9 _) _ _ _ _ :: _) _ _); refine wpList_conv rfl _ rfl rfl HCV.out ?_)
            go_ret2
            exact joinPost (by rw [HR.out, HIE.out]) HB.out
          · have g5 : 4096 < I.length := by omega
            have HR := Lib.hid (joinR_long HA.out (by rw [← HLE.out, HIE.out]; exact g5))
            go_wp2_with fail
            go_ret2
            exact joinPost (by rw [HR.out]) HB.out
end Go.Proofs.YtinhlemebnlijaaDoor

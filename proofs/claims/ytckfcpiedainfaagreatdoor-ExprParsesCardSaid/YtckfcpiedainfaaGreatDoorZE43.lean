/-
  WALKS over the document's own answers: Unquote.
-/
import Derived.Test.YtckfcpiedainfaaGreatDoorZE42
import Derived.Lib.Strings
namespace Go.Proofs.YtckfcpiedainfaaGreatDoor
open Go Go.RowKit
set_option linter.unusedVariables false
/-- Form, its answer unnamed -/
def FormedN (w : World) (l : List UInt8) (e : Ending) (w' : World) : Prop := ∃ f : ByteArray, f.data.toList = l ∧ e = .returned (.string f) ∧ Below w.heap.size w w'
theorem refForm_at (c : Nat) (hc : c < 256) (w : World) : Calls Tryz.prog 58 #[.int .u8 (c : Int)] w (FormedN w (form (UInt8.ofNat c))) := by
  have h := refForm_any (UInt8.ofNat c) w
  rw [enc_ofNat hc] at h
  exact h.mono fun e w' ⟨he, hb⟩ => ⟨_, by simp, he, hb⟩
def CommonedN (w : World) (n : Nat) (e : Ending) (w' : World) : Prop := ∃ m : Nat, m = n ∧ e = .returned (.int .i64 m) ∧ ∃ q, w' = w.drewN q
theorem refCommon_at (s t : ByteArray) (w : World) (hs : s.size ≤ maxLen) (ht : t.size ≤ maxLen) :
    Calls Tryz.prog 59 #[.string s, .string t] w (CommonedN w (common s.data.toList t.data.toList)) :=
  (refCommon_any s t w hs ht).mono fun e w' ⟨he, hb⟩ => ⟨_, rfl, he, hb⟩
theorem rest_list (s : ByteArray) (k : Nat) (hk : k ≤ s.size) : (s.extract k (min (s.size : Int) ((k : Int) + 4)).toNat).data.toList = (s.data.toList.drop k).take 4 := by
  have hsz : s.data.toList.length = s.size := by rw [Array.length_toList]; rfl
  have e : (min (s.size : Int) ((k : Int) + 4)).toNat = min s.size (k + 4) := by omega
  rw [e, Lib.extract_data]
  by_cases h4 : k + 4 ≤ s.size
  · have : min s.size (k + 4) - k = 4 := by omega
    rw [this]
  · have : min s.size (k + 4) - k = s.size - k := by omega
    rw [this, List.take_of_length_le (by rw [List.length_drop, hsz]; omega), List.take_of_length_le (by rw [List.length_drop, hsz]; omega)]
/-- what the search over the forms finds, and what it does not -/
theorem scan_found {s : ByteArray} {k : Nat} (hk : k ≤ s.size) (hn : ∀ h : k < s.size, ¬ s[k].toNat = 34) (b : UInt8) (h : common (form b) (s.data.toList.drop k) = (form b).length) :
    k + (form b).length ≤ s.size ∧ scan s k = ((scan s (k + (form b).length)).1.map (b :: ·), (scan s (k + (form b).length)).2) := by
  have hlt : k < s.size := by
    by_cases hlt : k < s.size
    · exact hlt
    · rw [drop_none s k hlt, common_nil_right] at h
      have := form_length b
      omega
  obtain ⟨u, hu⟩ := common_all _ _ h
  have hst : stepAt s k hlt = ((form b).length, some b.toNat) := by rw [stepAt_eq, hu, step_of_form]
  have e : UInt8.ofNat b.toNat = b := by simp
  have := scan_step hlt (hn hlt) hst
  rw [e] at this
  exact ⟨(stepAt_le hst).1, this⟩
theorem scan_lost {s : ByteArray} {k : Nat} (hk : k ≤ s.size) (hn : ∀ h : k < s.size, ¬ s[k].toNat = 34) (h : ∀ c, c < 256 → common (form (UInt8.ofNat c)) (s.data.toList.drop k) ≠ (form (UInt8.ofNat c)).length) :
    scan s k = (none, k + maxFar (s.data.toList.drop k) 256) := by
  by_cases hlt : k < s.size
  · rcases hst : stepAt s k hlt with ⟨n, r⟩
    have he := stepAt_eq s k hlt
    rw [hst] at he
    cases r with
    | none => rw [scan_stop hlt (hn hlt) hst, maxFar_all he.symm]
    | some b =>
      exfalso
      have hb := ((stepAt_le hst).2 b rfl).1
      obtain ⟨u, hu⟩ := form_of_step (fun x t e => by
        rw [drop_get s k hlt] at e
        have := (List.cons.inj e).1
        rw [← this]; exact hn hlt) he.symm
      exact h b hb (by rw [hu, common_self])
  · rw [scan_end hlt, drop_none s k hlt]
    have : maxFar [] 256 = 0 := by
      have := maxFar_le [] 0 (fun c => by rw [common_nil_right]; omega) 256
      omega
    rw [this]; rfl
theorem form_size {f : ByteArray} {c : UInt8} (hf : f.data.toList = form c) : Hid (f.data.toList = form c) ∧ f.size ≤ 4 := by
  refine ⟨hf, ?_⟩
  have h : f.data.toList.length = f.size := by rw [Array.length_toList]; rfl
  rw [← h, hf]
  exact (form_length c).2
theorem rest_size (s : ByteArray) (k : Nat) (hk : k ≤ s.size) (hs : s.size + 8 ≤ 140737488355328) : (s.extract k (min (s.size : Int) ((k : Int) + 4)).toNat).size ≤ maxLen := by
  have h := rest_list s k hk
  have e : ∀ x : ByteArray, x.data.toList.length = x.size := fun x => by rw [Array.length_toList]; rfl
  rw [← e, h]
  have := List.length_take_le 4 (s.data.toList.drop k)
  unfold maxLen; omega
theorem common_is {s f : ByteArray} {k m c : Nat} (hk : k ≤ s.size) (hf : Hid (f.data.toList = form (UInt8.ofNat c)))
    (hm : m = common f.data.toList (s.extract k (min (s.size : Int) ((k : Int) + 4)).toNat).data.toList) : m = common (form (UInt8.ofNat c)) (s.data.toList.drop k) := by
  rw [hm, hf.out, rest_list s k hk, common_take _ _ _ (form_length _).2]
theorem common_yes {s f : ByteArray} {k m c : Nat} (hk : k ≤ s.size) (hf : Hid (f.data.toList = form (UInt8.ofNat c))) (he : Hid (common (form (UInt8.ofNat c)) (s.data.toList.drop k) = (form (UInt8.ofNat c)).length))
    (hm : m = common f.data.toList (s.extract k (min (s.size : Int) ((k : Int) + 4)).toNat).data.toList) :
    m ≤ 4 ∧ ((m : Int) == (f.size : Int)) = true ∧ Hid (m = common (form (UInt8.ofNat c)) (s.data.toList.drop k)) := by
  have h := common_is hk hf hm
  have e : f.data.toList.length = f.size := by rw [Array.length_toList]; rfl
  rw [hf.out] at e
  have := (form_length (UInt8.ofNat c)).2
  have := he.out
  exact ⟨by omega, by rw [beq_iff_eq]; omega, h⟩
theorem common_no {s f : ByteArray} {k m c : Nat} (hk : k ≤ s.size) (hf : Hid (f.data.toList = form (UInt8.ofNat c))) (he : Hid (common (form (UInt8.ofNat c)) (s.data.toList.drop k) ≠ (form (UInt8.ofNat c)).length))
    (hm : m = common f.data.toList (s.extract k (min (s.size : Int) ((k : Int) + 4)).toNat).data.toList) :
    m ≤ 4 ∧ ((m : Int) == (f.size : Int)) = false ∧ Hid (m = common (form (UInt8.ofNat c)) (s.data.toList.drop k)) := by
  have h := common_is hk hf hm
  have e : f.data.toList.length = f.size := by rw [Array.length_toList]; rfl
  rw [hf.out] at e
  have := (form_length (UInt8.ofNat c)).2
  have := common_le_left (form (UInt8.ofNat c)) (s.data.toList.drop k)
  have := he.out
  exact ⟨by omega, by rw [beq_eq_false_iff_ne]; omega, h⟩
theorem cells_newq (w : World) (news : List UInt8) (cs : Array Value) (T : TypeId) (q : Nat) (hc : cs.toList = news.map enc) : ∀ j u, (news.map enc)[j]? = some u → ((w.alloc (.cells cs T)).drewN q).cell? ((⟨w.heap.size, 0, none⟩ : Addr).add j) = some u :=
  cells_new w news cs T hc
/-- the search, c bytes far -/
def InRel (w : World) (k : Nat) (l r : List UInt8) (v7 v8 v9 v10 v12 : Value) (wr : World) : Prop :=
  ∃ c : Nat, c ≤ 256 ∧ v12 = .int .i64 c ∧ Below w.heap.size w wr ∧
    ((v10 = .bool false ∧ v8 = .int .i64 k ∧ ownB wr w.heap.size v7 l ∧ v9 = .int .i64 (maxFar r c) ∧ ∀ c', c' < c → common (form (UInt8.ofNat c')) r ≠ (form (UInt8.ofNat c')).length) ∨
     (∃ (b : UInt8) (m : Int), v10 = .bool true ∧ common (form b) r = (form b).length ∧ v8 = .int .i64 ((k + (form b).length : Nat) : Int) ∧ ownB wr w.heap.size v7 (l ++ [b]) ∧ v9 = .int .i64 m))
set_option maxRecDepth 100000 in
set_option maxHeartbeats 800000 in
theorem refUnquote_in (s : ByteArray) (t : Nat) (w : World) (hs : s.size + 8 ≤ 140737488355328) (ht : t < s.size) (hq : s[t].toNat = 34) :
    Calls Tryz.prog 35 #[.string s, .int .i64 t] w (Unq w (unq s t)) := by
  have h0 : ((s[t].toNat : Int) != 34) = false := by simp [hq]
  have h1 : ((t : Int) == (s.size : Int)) = false := by rw [beq_eq_false_iff_ne]; omega
  have h2 : decide ((t : Int) < 0) = false := by simp
  have h3 : decide (s.size < t) = false := by simp; omega
  have HQ := Lib.hid hq
  clear hq
  go_enter Tryz.func35, Tryz.ntmps35
  go_wp2_with fail
  go_loopw [7, 8] (fun v i wr => UnqRel s t w v i wr) (fun _ i _ => s.size - (intOf i).toNat)
  case atStart => exact ⟨t + 1, [], by omega, by go_num, ownB.nil _ _, by simp, Below.refl _ _, by simp⟩
  case round =>
    obtain ⟨k, l, hk, rfl, hown, hlen, hb, hs0⟩ := hrel
    have HS := Lib.hid hs0
    clear hs0
    have hszr : w.heap.size ≤ wr.heap.size := hb.size
    by_cases hlt : k < s.size
    · by_cases c1 : s[k].toNat = 34
      · have d1 : ((s[k].toNat : Int) == 34) = true := by rw [beq_iff_eq]; omega
        have HE := Lib.hid (scan_quote hlt c1)
        clear c1
        have hcv := conv_own hown
        go_wp2_with fail
        go_ret3
        exact unq_fin (unq_some ht HQ.out (by rw [HS.out, HE.out]; simp)) hb
      · have d1 : ((s[k].toNat : Int) == 34) = false := by rw [beq_eq_false_iff_ne]; omega
        have hnq : ∀ h : k < s.size, ¬ s[k].toNat = 34 := fun _ => c1
        have HF : Hid (∀ b, common (form b) (s.data.toList.drop k) = (form b).length → k + (form b).length ≤ s.size ∧ scan s k = ((scan s (k + (form b).length)).1.map (b :: ·), (scan s (k + (form b).length)).2)) := Lib.hid (scan_found hk hnq)
        have HL : Hid ((∀ c, c < 256 → common (form (UInt8.ofNat c)) (s.data.toList.drop k) ≠ (form (UInt8.ofNat c)).length) → scan s k = (none, k + maxFar (s.data.toList.drop k) 256)) := Lib.hid (scan_lost hk hnq)
        clear hnq c1
        go_wp2_with fail
        go_loopw [7, 8, 9, 10, 12] (fun v7 v8 v9 v10 v12 wq => InRel w k l (s.data.toList.drop k) v7 v8 v9 v10 v12 wq) (fun _ _ _ _ c _ => 256 - (intOf c).toNat)
        case atStart => exact ⟨0, by omega, rfl, hb, .inl ⟨rfl, rfl, hown, rfl, fun c' h => by omega⟩⟩
        case round =>
          clear hown hb hszr
          obtain ⟨c, hc, rfl, hb, hin⟩ := hrel
          rcases hin with ⟨rfl, rfl, hown, rfl, hno⟩ | ⟨b, m, rfl, hcm, rfl, hown, rfl⟩
          · have hszq := hb.size
            have NO := Lib.hid hno
            clear hno
            by_cases hcl : c < 256
            · have hmf := maxFar_small (s.data.toList.drop k) c
              by_cases heq : common (form (UInt8.ofNat c)) (s.data.toList.drop k) = (form (UInt8.ofNat c)).length
              · have HE := Lib.hid heq
                clear heq
                go_wp2_with (first | (go_at_call 58; refine (refForm_at c hcl _).mono ?_; rintro e w2 ⟨f, hf, rfl, hb2⟩; obtain ⟨HF2, hf4⟩ := form_size hf; clear hf) | (go_at_call 59; refine (refCommon_at f _ _ (by unfold maxLen; omega) (rest_size s k hk hs)).mono ?_; rintro e w3 ⟨m, hm, rfl, q, rfl⟩; obtain ⟨hm4, hmf2, HM⟩ := common_yes hk HF2 HE hm; clear hm) | (at_builtin; refine app_bytes rfl _ _ rfl w.heap.size _ _ rfl ((hown.below hb2).alloc _) ⟨w2.heap.size, 0, none⟩ 1 1 [UInt8.ofNat c] rfl rfl (cells_newq w2 _ _ _ q (by simp [enc]; omega)) (by omega) (by have := hb2.size; have := hb.size; simp; omega) ?_; intro v4 w4 hown4 hb4))
                have hb' : Below w.heap.size w w4 := hb.trans ((hb2.mono hszq).trans (((below_drewN (Below.refl _ _) q).alloc (by have := hb2.size; simp; omega) _).trans hb4))
                exact ⟨⟨c + 1, by omega, by go_num, hb', .inr ⟨UInt8.ofNat c, _, rfl, HE.out, by rw [← HE.out, ← HM.out]; go_num, hown4, rfl⟩⟩, by simp [intOf]; omega⟩
              · have HE := Lib.hid heq
                clear heq
                go_wp2_with (first | (go_at_call 58; refine (refForm_at c hcl _).mono ?_; rintro e w2 ⟨f, hf, rfl, hb2⟩; obtain ⟨HF2, hf4⟩ := form_size hf; clear hf) | (go_at_call 59; refine (refCommon_at f _ _ (by unfold maxLen; omega) (rest_size s k hk hs)).mono ?_; rintro e w3 ⟨m, hm, rfl, q, rfl⟩; obtain ⟨hm4, hmf2, HM⟩ := common_no hk HF2 HE hm; clear hm))
                have hb' : Below w.heap.size w (w2.drewN q) := below_drewN (hb.trans (hb2.mono hszq)) q
                exact ⟨⟨c + 1, by omega, by go_num, hb', .inl ⟨rfl, rfl, hown.below (below_drewN hb2 q), by simp only [maxFar]; rw [← HM.out]; go_num, fun c' h' => by
                  by_cases e : c' = c
                  · subst e; exact HE.out
                  · exact NO.out c' (by omega)⟩⟩, by simp [intOf]; omega⟩
            · obtain rfl : c = 256 := by omega
              have hfin : unq s t = ([], ((k + maxFar (s.data.toList.drop k) 256 : Nat) : Int), 10) := unq_none ht HQ.out (by rw [HS.out, HL.out NO.out]; rfl)
              have FIN := Lib.hid hfin
              have hmf := maxFar_small (s.data.toList.drop k) 256
              clear hfin
              go_wp2_with fail
              go_ret3
              rw [FIN.out]
              exact ⟨by simp, hb⟩
          · have CM := Lib.hid hcm
            clear hcm
            have hfb := HF.out b CM.out
            have hf1 := hfb.1
            have hf2 := Lib.hid hfb.2
            have hp := (form_length b).1
            clear hfb
            go_wp2_with fail
            all_goals exact ⟨⟨k + (form b).length, l ++ [b], hf1, by go_num, hown, by simp; omega, hb, by rw [HS.out, hf2.out]; simp [Option.map_map, Function.comp_def]⟩, by simp [intOf]; omega⟩
    · have d1 : decide ((k : Int) < (s.size : Int)) = false := by simp; omega
      have hnq : ∀ h : k < s.size, ¬ s[k].toNat = 34 := fun h => absurd h hlt
      have HF : Hid (∀ b, common (form b) (s.data.toList.drop k) = (form b).length → k + (form b).length ≤ s.size ∧ scan s k = ((scan s (k + (form b).length)).1.map (b :: ·), (scan s (k + (form b).length)).2)) := Lib.hid (scan_found hk hnq)
      have HL : Hid ((∀ c, c < 256 → common (form (UInt8.ofNat c)) (s.data.toList.drop k) ≠ (form (UInt8.ofNat c)).length) → scan s k = (none, k + maxFar (s.data.toList.drop k) 256)) := Lib.hid (scan_lost hk hnq)
      clear hnq
      go_wp2_with fail
      go_loopw [7, 8, 9, 10, 12] (fun v7 v8 v9 v10 v12 wq => InRel w k l (s.data.toList.drop k) v7 v8 v9 v10 v12 wq) (fun _ _ _ _ c _ => 256 - (intOf c).toNat)
      case atStart => exact ⟨0, by omega, rfl, hb, .inl ⟨rfl, rfl, hown, rfl, fun c' h => by omega⟩⟩
      case round =>
        clear hown hb hszr
        obtain ⟨c, hc, rfl, hb, hin⟩ := hrel
        rcases hin with ⟨rfl, rfl, hown, rfl, hno⟩ | ⟨b, m, rfl, hcm, rfl, hown, rfl⟩
        · have hszq := hb.size
          have NO := Lib.hid hno
          clear hno
          by_cases hcl : c < 256
          · have hmf := maxFar_small (s.data.toList.drop k) c
            by_cases heq : common (form (UInt8.ofNat c)) (s.data.toList.drop k) = (form (UInt8.ofNat c)).length
            · have HE := Lib.hid heq
              clear heq
              go_wp2_with (first | (go_at_call 58; refine (refForm_at c hcl _).mono ?_; rintro e w2 ⟨f, hf, rfl, hb2⟩; obtain ⟨HF2, hf4⟩ := form_size hf; clear hf) | (go_at_call 59; refine (refCommon_at f _ _ (by unfold maxLen; omega) (rest_size s k hk hs)).mono ?_; rintro e w3 ⟨m, hm, rfl, q, rfl⟩; obtain ⟨hm4, hmf2, HM⟩ := common_yes hk HF2 HE hm; clear hm) | (at_builtin; refine app_bytes rfl _ _ rfl w.heap.size _ _ rfl ((hown.below hb2).alloc _) ⟨w2.heap.size, 0, none⟩ 1 1 [UInt8.ofNat c] rfl rfl (cells_newq w2 _ _ _ q (by simp [enc]; omega)) (by omega) (by have := hb2.size; have := hb.size; simp; omega) ?_; intro v4 w4 hown4 hb4))
              have hb' : Below w.heap.size w w4 := hb.trans ((hb2.mono hszq).trans (((below_drewN (Below.refl _ _) q).alloc (by have := hb2.size; simp; omega) _).trans hb4))
              exact ⟨⟨c + 1, by omega, by go_num, hb', .inr ⟨UInt8.ofNat c, _, rfl, HE.out, by rw [← HE.out, ← HM.out]; go_num, hown4, rfl⟩⟩, by simp [intOf]; omega⟩
            · have HE := Lib.hid heq
              clear heq
              go_wp2_with (first | (go_at_call 58; refine (refForm_at c hcl _).mono ?_; rintro e w2 ⟨f, hf, rfl, hb2⟩; obtain ⟨HF2, hf4⟩ := form_size hf; clear hf) | (go_at_call 59; refine (refCommon_at f _ _ (by unfold maxLen; omega) (rest_size s k hk hs)).mono ?_; rintro e w3 ⟨m, hm, rfl, q, rfl⟩; obtain ⟨hm4, hmf2, HM⟩ := common_no hk HF2 HE hm; clear hm))
              have hb' : Below w.heap.size w (w2.drewN q) := below_drewN (hb.trans (hb2.mono hszq)) q
              exact ⟨⟨c + 1, by omega, by go_num, hb', .inl ⟨rfl, rfl, hown.below (below_drewN hb2 q), by simp only [maxFar]; rw [← HM.out]; go_num, fun c' h' => by
                by_cases e : c' = c
                · subst e; exact HE.out
                · exact NO.out c' (by omega)⟩⟩, by simp [intOf]; omega⟩
          · obtain rfl : c = 256 := by omega
            have hfin : unq s t = ([], ((k + maxFar (s.data.toList.drop k) 256 : Nat) : Int), 10) := unq_none ht HQ.out (by rw [HS.out, HL.out NO.out]; rfl)
            have FIN := Lib.hid hfin
            have hmf := maxFar_small (s.data.toList.drop k) 256
            clear hfin
            go_wp2_with fail
            go_ret3
            rw [FIN.out]
            exact ⟨by simp, hb⟩
        · have CM := Lib.hid hcm
          clear hcm
          have hfb := HF.out b CM.out
          have hf1 := hfb.1
          have hf2 := Lib.hid hfb.2
          have hp := (form_length b).1
          clear hfb
          go_wp2_with fail
          all_goals exact ⟨⟨k + (form b).length, l ++ [b], hf1, by go_num, hown, by simp; omega, hb, by rw [HS.out, hf2.out]; simp [Option.map_map, Function.comp_def]⟩, by simp [intOf]; omega⟩
set_option maxHeartbeats 400000 in
theorem refUnquote_any (s : ByteArray) (t : Int) (w : World) (hs : s.size + 8 ≤ 140737488355328) :
    Calls Tryz.prog 35 #[.string s, .int .i64 t] w (Unq w (unq s t)) := by
  by_cases h0 : t < 0 ∨ (s.size : Int) < t
  · have hu : unq s t = ([], 0, 2) := by unfold unq; rw [if_pos h0]
    have HU := Lib.hid hu
    clear hu
    rcases h0 with h0 | h0
    · go_enter Tryz.func35, Tryz.ntmps35
      go_wp2_with fail
      go_ret3
      exact unq_fin HU.out (Below.refl _ _)
    · have h1 : ¬ t < 0 := by omega
      go_enter Tryz.func35, Tryz.ntmps35
      go_wp2_with fail
      go_ret3
      exact unq_fin HU.out (Below.refl _ _)
  · obtain ⟨t, rfl⟩ := Int.eq_ofNat_of_zero_le (show 0 ≤ t by omega)
    by_cases ht : t < s.size
    · by_cases hq : s[t].toNat = 34
      · exact refUnquote_in s t w hs ht hq
      · have hu : unq s t = ([], (t : Int), 10) := by
          unfold unq; rw [if_neg h0]; simp only [Int.toNat_natCast]; rw [dif_pos ht, if_neg hq]
        have HU := Lib.hid hu
        have h4 : ((s[t].toNat : Int) != 34) = true := by rw [bne_iff_ne]; omega
        have h1 : ((t : Int) == (s.size : Int)) = false := by rw [beq_eq_false_iff_ne]; omega
        have h2 : decide ((t : Int) < 0) = false := by simp
        have h3 : decide (s.size < t) = false := by simp; omega
        clear hu hq h0
        go_enter Tryz.func35, Tryz.ntmps35
        go_wp2_with fail
        go_ret3
        exact unq_fin HU.out (Below.refl _ _)
    · have hu : unq s t = ([], (t : Int), 10) := by
        unfold unq; rw [if_neg h0]; simp only [Int.toNat_natCast]; rw [dif_neg ht]
      have HU := Lib.hid hu
      have h1 : ((t : Int) == (s.size : Int)) = true := by rw [beq_iff_eq]; omega
      have h2 : decide ((t : Int) < 0) = false := by simp
      have h3 : decide (s.size < t) = false := by simp; omega
      clear hu h0
      go_enter Tryz.func35, Tryz.ntmps35
      go_wp2_with fail
      go_ret3
      exact unq_fin HU.out (Below.refl _ _)
end Go.Proofs.YtckfcpiedainfaaGreatDoor

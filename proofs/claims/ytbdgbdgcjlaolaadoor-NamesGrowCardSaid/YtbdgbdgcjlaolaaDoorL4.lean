/-
  LAW NamesGrow: for every text and every byte the law answers true. Condition: the library's five variables hold what the program's text lays (tied by the card).
-/
import Derived.Test.YtbdgbdgcjlaolaaDoorD
import Derived.Test.YtbdgbdgcjlaolaaDoorA
import Derived.Test.YtbdgbdgcjlaolaaDoorG
import Derived.Deep.DeepCutAuto
namespace Go.Proofs.YtbdgbdgcjlaolaaDoor.namesGrow
open Go Go.ChangeShapes Go.WideShapes Go.ChangeAt Go.RowKit
set_option linter.unusedVariables false

theorem extract_take (s : ByteArray) (k : Nat) : (s.extract 0 k).data.toList = s.data.toList.take k := by
  rw [Lib.extract_data]; simp
theorem take_size (s : ByteArray) (k : Nat) (hs : s.size ≤ maxLen) : (s.extract 0 k).size ≤ maxLen := by
  rw [← toList_eq, extract_take, List.length_take, toList_eq]; omega
theorem add_list (s : ByteArray) (m : UInt8) : (s ++ (⟨#[m]⟩ : ByteArray)).data.toList = s.data.toList ++ [m] := by rw [cat_list]
theorem add_size (s : ByteArray) (m : UInt8) : (s ++ (⟨#[m]⟩ : ByteArray)).size = s.size + 1 := by rw [← toList_eq, add_list, List.length_append, toList_eq]; rfl
theorem q_list (s : ByteArray) : ((⟨#[63]⟩ : ByteArray) ++ s).data.toList = 63 :: s.data.toList := by rw [cat_list]; rfl
theorem q_size (s : ByteArray) : ((⟨#[63]⟩ : ByteArray) ++ s).size = s.size + 1 := by rw [← toList_eq, q_list, List.length_cons, toList_eq]
theorem own_is (s : ByteArray) (b : Bool) (w : World) (hs : s.size ≤ maxLen) (h : ownN s.data.toList = b) : Calls Tryd.prog 10 #[.string s] w (Says w b) := h ▸ own_any s w hs
theorem fits_is (t : Int) (s : ByteArray) (b : Bool) (w : World) (hs : s.size ≤ 281474976710656) (hE : Env w) (h : fitsT t s.data.toList = b) : Calls Tryd.prog 12 #[.int .i64 t, .string s] w (SaysB w b) := h ▸ fits_any t s w hs hE

set_option maxRecDepth 100000 in
set_option maxHeartbeats 3200000 in
theorem walk_yes (s : ByteArray) (m : UInt8) (w : World) (hs : s.size ≤ 140737488351232) (hE : Env w) (hR : right s.data.toList = true) :
    Calls Tryd.prog 7 #[.string s, .int .u8 m.toNat] w fun e w' => e = .returned (.bool true) ∧ Below w.heap.size w w' := by
  have hm : s.size ≤ maxLen := by unfold maxLen; omega
  have hl : s.size ≤ 281474976710656 := by omega
  have hz := hs
  have hmt := m.toNat_lt
  have HA : Hid (Calls Tryd.prog 18 #[] w (SaysB w true)) := awake_any w hE
  have HR : Hid (∀ w', Calls Tryd.prog 8 #[.string s] w' (Says w' true)) := fun w' => right_is s true w' hm hR
  have HT : Hid (∀ (k : Nat) w', 1 ≤ k → Calls Tryd.prog 8 #[.string (s.extract 0 k)] w' (Says w' true)) := fun k w' h1 => right_is _ true w' (take_size s k hm) (by rw [extract_take]; exact right_take hR k h1)
  have HC : Hid (∀ w', Calls Tryd.prog 8 #[.string (s ++ (⟨#[m]⟩ : ByteArray))] w' (Says w' (innB (m.toNat : Int) && decide ((s.size : Int) < 32)))) := fun w' => right_is _ _ w' (by rw [add_size]; unfold maxLen; omega) (by rw [add_list, right_snoc hR, toList_eq]; congr 1; rw [Bool.eq_iff_iff]; simp; omega)
  have HQ : Hid (∀ w', Calls Tryd.prog 10 #[.string ((⟨#[63]⟩ : ByteArray) ++ s)] w' (Says w' true)) := fun w' => own_is _ true w' (by rw [q_size]; unfold maxLen; omega) (by rw [q_list, own_q, hR])
  have HO : Hid (∀ w', Calls Tryd.prog 10 #[.string s] w' (Says w' false)) := fun w' => own_is s false w' hm (right_own hR)
  have H4 : Hid (∀ w', After w w' → Calls Tryd.prog 12 #[.int .i64 4, .string s] w' (SaysB w' true)) := fun w' h => fits_is 4 s true w' hl (hE.below h.below) (by rw [fits4, hR])
  have H2 : Hid (∀ w', After w w' → Calls Tryd.prog 12 #[.int .i64 2, .string s] w' (SaysB w' false)) := fun w' h => fits_is 2 s false w' hl (hE.below h.below) (number_no hR)
  have H3 : Hid (∀ w', After w w' → Calls Tryd.prog 12 #[.int .i64 3, .string s] w' (SaysB w' (fitsT 3 s.data.toList))) := fun w' h => fits_any 3 s w' hl (hE.below h.below)
  have H1 : Hid (∀ w', After w w' → Calls Tryd.prog 12 #[.int .i64 1, .string s] w' (SaysB w' true)) := fun w' h => fits_is 1 s true w' hl (hE.below h.below) (text_yes hR)
  have h4096 : decide ((s.size : Int) ≤ 4096) = true := by
    have := text_yes hR
    rw [fits1, toList_eq] at this
    simp at this ⊢; omega
  clear hE hR hs
  go_enter Tryd.func7, Tryd.ntmps7
  go_wp2_with fail
  refine HA.out.mono ?_
  rintro e w1 ⟨rfl, hb1⟩
  have A1 := (After.refl w).next hb1
  clear hb1
  go_wp2_with fail
  refine (HR.out _).mono ?_
  rintro e w2 ⟨rfl, rfl⟩
  go_wp2_with fail
  go_loop [6] (fun n => ∃ k : Nat, 1 ≤ k ∧ n = .int .i64 k) (fun n => s.size - (intOf n).toNat)
  case atStart => exact ⟨1, by omega, rfl⟩
  case round =>
    obtain ⟨k, hk1, rfl⟩ := hrel
    by_cases hlt : k < s.size
    · go_wp2_with (go_at_call 8; refine (HT.out k _ hk1).mono ?_; rintro e w2 ⟨rfl, rfl⟩)
      go_round
      case rel => exact ⟨k + 1, by omega, by go_num⟩
      case measure => simp [intOf]; omega
    · go_upto_region 9 with fail
      go_cut [7] (fun s7 wx => s7 = .bool (innB (m.toNat : Int)) ∧ w1 = wx)
      case first =>
        go_wp2_with fail
        all_goals go_meet
        all_goals refine ⟨congrArg Value.bool ?_, rfl⟩
        all_goals (unfold innB letB; first | (simp [*]; done) | (simp; omega) | (rw [Bool.eq_iff_iff]; simp; omega) | (rw [Bool.eq_iff_iff]; simp [*]; omega))
      case rest =>
        obtain ⟨rfl, rfl⟩ := hcut
        have hcv : (convert 38 9 (.slice (some ⟨w1.heap.size, 0, none⟩) 1 1)).run Tryd.prog (w1.alloc (.cells #[.int .u8 m.toNat] 5)) = .ok (.string ⟨#[m]⟩) (w1.alloc (.cells #[.int .u8 m.toNat] 5)) := conv_lit w1 #[.int .u8 m.toNat] [m] rfl (by simp [maxLen])
        have A2 : After w (w1.alloc (.cells #[.int .u8 m.toNat] 5)) := A1.next ((Below.refl _ _).alloc (Nat.le_refl _) _)
        cases hp : innB (m.toNat : Int)
        all_goals
          go_wp2_with (first | (go_at_call 8; refine (HC.out _).mono ?_; rintro e w2 ⟨rfl, rfl⟩) | (go_at_call 10; go_at_call_of 10 (Value.string s); refine (HO.out _).mono ?_; rintro e w2 ⟨rfl, rfl⟩) | (go_at_call 10; refine (HQ.out _).mono ?_; rintro e w2 ⟨rfl, rfl⟩))
          refine (H4.out _ A2).mono ?_
          rintro e w4 ⟨rfl, hb4⟩
          have A4 := A2.next hb4
          clear hb4
          go_wp2_with fail
          refine (H2.out _ A4).mono ?_
          rintro e w5 ⟨rfl, hb5⟩
          have A5 := A4.next hb5
          clear hb5
          go_wp2_with fail
          refine (H3.out _ A5).mono ?_
          rintro e w6 ⟨rfl, hb6⟩
          have A6 := A5.next hb6
          clear hb6
          go_wp2_with fail
          refine (H1.out _ A6).mono ?_
          rintro e w7 ⟨rfl, hb7⟩
          have A7 := A6.next hb7
          clear hb7
          go_wp2_with fail
          all_goals go_ret
          all_goals exact ⟨by simp, A7.below⟩

set_option maxRecDepth 100000 in
set_option maxHeartbeats 3200000 in
theorem walk_no (s : ByteArray) (m : UInt8) (w : World) (hs : s.size ≤ 140737488351232) (hE : Env w) (hR : right s.data.toList = false) :
    Calls Tryd.prog 7 #[.string s, .int .u8 m.toNat] w fun e w' => e = .returned (.bool true) ∧ Below w.heap.size w w' := by
  have hm : s.size ≤ maxLen := by unfold maxLen; omega
  have hl : s.size ≤ 281474976710656 := by omega
  have hz := hs
  have hmt := m.toNat_lt
  have HA : Hid (Calls Tryd.prog 18 #[] w (SaysB w true)) := awake_any w hE
  have HR : Hid (∀ w', Calls Tryd.prog 8 #[.string s] w' (Says w' false)) := fun w' => right_is s false w' hm hR
  have HQ : Hid (∀ w', Calls Tryd.prog 10 #[.string ((⟨#[63]⟩ : ByteArray) ++ s)] w' (Says w' false)) := fun w' => own_is _ false w' (by rw [q_size]; unfold maxLen; omega) (by rw [q_list, own_q, hR])
  have H4 : Hid (∀ w', After w w' → Calls Tryd.prog 12 #[.int .i64 4, .string s] w' (SaysB w' false)) := fun w' h => fits_is 4 s false w' hl (hE.below h.below) (by rw [fits4, hR])
  have H3 : Hid (∀ w', After w w' → Calls Tryd.prog 12 #[.int .i64 3, .string s] w' (SaysB w' false)) := fun w' h => fits_is 3 s false w' hl (hE.below h.below) (truth_no hR)
  have H1 : Hid (∀ w', After w w' → Calls Tryd.prog 12 #[.int .i64 1, .string s] w' (SaysB w' (decide ((s.size : Int) ≤ 4096)))) := fun w' h => fits_is 1 s _ w' hl (hE.below h.below) (by rw [fits1, toList_eq, Bool.eq_iff_iff]; simp; omega)
  cases hn : fitsT 2 s.data.toList
  all_goals
    have H2 : Hid (∀ w', After w w' → Calls Tryd.prog 12 #[.int .i64 2, .string s] w' (SaysB w' (fitsT 2 s.data.toList))) := fun w' h => fits_any 2 s w' hl (hE.below h.below)
    rw [hn] at H2
    have hx : fitsT 2 s.data.toList = true → decide ((s.size : Int) ≤ 4096) = true := fun h => by
      have := number_text h
      rw [fits1, toList_eq] at this
      simp at this ⊢; omega
    rw [hn] at hx
    have HX := Lib.hid hx
    clear hE hR hs hx hn
    go_enter Tryd.func7, Tryd.ntmps7
    go_wp2_with fail
    refine HA.out.mono ?_
    rintro e w1 ⟨rfl, hb1⟩
    have A1 := (After.refl w).next hb1
    clear hb1
    go_wp2_with fail
    refine (HR.out _).mono ?_
    rintro e w2 ⟨rfl, rfl⟩
    go_wp2_with fail
    go_loop [6] (fun n => ∃ k : Nat, 1 ≤ k ∧ n = .int .i64 k) (fun n => s.size - (intOf n).toNat)
    case atStart => exact ⟨1, by omega, rfl⟩
    case round =>
      obtain ⟨k, hk1, rfl⟩ := hrel
      by_cases hlt : k < s.size
      all_goals
        go_upto_region 9 with fail
        go_cut [7] (fun s7 wx => w1 = wx)
        case first =>
          go_wp2_with fail
          all_goals go_meet
          all_goals rfl
        case rest =>
          obtain rfl := hcut
          go_wp2_with (go_at_call 10; refine (HQ.out _).mono ?_; rintro e w2 ⟨rfl, rfl⟩)
          refine (H4.out _ A1).mono ?_
          rintro e w4 ⟨rfl, hb4⟩
          have A4 := A1.next hb4
          clear hb4
          go_wp2_with fail
          refine (H2.out _ A4).mono ?_
          rintro e w5 ⟨rfl, hb5⟩
          have A5 := A4.next hb5
          clear hb5
          go_wp2_with fail
          refine (H3.out _ A5).mono ?_
          rintro e w6 ⟨rfl, hb6⟩
          have A6 := A5.next hb6
          clear hb6
          go_wp2_with fail
          refine (H1.out _ A6).mono ?_
          rintro e w7 ⟨rfl, hb7⟩
          have A7 := A6.next hb7
          clear hb7
          have hx := HX.out
          go_wp2_with fail
          all_goals go_ret
          all_goals exact ⟨by simp, A7.below⟩

theorem walk (s : ByteArray) (m : Int) (w : World) (hs : s.size ≤ 140737488351232) (hmw : (Lit.int .u8 m).wf = true) (hE : Env w) :
    Calls Tryd.prog 7 #[.string s, .int .u8 m] w fun e w' => e = .returned (.bool true) ∧ Below w.heap.size w w' := by
  have hb : 0 ≤ m ∧ m ≤ 255 := by simpa [Lit.wf, IntKind.min, IntKind.max, IntKind.signed, IntKind.bits] using hmw
  obtain ⟨c, rfl⟩ : ∃ c : UInt8, m = (c.toNat : Int) := ⟨UInt8.ofNat m.toNat, by rw [enc_ofNat (by omega)]; omega⟩
  cases hR : right s.data.toList with
  | true => exact walk_yes s c w hs hE hR
  | false => exact walk_no s c w hs hE hR

theorem contract (H : Type) (enc : TypeId × Value → H) (W : World) (base : Nat) (args : Array Value) (ds gs : List (DataW H)) (before : List MemPlace)
    (hval : ∀ (j : Nat) t v, Tryd.f7.params[j]? = some t → args[j]? = some v → Value.okWide Tryd.prog W .any base t v)
    (hW : DataW.Whole enc Tryd.prog Tryd.f7.params.toList Rows.namesGrowSpec.vars false W args.toList ds gs before) (hE : Env W)
    (hz : (DataW.weightsEach Tryd.prog (Tryd.f7.params.toList ++ (OpenSpec.ofChange Rows.namesGrowSpec).bare.plain.varTypes Tryd.prog) (ds ++ gs)).all (· ≤ reachBytes) = true) :
    Calls Tryd.prog 7 args W fun e W' => ∃ v, e = .returned v ∧ Rows.namesGrowSpec.post enc Tryd.prog Tryd.f7 false true false false W args v W' := by
  have hW' := hW
  obtain ⟨p, q, hA0, hV, rfl, hfz, hnd⟩ := hW
  have hA : DataW.TrodAll enc Tryd.prog W 0 (fun _ => true) true Tryd.f7.params.toList args.toList ds p := hA0
  rw [Tryd.params7] at hA hval
  obtain ⟨v0, vs0, d0, ds0, p0, q0, hargs, rfl, rfl, h0, r0⟩ := trodAll_cons hA
  obtain ⟨v1, vs1, d1, ds1, p1, q1, rfl, rfl, rfl, h1, r1⟩ := trodAll_cons r0
  obtain ⟨rfl, rfl, rfl⟩ := trodAll_nil r1
  obtain rfl : args = #[v0, v1] := by cases args; simp_all
  obtain ⟨rfl, rfl⟩ := trodVars_none hV
  obtain ⟨a0, rfl, rfl, rfl, w0⟩ := ChangeMaps.open_string Tryd.underlying9 (hval 0 9 v0 rfl rfl) h0
  obtain ⟨a1, rfl, rfl, rfl, w1⟩ := open_int Tryd.underlying5 (hval 1 5 v1 rfl rfl) h1
  clear hA0
  simp only [List.append_nil] at hW'
  have z0 : a0.size ≤ 140737488351232 := reach_of hz (j := 0) (t := 9) rfl rfl
  refine (walk a0 a1 W z0 w1 hE).mono fun e W' ⟨he, bel⟩ => ?_
  subst he
  exact ⟨_, rfl, _, _, _, [], [], [], hW', trodAll_mk1 (shut_bool Tryd.underlying4 _), trodAll_cons_mk (ChangeMaps.shut_string Tryd.underlying9 w0) (trodAll_cons_mk (shut_int Tryd.underlying5 w1) trodAll_mk0), rfl, bel.frame _, fun h => by cases h⟩

theorem reads (os : Os) {H : Type} (enc : TypeId × Value → H) : ∃ places, DataW.whole enc Tryd.prog ((laidWorld os).forCall (fun _ _ => 0) ⟨#[], #[.string ByteArray.empty, .int .u8 0], []⟩).memory Tryd.f7.params.toList Rows.namesGrowSpec.vars false (#[.string ByteArray.empty, .int .u8 0] : Array Value).toList 8 = some ([.lit (.string []), .lit (.int .u8 0)], [], places) :=
  ⟨[], by kernel_rfl⟩

set_option maxRecDepth 100000 in
theorem lifted (os : Os) (started : os.Started) (H : Type) (enc : TypeId × Value → H) (F : Stop.Interp) :
    ReturnsInHanded {} Tryd.checked os 7 .any ((OpenSpec.ofChange Rows.namesGrowSpec).preRow enc Tryd.prog Tryd.f7 Rows.namesGrowRow.domain false Rows.namesGrowRow.laid) (((OpenSpec.ofChange Rows.namesGrowSpec).at F).post enc Tryd.prog Tryd.f7 false true false false) := by
  obtain ⟨places, hx⟩ := reads os enc
  refine returnsInHanded_of_row (C := Tryd.checked) (s := OpenSpec.ofChange Rows.namesGrowSpec) own started (by kernel_rfl) Tryd.func7
    (witness_row_at (enc := enc) (C := Tryd.checked) false (laidWorld os) #[.string ByteArray.empty, .int .u8 0] rfl (by kernel_rfl) (by kernel_rfl) (by kernel_rfl)
      (OpenSpec.preRow_of_cond 8 hx (by kernel_rfl) (fun k hk => by cases hk) (by kernel_rfl) (laid_met os _))) ?_
  intro W base args ds gs before hval hW _ _ hz hL _ _
  exact contract H enc W base args ds gs before hval hW (env_of hL) hz

theorem said : Rows.NamesGrowSaid :=
  OpenClaim.holds_of_cond 7 Tryd.f7 rfl rfl rfl rfl rfl rfl rfl ⟨rfl, rfl, rfl, rfl, rfl⟩ rfl rfl rfl rfl rfl (by kernel_rfl) Tryd.func7 (by kernel_rfl)
    (of_decide_eq_true (by kernel_rfl)) (by unfold Func.isWrapper; first | (rw [if_pos (by decide +kernel)]; kernel_rfl) | (rw [if_neg (by decide +kernel)]; exact ⟨rfl, rfl⟩))
    (fun os started H enc _ F => by rw [OpenClaim.pre_eq_preRow]; exact lifted os started H enc F)

theorem plain (f : FuncId) (fn : Func) (hf : Tryd.pinned.checked.prog.funcNamed "topiary/topiarylaw01.NamesGrow" = some f) (hfn : Tryd.pinned.checked.prog.funcs[f]? = some fn) :
    true = Tryd.pinned.checked.prog.looks [] ∧ ∀ (j : Nat) t, fn.params[j]? = some t → Tryd.pinned.checked.prog.wantsStandIn t = false := by
  obtain rfl : f = 7 := Option.some.inj ((show Tryd.prog.funcNamed "topiary/topiarylaw01.NamesGrow" = some 7 by kernel_rfl).symm.trans hf) |>.symm
  obtain rfl : fn = Tryd.f7 := (Option.some.inj (Tryd.func7.symm.trans hfn)).symm
  refine ⟨by kernel_rfl, fun j t ht => ?_⟩
  rw [Tryd.params7] at ht
  have hm := Array.mem_of_getElem? ht
  have ht' : t = 9 ∨ t = 5 := by simpa using hm
  rcases ht' with rfl | rfl
  · exact (show Tryd.prog.wantsStandIn 9 = false by kernel_rfl)
  · exact (show Tryd.prog.wantsStandIn 5 = false by kernel_rfl)

/-- the card of NamesGrow -/
theorem card : Rows.NamesGrowCardSaid :=
  Claim7.holds_tied_plain_at .later [] _ _ _ _ said (fun _ h => by cases h) (by kernel_rfl) (fun _ h => by cases h) namesGrow_row_tie rfl ⟨rfl, rfl⟩ (by kernel_rfl) rfl plain (by kernel_rfl)
end Go.Proofs.YtbdgbdgcjlaolaaDoor.namesGrow

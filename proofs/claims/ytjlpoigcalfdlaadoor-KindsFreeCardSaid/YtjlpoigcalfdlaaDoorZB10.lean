/-
  WALKS over package expr: isName, sound.
  A REGION THAT DRAWS ITS ORDER, AND ENDS IN OPERATIONS WHOSE ORDER IS FORCED: what comes ahead of them is walked under a condition on the world, what they do is walked behind it. No program stands in it.
-/
import Derived.Test.YtjlpoigcalfdlaaDoorZB9
import Derived.BigQuiet
import Derived.WalkKit
import Derived.StillTail
import Derived.Deep.RegionHeld3
namespace Go.Proofs.YtjlpoigcalfdlaaDoor
open Go Go.RowKit Go.Sort
set_option linter.unusedVariables false
theorem join_name (s : ByteArray) : ∃ t c, joinR [⟨3, s, 0, 0⟩] = (t, c) ∧ (c == 0) = nameB s.data.toList := by
  have hm : may ⟨3, s, 0, 0⟩ = nameB s.data.toList := by
    unfold may nameB
    rw [if_neg (show ¬ (3 : Int) = 1 by decide), if_neg (show ¬ (3 : Int) = 2 by decide), if_pos rfl]
    simp
  unfold joinR
  simp only [List.all_cons, List.all_nil, Bool.and_true, hm]
  cases hb : nameB s.data.toList with
  | false => exact ⟨[], 2, by simp, by decide⟩
  | true =>
    refine ⟨joinT [⟨3, s, 0, 0⟩], 0, ?_, by decide⟩
    rw [if_neg (by simp), if_neg ?_]
    have hr : right s.data.toList = true := by
      unfold nameB at hb
      exact (Bool.and_eq_true_iff.1 hb).1
    have hl : s.data.toList.length ≤ 32 := by
      cases he : s.data.toList with
      | nil => simp
      | cons c r =>
        rw [he] at hr
        unfold right at hr
        have := (Bool.and_eq_true_iff.1 (Bool.and_eq_true_iff.1 hr).1).1
        simp at this
        simp; omega
    simp only [joinT, formT, tailT, List.flatMap_nil, List.append_nil]
    rw [if_neg (by decide), if_neg (by decide)]
    omega
set_option maxHeartbeats 800000 in
theorem isName_any (s : ByteArray) (w : World) (hs : s.size ≤ 140737488355328) (hL : LexEnv w) : Calls Tryd.prog 38 #[.string s] w (Tells1 w (nameB s.data.toList)) := by
  obtain ⟨t, c, h1, h2⟩ := join_name s
  have HJ := Lib.hid (join_new (w := w) (l := [⟨3, s, 0, 0⟩]) (cs := #[.int .i64 3, .string s, .int .i64 0, .int .i64 0]) 1 rfl rfl (by simp) (fun k hk => by
    obtain rfl := List.mem_singleton.1 hk
    exact ⟨by show (-9223372036854775808 : Int) ≤ 0; omega, by show (0 : Int) ≤ 9223372036854775807; omega, hs⟩) hL h1)
  have H2 := Lib.hid h2
  clear h1 h2 hs hL
  go_enter Tryd.func38, Tryd.ntmps38
  go_wp2_with fail
  refine HJ.out.mono ?_
  rintro e w2 ⟨rfl, hb2⟩
  have HB := Lib.hid hb2
  clear hb2
  go_wp2_with fail
  go_ret
  exact tells1 H2.out ((below_of_alloc _).trans (HB.out.mono (by simp)))
/-- is a node as the table says? -/
theorem sound_no1 {kind : Int} {text : List UInt8} {zero least nm : Bool} {kids : Nat} (h : kidsV kind ≠ kids) : soundV kind text zero least kids nm = false := by unfold soundV; rw [if_pos h]
theorem sound_no2 {kind : Int} {text : List UInt8} {zero least nm : Bool} {kids : Nat} (h : (kind ≠ 1 ∧ zero = false) ∨ least = true) : soundV kind text zero least kids nm = false := by unfold soundV; rw [if_pos h]; split <;> rfl
theorem sound_named {kind : Int} {text : List UInt8} {zero least nm : Bool} {kids : Nat} (h1 : kidsV kind = kids) (h2 : ¬ ((kind ≠ 1 ∧ zero = false) ∨ least = true)) (h3 : namedB kind = true) : soundV kind text zero least kids nm = nm := by
  unfold soundV; rw [if_neg (by simpa using h1), if_neg h2, if_pos h3]
theorem sound_text {text : List UInt8} {zero least nm : Bool} {kids : Nat} (h1 : kidsV 2 = kids) (h2 : ¬ (((2 : Int) ≠ 1 ∧ zero = false) ∨ least = true)) : soundV 2 text zero least kids nm = decide (text.length ≤ 4096) := by
  unfold soundV; rw [if_neg (by simpa using h1), if_neg h2, if_neg (by decide)]
  by_cases h : text.length ≤ 4096
  · simp [h]
  · have : text ≠ [] := fun e => h (by rw [e]; simp)
    simp [h, this]
theorem sound_plain {kind : Int} {text : List UInt8} {zero least nm : Bool} {kids : Nat} (h1 : kidsV kind = kids) (h2 : ¬ ((kind ≠ 1 ∧ zero = false) ∨ least = true)) (h3 : namedB kind = false) (h4 : kind ≠ 2) : soundV kind text zero least kids nm = decide (text = []) := by
  unfold soundV; rw [if_neg (by simpa using h1), if_neg h2, if_neg (by rw [h3]; simp)]
  simp [h4]
theorem kidsV_out {k : Int} (h : k < 1 ∨ 34 < k) (m : Nat) : kidsV k ≠ m := by unfold kidsV; rw [if_pos h]; omega
/-- a number against the least one, under names -/
structure LeastIs (n : Int) (b : Bool) : Prop where
  out : (n == -9223372036854775808) = b
theorem sign_facts {w : World} (h : ExprEnv w) {k : Int} (h1 : 1 ≤ k) (h2 : k ≤ 34) : w.cell? ⟨1, k.toNat * 5 + 3, none⟩ = some (.int .i64 (kidsV k)) ∧ w.cell? ⟨1, k.toNat * 5 + 4, none⟩ = some (.bool (namedB k)) := by
  obtain ⟨s, hs, e1, e2⟩ := sign_at h1 h2
  exact ⟨sign_cell h hs (by decide) (by rw [← e1]; rfl), sign_cell h hs (by decide) (by rw [← e2]; rfl)⟩
set_option maxRecDepth 20000 in
set_option maxHeartbeats 3200000 in
theorem sound_v (kd n : Int) (T : ByteArray) (A : Option Addr) (m c : Nat) (nm lb : Bool) (w : World) (hm : m ≤ maxLen) (hl : LeastIs n lb) (hE : ExprEnv w)
    (HN : Hid (∀ Y, Below w.heap.size w Y → Calls Tryd.prog 38 #[.string T] Y (Tells1 Y nm))) :
    Calls Tryd.prog 25 #[.agg #[.int .i64 kd, .string T, .int .i64 n, .slice A m c]] w (Tells1 w (soundV kd T.data.toList (n == 0) lb m nm)) := by
  have HT : Hid (T.data.toList.length = T.size) := Lib.hid (toList_eq T)
  have HTe : Hid ((T.data.toList = []) ↔ (T.toList = [])) := Lib.hid (by rw [Lib.toList_data])
  unfold maxLen at hm
  have hE0 := hE.below (below_of_alloc (.cells #[.int .i64 kd, .string T, .int .i64 n, .slice A m c] 46))
  obtain ⟨X, hX⟩ : ∃ X, w.alloc (.cells #[.int .i64 kd, .string T, .int .i64 n, .slice A m c] 46) = X := ⟨_, rfl⟩
  rw [hX] at hE0
  have HX : Hid (Below w.heap.size w X) := Lib.hid (by rw [← hX]; exact below_of_alloc _)
  have k0 : X.cell? ⟨w.heap.size, 0, none⟩ = some (.int .i64 kd) := by rw [← hX]; exact (Blk.new w _ _).cell 0
  have k1 : X.cell? ⟨w.heap.size, 1, none⟩ = some (.string T) := by rw [← hX]; exact (Blk.new w _ _).cell 1
  have k2 : X.cell? ⟨w.heap.size, 2, none⟩ = some (.int .i64 n) := by rw [← hX]; exact (Blk.new w _ _).cell 2
  have k3 : X.cell? ⟨w.heap.size, 3, none⟩ = some (.slice A m c) := by rw [← hX]; exact (Blk.new w _ _).cell 3
  have HSF : Hid (1 ≤ kd → kd ≤ 34 → X.cell? ⟨1, kd.toNat * 5 + 3, none⟩ = some (.int .i64 (kidsV kd)) ∧ X.cell? ⟨1, kd.toNat * 5 + 4, none⟩ = some (.bool (namedB kd))) := Lib.hid fun h1 h2 => sign_facts hE0 h1 h2
  clear hE hE0
  by_cases h1 : kd < 1
  · rw [sound_no1 (kidsV_out (.inl h1) _)]
    have d1 : decide (kd < 1) = true := by simpa using h1
    clear hl
    go_enter Tryd.func25, Tryd.ntmps25
    go_wp2_with fail
    go_quiet (fail)
    go_wp2_with fail
    go_ret
    exact tells1 rfl (below_drewN HX.out _)
  have d1 : decide (kd < 1) = false := by simpa using h1
  by_cases h2 : 35 ≤ kd
  · rw [sound_no1 (kidsV_out (.inr (by omega)) _)]
    have d2 : decide (35 ≤ kd) = true := by simpa using h2
    clear hl
    go_enter Tryd.func25, Tryd.ntmps25
    go_wp2_with fail
    go_quiet (fail)
    go_wp2_with fail
    go_ret
    exact tells1 rfl (below_drewN HX.out _)
  have d2 : decide (35 ≤ kd) = false := by simpa using h2
  obtain ⟨s3, s4⟩ := HSF.out (by omega) (by omega)
  have g1 : 0 ≤ kd := by omega
  have g2 : kd < 35 := by omega
  clear HSF
  by_cases h3 : kidsV kd = m
  · have HK := Lib.hid h3
    rw [h3] at s3
    have d3 : ((m : Int) != (m : Int)) = false := by simp
    by_cases hz : n = 0
    · have z1 : (n == 0) = true := by rw [hz]; rfl
      have z2 : (n != 0) = false := by rw [hz]; rfl
      have z3 : lb = false := by have := hl.out; rw [hz] at this; rw [← this]; decide
      subst z3
      rw [z1]
      clear hz
      by_cases h5 : kd = 2
      · have k6 : (kd == 2) = true := by rw [h5]; rfl
        rw [show soundV kd T.data.toList true false m nm = decide (T.data.toList.length ≤ 4096) from by have := HK.out; subst h5; exact sound_text this (by simp)]
        clear h5
        have ht := HT.out
        by_cases he : T.size ≤ 4096
        · have t1 : decide ((T.size : Int) ≤ 4096) = true := by simp; omega
          rw [show decide (T.data.toList.length ≤ 4096) = true by rw [ht]; simpa using he]
          clear hl he ht
          go_enter Tryd.func25, Tryd.ntmps25
          go_wp2_with fail
          go_quiet (fail)
          go_wp2_with fail
          go_ret
          exact tells1 rfl (below_drewN HX.out _)
        · have t1 : decide ((T.size : Int) ≤ 4096) = false := by simp; omega
          rw [show decide (T.data.toList.length ≤ 4096) = false by rw [ht]; simpa using he]
          clear hl he ht
          go_enter Tryd.func25, Tryd.ntmps25
          go_wp2_with fail
          go_quiet (fail)
          go_wp2_with fail
          go_ret
          exact tells1 rfl (below_drewN HX.out _)
      · have k6 : (kd == 2) = false := by rw [beq_eq_false_iff_ne]; exact h5
        cases hn : namedB kd with
        | true =>
          rw [sound_named HK.out (by simp) hn]
          rw [hn] at s4
          clear hl hn
          go_enter Tryd.func25, Tryd.ntmps25
          go_wp2_with (go_at_call 38; refine (HN.out _ (below_drewN HX.out _)).mono ?_; rintro e w2 ⟨rfl, hb2⟩)
          go_quiet (fail)
          go_wp2_with (go_at_call 38; refine (HN.out _ (below_drewN HX.out _)).mono ?_; rintro e w2 ⟨rfl, hb2⟩)
          go_ret
          exact tells1 rfl ((below_drewN HX.out _).trans (hb2.mono (by have := HX.out.size; simpa using this)))
        | false =>
          rw [sound_plain HK.out (by simp) hn h5]
          rw [hn] at s4
          clear hn
          by_cases he : T.data.toList = []
          · have t1 : T.toList.isEmpty = true := by rw [HTe.out.1 he]; rfl
            rw [he]
            clear hl he
            go_enter Tryd.func25, Tryd.ntmps25
            go_wp2_with fail
            go_quiet (fail)
            go_wp2_with fail
            go_ret
            exact tells1 (by simp) (below_drewN HX.out _)
          · have t1 : T.toList.isEmpty = false := by rw [List.isEmpty_eq_false_iff]; exact fun e => he (HTe.out.2 e)
            rw [decide_eq_false he]
            clear hl he
            go_enter Tryd.func25, Tryd.ntmps25
            go_wp2_with fail
            go_quiet (fail)
            go_wp2_with fail
            go_ret
            exact tells1 rfl (below_drewN HX.out _)
    · have z1 : (n == 0) = false := by rw [beq_eq_false_iff_ne]; exact hz
      have z2 : (n != 0) = true := by rw [bne_iff_ne]; exact hz
      by_cases h4 : kd = 1
      · have k5 : (kd != 1) = false := by rw [h4]; rfl
        have k6 : (kd == 2) = false := by rw [h4]; rfl
        have hl' := hl.out
        have hnm : namedB kd = false := by rw [h4]; rfl
        have HS1 : Hid (∀ z, soundV kd T.data.toList z false m nm = decide (T.data.toList = [])) := Lib.hid fun z => sound_plain HK.out (by simp [h4]) hnm (by omega)
        rw [hnm] at s4
        clear h4 hnm
        cases lb with
        | true =>
          rw [sound_no2 (.inr rfl)]
          clear hz
          go_enter Tryd.func25, Tryd.ntmps25
          go_wp2_with fail
          go_quiet (fail)
          go_wp2_with fail
          go_ret
          exact tells1 rfl (below_drewN HX.out _)
        | false =>
          rw [z1]
          clear hz
          rw [HS1.out]
          by_cases he : T.data.toList = []
          · have t1 : T.toList.isEmpty = true := by rw [HTe.out.1 he]; rfl
            rw [he]
            clear hl he
            go_enter Tryd.func25, Tryd.ntmps25
            go_wp2_with fail
            go_quiet (fail)
            go_wp2_with fail
            go_ret
            exact tells1 (by simp) (below_drewN HX.out _)
          · have t1 : T.toList.isEmpty = false := by rw [List.isEmpty_eq_false_iff]; exact fun e => he (HTe.out.2 e)
            rw [decide_eq_false he]
            clear hl he
            go_enter Tryd.func25, Tryd.ntmps25
            go_wp2_with fail
            go_quiet (fail)
            go_wp2_with fail
            go_ret
            exact tells1 rfl (below_drewN HX.out _)
      · rw [z1, sound_no2 (.inl ⟨h4, rfl⟩)]
        have k5 : (kd != 1) = true := by rw [bne_iff_ne]; exact h4
        clear hz hl
        go_enter Tryd.func25, Tryd.ntmps25
        go_wp2_with fail
        go_quiet (fail)
        go_wp2_with fail
        go_ret
        exact tells1 rfl (below_drewN HX.out _)
  · rw [sound_no1 h3]
    generalize kidsV kd = kv at h3 s3
    have d3 : ((m : Int) != kv) = true := by rw [bne_iff_ne]; exact fun e => h3 e.symm
    clear hl
    go_enter Tryd.func25, Tryd.ntmps25
    go_wp2_with fail
    go_quiet (fail)
    go_wp2_with fail
    go_ret
    exact tells1 rfl (below_drewN HX.out _)
theorem sound_any (x : EN × Sl) (w : World) (hx : EnOk x.1) (hn : x.2.n = x.1.kids.length) (hm : x.2.n ≤ maxLen) (hE : ExprEnv w) :
    Calls Tryd.prog 25 #[.agg #[.int .i64 x.1.kind, .string x.1.text, .int .i64 x.1.int, .slice x.2.A x.2.n x.2.c]] w (Tells1 w (soundB x.1)) := by
  have hs : soundB x.1 = soundV x.1.kind x.1.text.data.toList (x.1.int == 0) (leastB x.1.int) x.2.n (nameB x.1.text.data.toList) := by unfold soundB; rw [hn]
  have hl : LeastIs x.1.int (leastB x.1.int) := ⟨by unfold leastB; rfl⟩
  rw [hs]
  exact sound_v x.1.kind x.1.int x.1.text x.2.A x.2.n x.2.c (nameB x.1.text.data.toList) (leastB x.1.int) w hm hl hE (Lib.hid fun Y hY => isName_any x.1.text Y hx.t (hE.lex.below hY))
end Go.Proofs.YtjlpoigcalfdlaaDoor
namespace Go.Proofs.YtjlpoigcalfdlaaDoor
open Go Go.RowKit
set_option linter.unusedVariables false
/-- Q, but K where the region goes on -/
def tailQ (Q : Exit → Act → World → Prop) (K : Act → World → Prop) : Exit → Act → World → Prop
  | .normal, a, w => K a w
  | e, a, w => Q e a w
section
variable {P : Program} {Q : Exit → Act → World → Prop} {K : Act → World → Prop} {md : Region.Mode} {S : World → Prop}
theorem lets_tail (h : LetsOut (tailQ Q K)) : LetsOut Q := h
theorem oper_tail {o : Oper} {a : Act} {w : World} {next : Act → World → Prop} (h : Oper.wp P o a w next (tailQ Q K)) : Oper.wp P o a w next Q := by
  unfold Oper.wp at *
  generalize (execOp a.eval o).run P w = r at *
  cases r with
  | ok n w' =>
    cases n <;> simp only [Oper.upon] at h ⊢ <;>
      first
        | exact h
        | exact Calls.mono h (fun e w'' he => by cases e <;> exact he)
  | halt x w' => cases x <;> simp only [Oper.upon] at h ⊢ <;> exact h
/-- each operation ahead of number n is asked for whatever comes, and waits for earlier ones alone -/
def aheadB (md : Region.Mode) (ops : Array Oper) (n : Nat) : Bool :=
  (List.range n).all fun j => match ops[j]? with
    | some o => o.guard.isNone && o.after.all fun e => !Region.binds md e || decide (e.on < j)
    | none => false
theorem aheadB_spec {ops : Array Oper} {n : Nat} (h : aheadB md ops n = true) {j : Nat} (hj : j < n) : ∃ o, ops[j]? = some o ∧ o.guard = none ∧ ∀ e ∈ o.after, Region.binds md e = true → e.on < j := by
  have h1 := List.all_eq_true.1 h j (List.mem_range.2 hj)
  cases ho : ops[j]? with
  | none => simp [ho] at h1
  | some o =>
    rw [ho] at h1
    simp only [Bool.and_eq_true, Option.isNone_iff_eq_none] at h1
    refine ⟨o, rfl, h1.1, fun e he hb => ?_⟩
    have := Array.all_eq_true_iff_forall_mem.1 h1.2 e he
    rw [hb] at this
    simpa using this
theorem wpAny_more {ops : Array Oper} {listed : Array Bool} : ∀ (f : Nat) (listed : Array Bool) (a : Act) (w : World), wpAny P md ops Q f listed a w → wpAny P md ops Q (f + 1) listed a w
  | 0, _, _, _, h => ⟨fun _ => h.2, fun i hi => by rw [h.1] at hi; cases hi⟩
  | f + 1, _, _, _, h => ⟨h.1, fun i hi => wpOp_mono (fun a' w' h' => wpAny_more (listed := listed) f _ a' w' h') (h.2 i hi)⟩
theorem wpAny_more' {ops : Array Oper} {listed : Array Bool} {a : Act} {w : World} {g : Nat} (h : wpAny P md ops Q g listed a w) : ∀ f, wpAny P md ops Q (f + g) listed a w
  | 0 => by rw [Nat.zero_add]; exact h
  | f + 1 => by rw [show f + 1 + g = (f + g) + 1 from by omega]; exact wpAny_more (listed := listed) _ _ _ _ (wpAny_more' h f)
variable {hops : Array Oper} {ops : Array Oper} {n g : Nat}
theorem getD_app {L R : Array Bool} {j : Nat} {d : Bool} (hj : j < L.size) : (L ++ R).getD j d = L.getD j d := by
  simp [Array.getD_eq_getD_getElem?, Array.getElem?_append_left hj]
theorem ready_head (hs : hops.size = n) (hh : ∀ j, j < n → hops[j]? = ops[j]?) (hB : aheadB md ops n = true) {L R : Array Bool} (hL : L.size = n) {j : Nat} (hj : j < n) :
    j ∈ Region.ready md ops (L ++ R) ↔ j ∈ Region.ready md hops L := by
  rw [mem_ready, mem_ready, hh j hj, getD_app (by omega)]
  obtain ⟨o, ho, _, hd⟩ := aheadB_spec hB hj
  refine and_congr_right fun _ => ?_
  refine exists_congr fun o' => and_congr_right fun ho' => forall_congr' fun e => forall_congr' fun he => forall_congr' fun hb => ?_
  have : o' = o := Option.some.inj (ho'.symm.trans ho)
  subst this
  rw [getD_app (by have := hd e he hb; omega)]
theorem some_ready (hs : hops.size = n) (hh : ∀ j, j < n → hops[j]? = ops[j]?) (hB : aheadB md ops n = true) {L : Array Bool} (hL : L.size = n) : ∀ (j : Nat), j < n → L.getD j true = false → ∃ i, i < n ∧ i ∈ Region.ready md hops L := by
  intro j
  induction j using Nat.strongRecOn with
  | _ j ih =>
    intro hj hun
    obtain ⟨o, ho, _, hd⟩ := aheadB_spec hB hj
    by_cases h : ∃ e ∈ o.after, Region.binds md e = true ∧ L.getD e.on false = false
    · obtain ⟨e, he, hb, hl⟩ := h
      have hlt := hd e he hb
      exact ih e.on hlt (by omega) (getD_in (by omega) hl)
    · refine ⟨j, hj, mem_ready.2 ⟨hun, o, by rw [hh j hj]; exact ho, fun e he hb => ?_⟩⟩
      cases hl : L.getD e.on false with
      | true => rfl
      | false => exact absurd ⟨e, he, hb, hl⟩ h
theorem op_head (hh : ∀ j, j < n → hops[j]? = ops[j]?) (hB : aheadB md ops n = true) {i : Nat} (hi : i < n) {K1 K2 : Act → World → Prop} {a : Act} {w : World} (hK : ∀ a w, K1 a w → K2 a w)
    (h : wpOp P hops (tailQ Q K) i K1 a w) : wpOp P ops Q i K2 a w := by
  obtain ⟨o, ho, hg, _⟩ := aheadB_spec hB hi
  unfold wpOp at *
  rw [hh i hi] at h
  simp only [ho] at h ⊢
  have hw : ∀ y, Region.wanted o y = true := fun y => by simp [Region.wanted, hg]
  rw [hw, if_pos rfl] at h ⊢
  exact h.imp (fun h => oper_tail (Oper.wp_mono hK h)) (fun h => ⟨h.1, lets_tail h.2⟩)
theorem head_tail {l : List Oper} (hs : hops.size = n) (hh : ∀ j, j < n → hops[j]? = ops[j]?) (hB : aheadB md ops n = true) (hsk : Region.sinkB md ops n = true) (hch : Region.chainB md ops n = true) (hn : n < ops.size)
    (hl : ∀ j, l[j]? = ops[n + j]?) (hseq : Region.seqB md ops l.length n (Array.replicate n true ++ Array.replicate l.length false) = true) (hsize : ops.size = n + l.length) :
    ∀ (fuel : Nat) (L : Array Bool) (a : Act) (w : World), L.size = n → HeadInv md ops n (L ++ Array.replicate l.length false) →
      wpAnyH P md hops (tailQ Q (wpList P ops Q l)) S fuel L a w → wpAny P md ops Q (fuel + l.length) (L ++ Array.replicate l.length false) a w := by
  intro fuel
  induction fuel with
  | zero =>
    intro L a w hL inv h
    have hall : ∀ j, j < n → L.getD j true = true := fun j hj => by
      cases hx : L.getD j true with
      | true => rfl
      | false =>
        obtain ⟨i, _, hi⟩ := some_ready hs hh hB hL j hj hx
        rw [h.1] at hi; cases hi
    have hLe : L = Array.replicate n true := by
      refine Array.ext (by simp [hL]) fun j h1 h2 => ?_
      have := hall j (by omega)
      rw [Array.getElem_replicate]
      simpa [h1] using this
    rw [Nat.zero_add, hLe]
    exact wpAny_of_seq l n _ a w hl hseq h.2
  | succ fuel ih =>
    intro L a w hL inv h
    by_cases hun : ∃ j, j < n ∧ L.getD j true = false
    · obtain ⟨j, hj, hx⟩ := hun
      obtain ⟨i, hin, hi⟩ := some_ready hs hh hB hL j hj hx
      have hif := (ready_head (R := Array.replicate l.length false) hs hh hB hL hin).2 hi
      rw [show fuel + 1 + l.length = (fuel + l.length) + 1 from by omega]
      refine ⟨fun h0 => (by rw [h0] at hif; cases hif), fun k hk => ?_⟩
      have hkn : k < n := by
        rcases Nat.lt_or_ge k n with h | h
        · exact h
        · exact absurd hk (tail_waits hsk hch hn inv _ j rfl hj (by rw [getD_app (by omega)]; exact hx) k h)
      have hkh := (ready_head hs hh hB hL hkn).1 hk
      refine op_head hh hB hkn (fun a' w' h' => ?_) (h.2 k hkh)
      have e : (L ++ Array.replicate l.length false).setIfInBounds k true = L.setIfInBounds k true ++ Array.replicate l.length false := by
        rw [Array.setIfInBounds_append_left (by omega)]
      rw [e]
      exact ih _ a' w' (by simpa using hL) (by rw [← e]; exact inv.set hk hkn) h'.2
    · have hall : ∀ j, j < n → L.getD j true = true := fun j hj => by
        cases hx : L.getD j true with
        | true => rfl
        | false => exact absurd ⟨j, hj, hx⟩ hun
      have hLe : L = Array.replicate n true := by
        refine Array.ext (by simp [hL]) fun j h1 h2 => ?_
        have := hall j (by omega)
        rw [Array.getElem_replicate]
        simpa [h1] using this
      have hr0 : Region.ready md hops L = [] := by
        rcases hx : Region.ready md hops L with _ | ⟨i, rs⟩
        · rfl
        · have hi : i ∈ Region.ready md hops L := by rw [hx]; exact List.mem_cons_self
          obtain ⟨h1, o, ho, _⟩ := mem_ready.1 hi
          have hin : i < n := by rw [← hs]; exact (Array.getElem?_eq_some_iff.1 ho).1
          rw [hall i hin] at h1; cases h1
      refine wpAny_more' ?_ (fuel + 1)
      rw [hLe]
      exact wpAny_of_seq l n _ a w hl hseq (h.1 hr0)
/-- what the kernel looks at -/
def tailB (ops : Array Oper) (n : Nat) : Bool :=
  aheadB .any ops n && Region.sinkB .any ops n && Region.chainB .any ops n && decide (n < ops.size) && Region.seqB .any ops (ops.size - n) n (Array.replicate n true ++ Array.replicate (ops.size - n) false)
/-- **the beginning**: n operations in whatever order, under S; then the others as they stand -/
theorem wp_region_held_tail {id : Nat} {a : Act} {w : World} {l : List Oper} (n : Nat) (S : World → Prop) (hm : P.follows .mixedOrders = true) (hB : tailB l.toArray n = true) (hS : S w.drew)
    (h : S w.drew → wpAnyH P .any (l.take n).toArray (tailQ Q (wpList P l.toArray Q (l.drop n))) S n (Array.replicate n false) a w.drew) : (Code.region id l.toArray true).wp P Q a w := by
  simp only [tailB, Bool.and_eq_true, decide_eq_true_eq] at hB
  obtain ⟨⟨⟨⟨h1, h2⟩, h3⟩, h4⟩, h5⟩ := hB
  have hn : n < l.length := by simpa using h4
  have hdl : l.toArray.size - n = (l.drop n).length := by simp
  have hsz : l.toArray.size = n + (l.drop n).length := by simp; omega
  refine wp_region_any hm ?_
  have := head_tail (P := P) (Q := Q) (S := S) (hops := (l.take n).toArray) (ops := l.toArray) (n := n) (md := .any) (l := l.drop n) (by simp; omega) (fun j hj => by simp [hj]) h1 h2 h3 h4 (fun j => by simp [List.getElem?_drop]) (by rw [← hdl]; exact h5) hsz
    n (Array.replicate n false) a w.drew (by simp) ?_ (h hS)
  · rw [← hsz] at this
    have e : Array.replicate n false ++ Array.replicate (l.drop n).length false = Array.replicate l.toArray.size false := by
      rw [Array.replicate_append_replicate, ← hsz]
    rw [e] at this
    exact this
  · refine ⟨by simp; omega, fun j oj _ hl => ?_, fun t ht ht' => ?_⟩
    · rw [Array.replicate_append_replicate, getD_replicate_false] at hl; cases hl
    · rw [Array.replicate_append_replicate]
      exact getD_in (by rw [← hsz]; simpa using ht') (getD_replicate_false _ _)
end
end Go.Proofs.YtjlpoigcalfdlaaDoor

/-
  WALKS over package sheet: Parse.
  WALKS over package sheet: show; node: the node with a number, in its place.
-/
import Derived.Test.YtjjlofaejpnnnaaGreatDoorZO17
namespace Go.Proofs.YtjjlofaejpnnnaaGreatDoor
open Go Go.RowKit
set_option linter.unusedVariables false
theorem parse_res (fn : Func) (hres : fn.results = #[.cell 2 25, .tmp 3, .tmp 4]) {W : World} {g : Nat} {a b v3 v4 : Value} (hg : Blk W g 25 #[a, b]) (tmps : Array Value) (h2 : tmps[2]?.getD undef = .pointer (some ⟨g, 0, none⟩)) (h3 : tmps[3]?.getD undef = v3) (h4 : tmps[4]?.getD undef = v4) :
    (results fn tmps).run Tryz.prog W = .ok (.tuple #[.agg #[a, b], v3, v4]) W := by
  have h := run_loadVar_row (P := Tryz.prog) W g 25 25 #[a, b] (0, 0) _ hg Tryz.underlying25 rfl infoModel2
  simp [results, hres, h2, h3, h4, asAddr, h]
/-- what Parse answers -/
def ParseP (w : World) (r : (Int × List Nd) × Int × Int) (e : Ending) (w' : World) : Prop :=
  ∃ A n c, e = .returned (.tuple #[.agg #[.int .i64 r.1.1, .slice A n c], .int .i64 r.2.1, .int .i64 r.2.2]) ∧ NodesIn w' 0 w'.heap.size A n c r.1.2 ∧ Below w.heap.size w w'
theorem parseP_no {w w' : World} {r : (Int × List Nd) × Int × Int} {a x : Int} (hr : r = ((0, []), a, x)) (hb : Below w.heap.size w w') : ParseP w r (.returned (.tuple #[.agg #[.int .i64 0, .slice none 0 0], .int .i64 a, .int .i64 x])) w' := by
  subst hr
  exact ⟨none, 0, 0, rfl, NodesIn.nil _ _ _, hb⟩
/-- the lines from here on, by cutting -/
theorem linesV_cut (f : Nat) (st : RS) (k : Nat) (l : List UInt8) : linesV (f + 1) st k l = if hasS l 10 = true then (match lineV st (cutA 10 l) with
    | some st' => if cutB 10 l = [] then .inl st' else linesV f st' (k + 1) (cutB 10 l)
    | none => .inr (k + 1)) else .inr (k + 1) := by
  have e : linesV (f + 1) st k l = match takesV st (cutA 10 l), l.drop (cutA 10 l).length with
    | some st', _ :: rest => if rest = [] then .inl st' else linesV f st' (k + 1) rest
    | _, _ => .inr (k + 1) := rfl
  rw [e, takesV_line]
  by_cases h : hasS l 10 = true
  · rw [if_pos h]
    have hlt := cutA_lt (c := 10) (l := l) h
    have hd : ∃ x, l.drop (cutA 10 l).length = x :: cutB 10 l := by
      unfold cutB
      cases hx : l.drop (cutA 10 l).length with
      | nil => have := congrArg List.length hx; rw [List.length_drop] at this; simp at this; omega
      | cons x r => exact ⟨x, by simp⟩
    obtain ⟨x, hx⟩ := hd
    rw [hx]
    cases lineV st (cutA 10 l) with
    | none => rfl
    | some st' => rfl
  · rw [if_neg h]
    have h2 : l.drop (cutA 10 l).length = [] := by rw [(cut_no (c := 10) (l := l) h).1]; simp
    rw [h2]
    cases lineV st (cutA 10 l) <;> rfl
theorem cutB_lt {l : List UInt8} (h : hasS l 10 = true) : (cutB 10 l).length < l.length := by
  have := cutA_lt (c := 10) (l := l) h
  unfold cutB
  rw [List.length_drop, List.length_drop]
  omega
/-- the lines that are left -/
structure LeftL (F : Nat) (L : List UInt8) (st : RS) (k : Nat) (t : ByteArray) : Prop where
  fuel : ∃ f, t.size < f ∧ linesV F ⟨0, [], []⟩ 0 L = linesV f st k t.data.toList
/-- the reader, its result's box -/
structure PS (w : World) (k : Nat) (st : RS) (wr : World) : Prop where
  rd : ∃ v vw l, RIn (w.heap.size + 3) (w.heap.size + 2) (w.heap.size + 1) k v vw l st wr
  bel : Below (w.heap.size + 1) (w.alloc (.cells #[.int .i64 0, .slice none 0 0] 25)) wr
  bx : Blk wr w.heap.size 25 #[.int .i64 0, .slice none 0 0]
theorem PS.low {w wr : World} {k : Nat} {st : RS} (h : PS w k st wr) : Below w.heap.size w wr :=
  ((Below.refl _ _).alloc (Nat.le_refl _) _).trans (h.bel.mono (by omega))
theorem PS.next {w wr w' : World} {k k' : Nat} {st st' : RS} (h : PS w k st wr) (hb : Below (w.heap.size + 1) wr w') (hr : ∃ v vw l, RIn (w.heap.size + 3) (w.heap.size + 2) (w.heap.size + 1) k' v vw l st' w') : PS w k' st' w' :=
  ⟨hr, h.bel.trans hb, h.bx.below hb (Nat.lt_succ_self _)⟩
theorem rin_start (w : World) : PS w 0 ⟨0, [], []⟩ (((w.alloc (.cells #[.int .i64 0, .slice none 0 0] 25)).alloc (.map #[] 0)).alloc (.cells #[.int .i64 0, .slice none 0 0, .map (some (w.heap.size + 1)), .int .i64 0, .slice none 0 0] 45)) := by
  have e1 : (w.alloc (.cells #[.int .i64 0, .slice none 0 0] 25)).heap.size = w.heap.size + 1 := by simp
  have e2 : ((w.alloc (.cells #[.int .i64 0, .slice none 0 0] 25)).alloc (.map #[] 0)).heap.size = w.heap.size + 2 := by simp
  have hset : SeenIs ((w.alloc (.cells #[.int .i64 0, .slice none 0 0] 25)).alloc (.map #[] 0)) (w.heap.size + 1) 0 [] := by
    have := SeenIs.made (w.alloc (.cells #[.int .i64 0, .slice none 0 0] 25))
    rw [e1] at this
    exact this
  refine ⟨⟨.slice none 0 0, .slice none 0 0, [], ⟨?_, NP.nil _ (by simp), hset.after ((Below.refl _ _).alloc (Nat.le_refl _) _), rfl, fun h => absurd rfl h, fun _ => ⟨rfl, rfl⟩, by simp, by omega, by omega, by omega⟩⟩, ?_, ?_⟩
  · have := Blk.new ((w.alloc (.cells #[.int .i64 0, .slice none 0 0] 25)).alloc (.map #[] 0)) 45 #[.int .i64 0, .slice none 0 0, .map (some (w.heap.size + 1)), .int .i64 0, .slice none 0 0]
    rw [e2] at this
    exact this
  · exact ((Below.refl _ _).alloc (by rw [e1]; exact Nat.le_refl _) _).alloc (by rw [e2]; omega) _
  · exact ((Blk.new w _ _).alloc _).alloc _
set_option maxRecDepth 20000 in
set_option maxHeartbeats 6400000 in
theorem sheetParse_any (w : World) (s : ByteArray) (hE : Env w) : Calls Tryz.prog 8 #[.string s] w (ParseP w (parseV s.data.toList)) := by
  have hres : Tryz.f8.results = #[.cell 2 25, .tmp 3, .tmp 4] := by kernel_rfl
  have HR0 : Hid (Blk (w.alloc (.cells #[.int .i64 0, .slice none 0 0] 25)) w.heap.size 25 #[.int .i64 0, .slice none 0 0]) := Lib.hid (Blk.new _ _ _)
  by_cases hl : 1048576 < s.size
  · have HX : Hid (parseV s.data.toList = ((0, []), 0, 3)) := Lib.hid (by unfold parseV; rw [if_pos (by rw [toList_eq]; exact hl)])
    have hl1 : (1048576 : Int) < (s.size : Int) := by omega
    clear hl hE
    go_enter Tryz.func8, Tryz.ntmps8
    go_wp2_with ((with_reducible show wpList _ _ _ (Oper.mk _ (Op.store 25 _ _) _ _ _ _ :: _) _ _); refine wpList_store_row rfl _ _ _ rfl w.heap.size _ rfl rfl 25 #[.int .i64 0, .slice none 0 0] HR0.out infoModel2 rfl (one_model _ _ _ _) ?_)
    (try simp only [Exit.inBlock, Exit.then])
    refine bodyPost_ret (parse_res _ hres (v3 := .int .i64 0) (v4 := .int .i64 3) (setRow_heap _ _ _ _ _ _ HR0.out) _ (by go_simp) (by go_simp) (by go_simp)) rfl ?_
    exact parseP_no HX.out (below_setRowS ((Below.refl _ _).alloc (Nat.le_refl _) _) (Nat.le_refl _))
  · have HX : Hid (parseV s.data.toList = (match linesV (s.data.toList.length + 1) ⟨0, [], []⟩ 0 s.data.toList with
      | .inl st => ((st.next, sortV st.nds), 0, 0)
      | .inr k => ((0, []), (k : Int), 30))) := Lib.hid (by unfold parseV; rw [if_neg (by rw [toList_eq]; exact hl)]; rfl)
    have hl1 : ¬ (1048576 : Int) < (s.size : Int) := by omega
    have HP0 := Lib.hid (rin_start w)
    have HL0 : Hid (LeftL (s.data.toList.length + 1) s.data.toList ⟨0, [], []⟩ 0 s) := Lib.hid ⟨_, by rw [toList_eq]; exact Nat.lt_succ_self _, rfl⟩
    have hss : s.size ≤ 1048576 := by omega
    have HE := Lib.hid hE
    clear hl hE
    have hmm := @run_makeMap Tryz.prog
    go_enter Tryz.func8, Tryz.ntmps8
    go_upto_region 4 with (fail)
    generalize ((w.alloc (.cells #[.int .i64 0, .slice none 0 0] 25)).alloc (.map #[] 0)).alloc (.cells #[.int .i64 0, .slice none 0 0, .map (some (w.heap.size + 1)), .int .i64 0, .slice none 0 0] 45) = W0 at HP0 ⊢
    clear hmm
    go_wp2_with fail
    go_loopw [0, 6, 7, 8, 9] (fun a0 a6 a7 a8 a9 wr => ∃ (tx : ByteArray) (k : Nat) (st : RS), a0 = .string tx ∧ a6 = .int .i64 ((k : Int) + 1) ∧ k + tx.size ≤ s.size ∧ Hid (PS w k st wr) ∧ Hid (LeftL (s.data.toList.length + 1) s.data.toList st k tx)) (fun a0 _ _ _ _ _ => match a0 with | .string r => r.size | _ => 0)
    case atStart => exact ⟨s, 0, _, rfl, rfl, by omega, HP0, HL0⟩
    case round =>
      rename World => wr
      obtain ⟨tx, k, st, rfl, rfl, hkt, HPS, HLF⟩ := hrel
      have HCU := Lib.hid (cut_any tx 10 wr (by omega))
      go_upto_region 7 with (go_at_call 18; refine HCU.out.mono ?_; rintro e w1 ⟨a, b, rfl, ha, hb, hza, hzb, hb1⟩; have HB1 := Lib.hid hb1; clear hb1)
      obtain ⟨f0, hf0, hL0⟩ := HLF.out.fuel
      obtain ⟨f, rfl⟩ : ∃ f, f0 = f + 1 := ⟨f0 - 1, by omega⟩
      have HLV : Hid (linesV (s.data.toList.length + 1) ⟨0, [], []⟩ 0 s.data.toList = if hasS tx.data.toList 10 = true then (match lineV st a.data.toList with
        | some st' => if b.data.toList = [] then .inl st' else linesV f st' (k + 1) b.data.toList
        | none => .inr (k + 1)) else .inr (k + 1)) := Lib.hid (by rw [hL0, linesV_cut, ha, hb])
      have HFU : Hid (tx.size < f + 1) := Lib.hid hf0
      have HBL : Hid (hasS tx.data.toList 10 = true → b.size < tx.size) := Lib.hid fun h => by
        have := cutB_lt h
        rw [sz_of hb, ← toList_eq]
        exact this
      have HNO : Hid (linesV (s.data.toList.length + 1) ⟨0, [], []⟩ 0 s.data.toList = .inr (k + 1) → parseV s.data.toList = ((0, []), (k : Int) + 1, 30)) := Lib.hid fun h => by
        rw [HX.out, h]
        simp
      have HP1 : Hid (PS w k st w1) := Lib.hid (HPS.out.next ((HB1.out).mono (by have := HPS.out.bx.lt; omega)) (by obtain ⟨v, vw, l, h⟩ := HPS.out.rd; exact ⟨v, vw, l, h.after HB1.out⟩))
      clear hL0 hf0 ha hb HPS HLF HB1
      generalize hasS tx.data.toList 10 = ended at HLV HBL ⊢
      cases ended with
      | false =>
        have HF := Lib.hid (HNO.out (by rw [HLV.out]; rfl))
        have bx := HP1.out.bx
        go_wp2_with ((with_reducible show wpList _ _ _ (Oper.mk _ (Op.store 25 _ _) _ _ _ _ :: _) _ _); refine wpList_store_row rfl _ _ _ rfl w.heap.size _ rfl rfl 25 #[.int .i64 0, .slice none 0 0] bx infoModel2 rfl (one_model _ _ _ _) ?_)
        (try simp only [Exit.noGoto_ret, Exit.inBlock, Exit.then])
        refine bodyPost_ret (parse_res _ hres (v3 := .int .i64 ((k : Int) + 1)) (v4 := .int .i64 30) (setRow_heap _ _ _ _ _ _ bx) _ (by go_simp) (by go_simp) (by go_simp)) rfl ?_
        exact parseP_no HF.out (below_setRowS HP1.out.low (Nat.le_refl _))
      | true =>
        have HLI : Hid (Calls Tryz.prog 19 #[.pointer (some ⟨w.heap.size + 2, 0, none⟩), .string a] w1 (LineQ (w.heap.size + 1) (w.heap.size + 3) (w.heap.size + 2) (w.heap.size + 1) k (lineV st a.data.toList) w1)) := Lib.hid (by
          obtain ⟨v, vw, l, h⟩ := HP1.out.rd
          exact rdLine_any w1 (w.heap.size + 1) (w.heap.size + 3) (w.heap.size + 2) (w.heap.size + 1) k v vw l st h (by omega) (Nat.le_refl _) a (by omega) (by omega) (HE.out.below HP1.out.low))
        cases hlv : lineV st a.data.toList with
        | none =>
          rw [hlv] at HLI HLV
          have HF := Lib.hid (HNO.out (by rw [HLV.out]; rfl))
          clear hlv
          go_wp2_with (first | (go_at_call 19; refine HLI.out.mono ?_; rintro e w2 ⟨rfl, hb2, _⟩; have HBL2 := Lib.hid (HP1.out.bel.trans hb2); have bx := HP1.out.bx.below hb2 (Nat.lt_succ_self _); clear hb2; (try simp only [Option.isSome_none])) | ((with_reducible show wpList _ _ _ (Oper.mk _ (Op.store 25 _ _) _ _ _ _ :: _) _ _); refine wpList_store_row rfl _ _ _ rfl w.heap.size _ rfl rfl 25 #[.int .i64 0, .slice none 0 0] bx infoModel2 rfl (one_model _ _ _ _) ?_))
          (try simp only [Exit.noGoto_ret, Exit.inBlock, Exit.then])
          refine bodyPost_ret (parse_res _ hres (v3 := .int .i64 ((k : Int) + 1)) (v4 := .int .i64 30) (setRow_heap _ _ _ _ _ _ bx) _ (by go_simp) (by go_simp) (by go_simp)) rfl ?_
          exact parseP_no HF.out (below_setRowS (((Below.refl _ _).alloc (Nat.le_refl _) _).trans (HBL2.out.mono (by omega))) (Nat.le_refl _))
        | some st' =>
          rw [hlv] at HLI HLV
          have HLV2 : Hid (linesV (s.data.toList.length + 1) ⟨0, [], []⟩ 0 s.data.toList = if b.data.toList = [] then .inl st' else linesV f st' (k + 1) b.data.toList) := Lib.hid (by rw [HLV.out]; rfl)
          have HN0 : Hid (st'.next ≠ 0) := Lib.hid (by
            obtain ⟨v, vw, l, h⟩ := HP1.out.rd
            have := (line_ok h.ok hlv).n1
            omega)
          clear hlv HLV HNO
          have hbl := HBL.out rfl
          go_upto_region 9 with (go_at_call 19; refine HLI.out.mono ?_; rintro e w2 ⟨rfl, hb2, hr2⟩; have HP2 : Hid (PS w (k + 1) st' w2) := Lib.hid (HP1.out.next hb2 (hr2 _ rfl)); clear hb2 hr2; (try simp only [Option.isSome_some]))
          cases hbe : b.toList.isEmpty with
          | true =>
            have HBE : Hid (b.data.toList = []) := Lib.hid (by rw [← Lib.toList_data]; simpa using hbe)
            have HF : Hid (parseV s.data.toList = ((st'.next, sortV st'.nds), 0, 0)) := Lib.hid (by rw [HX.out, HLV2.out, if_pos HBE.out])
            have HMO : Hid (Calls Tryz.prog 20 #[.pointer (some ⟨w.heap.size + 2, 0, none⟩)] w2 (ModelP (w.heap.size + 1) st' w2)) := Lib.hid (by
              obtain ⟨v, vw, l, h⟩ := HP2.out.rd
              exact model_any w2 (w.heap.size + 1) (w.heap.size + 3) (w.heap.size + 2) (w.heap.size + 1) (k + 1) v vw l st' h HN0.out (by omega))
            go_wp2_with (first | (go_at_call 20; refine HMO.out.mono ?_; rintro e w3 ⟨A, n, c, rfl, hni, hb3⟩; have HNI := Lib.hid hni; have HB3 := Lib.hid hb3; have bx := HP2.out.bx.below hb3 (Nat.lt_succ_self _); clear hni hb3) | ((with_reducible show wpList _ _ _ (Oper.mk _ (Op.store 25 _ _) _ _ _ _ :: _) _ _); refine wpList_store_row rfl _ _ _ rfl w.heap.size _ rfl rfl 25 #[.int .i64 0, .slice none 0 0] bx infoModel2 rfl (one_model _ _ _ _) ?_))
            (try simp only [Exit.noGoto_ret, Exit.inBlock, Exit.then])
            refine bodyPost_ret (parse_res _ hres (v3 := .int .i64 0) (v4 := .int .i64 0) (setRow_heap _ _ _ _ _ _ bx) _ (by go_simp) (by go_simp) (by go_simp)) rfl ?_
            rw [HF.out]
            refine ⟨A, n, c, rfl, ?_, below_setRowS (HP2.out.low.trans (HB3.out.mono (by omega))) (Nat.le_refl _)⟩
            exact (HNI.out.rowLo (Nat.lt_succ_self _)).mono (Nat.zero_le _) (by simp [World.setRow])
          | false =>
            have HBE : Hid (b.data.toList ≠ []) := Lib.hid (by rw [← Lib.toList_data]; simpa using hbe)
            have HLF2 : Hid (LeftL (s.data.toList.length + 1) s.data.toList st' (k + 1) b) := Lib.hid ⟨f, by have := HFU.out; omega, by rw [HLV2.out, if_neg HBE.out]⟩
            go_wp2_with fail
            go_roundw
            case rel => exact ⟨b, k + 1, st', rfl, by go_num, by omega, HP2, HLF2⟩
            case measure => simp only; omega
end Go.Proofs.YtjjlofaejpnnnaaGreatDoor
namespace Go.Proofs.YtjjlofaejpnnnaaGreatDoor
open Go Go.RowKit
set_option linter.unusedVariables false
/-- the library's table of powers of ten -/
def TabEnv (w : World) : Prop := Lib.TabIs Tryz.prog w "internal/strconv.uint64pow10" .u64 Lib.pow10Tab
theorem TabEnv.below {w w' : World} (h : TabEnv w) (hb : Below w.heap.size w w') : TabEnv w' := var?_below hb gTab (var_lt gTab h) h
set_option maxHeartbeats 400000 in
theorem showN_any (n : Int) (w : World) (h0 : -9223372036854775808 ≤ n) (h1 : n ≤ 9223372036854775807) (hE : TabEnv w) : Calls Tryz.prog 60 #[.int .i64 n] w (Tells w (Lib.itoa n)) := by
  have H : Hid (Calls Tryz.prog 95 #[.int .i64 n, .int .i64 10] w (Tells w (Lib.itoa n))) :=
    (Tryz.strconv_FormatInt_10 n h0 h1 w hE).mono fun e w' ⟨he, k, os, hw⟩ => ⟨he, by rw [hw]; exact below_grown_sl _ _ _ _ (Nat.le_refl _)⟩
  clear h0 h1 hE
  go_enter Tryz.func60, Tryz.ntmps60
  go_wp2_with (go_at_call 95; refine H.out.mono ?_; rintro e w' ⟨rfl, hb⟩)
  go_ret
  exact ⟨rfl, hb⟩
theorem show_s (n : Int) (w : World) (h0 : -9223372036854775808 ≤ n) (h1 : n ≤ 9223372036854775807) (hE : TabEnv w) : Calls Tryz.prog 25 #[.int .i64 n] w (Tells w (Lib.itoa n)) := by
  have H := Lib.hid (showN_any n w h0 h1 hE)
  clear h0 h1 hE
  go_enter Tryz.func25, Tryz.ntmps25
  go_wp2_with (go_at_call 60; refine H.out.mono ?_; rintro e w' ⟨rfl, hb⟩)
  go_ret
  exact ⟨rfl, hb⟩
set_option maxHeartbeats 400000 in
theorem snode1_any (w : World) (hi : Nat) (next id : Int) (b o n c : Nat) (nds : List Nd) (p1 p2 : Nat) (k : Nat) (nd : Nd) (L : Leaf)
    (h1 : w.cell? ⟨p1, 0, none⟩ = some (.int .i64 id)) (h2 : w.cell? ⟨p2, 1, none⟩ = some (.slice (some ⟨b, o, none⟩) n c)) (hk : k < n) (hnc : n ≤ c) (hc : c ≤ maxLen)
    (hat : w.cell? ⟨b, o + k * 7, none⟩ = some (.int .i64 nd.id)) :
    Calls Tryz.prog 63 #[.int .i64 k, .pointer (some ⟨p1, 0, none⟩), .pointer (some ⟨p2, 0, none⟩)] w fun e w' => e = .returned (.int .i64 (Lib.compareInt id nd.id)) ∧ ∃ q, w' = w.drewN q := by
  unfold maxLen at hc
  go_enter Tryz.func63, Tryz.ntmps63
  go_wp2_with fail
  go_quiet ((go_at_call 49; exact Calls.quiet_of_same (Tryz.cmp_Compare_int _ _ _)))
  go_wp2
  go_ret
  exact ⟨rfl, _, rfl⟩
set_option maxHeartbeats 1600000 in
theorem sfind_any (w : World) (hi : Nat) (next id : Int) (A : Option Addr) (n c : Nat) (nds : List Nd) (p1 p2 : Nat) (h : NodesIn w 0 hi A n c nds) (hr : Rise nds) (hn : n ≤ 4096)
    (h1 : w.cell? ⟨p1, 0, none⟩ = some (.int .i64 id)) (h2 : w.cell? ⟨p2, 1, none⟩ = some (.slice A n c)) :
    Calls Tryz.prog 62 #[.int .i64 n, .func (.func 63) #[] #[.pointer (some ⟨p1, 0, none⟩), .pointer (some ⟨p2, 0, none⟩)]] w (DrewV w (ixV nds id)) := by
  have hc := h.2.2.1
  have hnc := h.2.1
  have hl := Lib.hid h.1
  have C1 : ∀ (q k : Nat) (b o : Nat) (nd : Nd) (L : Leaf), A = some ⟨b, o, none⟩ → k < n → NodeAt w b (o + k * 7) nd L → Calls Tryz.prog 63 #[.int .i64 k, .pointer (some ⟨p1, 0, none⟩), .pointer (some ⟨p2, 0, none⟩)] (w.drewN q) fun e w' => e = .returned (.int .i64 (Lib.compareInt id nd.id)) ∧ ∃ q', w' = w.drewN q' := by
    intro q k b o nd L hA hk hat
    subst hA
    refine (snode1_any (w.drewN q) hi next id b o n c nds p1 p2 k nd L (by simpa using h1) (by simpa using h2) hk hnc hc (by simpa using hat.c0)).mono ?_
    rintro e w' ⟨he, q', hq⟩
    exact ⟨he, q + q', by rw [hq, World.drewN_drewN]⟩
  have HC := Lib.hid C1
  have H1 := Lib.hid h1
  have H2 := Lib.hid h2
  have hc63 : c ≤ 9223372036854775807 := by unfold maxLen at hc; omega
  clear C1 h1 h2 hc
  go_enter Tryz.func62, Tryz.ntmps62
  go_wp2_with fail
  go_loopw [4, 6] (fun x y wr => FindRel nds id w n x y wr) (fun x y _ => (intOf y - intOf x).toNat)
  case atStart => exact ⟨0, n, 0, Nat.le_refl _, rfl, rfl, Half.start nds id n hl.out, rfl⟩
  case round =>
    obtain ⟨l, m, q, hm, rfl, rfl, H, rfl⟩ := hrel
    have hle := H.le
    by_cases hlt : l < m
    · obtain ⟨b, o, nd, L, rfl, _, hb, hnd, hat, _⟩ := h.at_ (i := (l + m) / 2) (by omega)
      have hX := HC.out q ((l + m) / 2) b o nd L rfl (by omega) hat
      rw [show (((l + m) / 2 : Nat) : Int) = ((l : Int) + (m : Int)) / 2 from by omega] at hX
      have HX := Lib.hid hX
      clear hX
      by_cases hx : nd.id < id
      · have HU := Lib.hid (H.up hr hnd (by omega) hx)
        have d1 := (cmp_gt hx).1
        clear hx hnd hat
        go_wp2_with (go_at_call 63; refine HX.out.mono ?_; rintro e w' ⟨rfl, q', rfl⟩)
        go_roundw
        case rel => exact ⟨(l + m) / 2 + 1, m, q', hm, by go_num, rfl, HU.out, rfl⟩
        case measure => simp [intOf]; omega
      · have HU := Lib.hid (H.down hr hnd (by omega) (by omega))
        have d1 := cmp_le (x := id) (y := nd.id) (by omega)
        clear hx hnd hat
        go_wp2_with (go_at_call 63; refine HX.out.mono ?_; rintro e w' ⟨rfl, q', rfl⟩)
        go_roundw
        case rel => exact ⟨l, (l + m) / 2, q', by omega, rfl, by go_num, HU.out, rfl⟩
        case measure => simp [intOf]; omega
    · have he : m = l := by omega
      rw [he] at H
      clear he
      have hl' := hl.out
      have HR := Lib.hid (H.rank (by omega))
      by_cases hk : l < n
      · obtain ⟨b, o, nd, L, rfl, _, hb, hnd, hat, _⟩ := h.at_ (i := l) hk
        have HX := Lib.hid (HC.out q l b o nd L rfl (by omega) hat)
        have hS := (ixOf_none_some H hr).2 nd hnd
        by_cases hx : nd.id = id
        · have HS := Lib.hid (hS.1 hx)
          have d1 := cmp_eq hx.symm
          clear hx hS hnd hat hl'
          go_wp2_with (go_at_call 63; refine HX.out.mono ?_; rintro e w' ⟨rfl, q', rfl⟩)
          go_ret2
          unfold ixV
          rw [HS.out, HR.out]
          exact drew_v rfl
        · have HS := Lib.hid (hS.2 hx)
          have d1 := cmp_ne (x := id) (y := nd.id) (fun e => hx e.symm)
          clear hx hS hnd hat hl'
          go_wp2_with (go_at_call 63; refine HX.out.mono ?_; rintro e w' ⟨rfl, q', rfl⟩)
          go_ret2
          unfold ixV
          rw [HS.out, HR.out]
          exact drew_v rfl
      · have HS := Lib.hid ((ixOf_none_some H hr).1 (by omega))
        clear hl'
        go_wp2_with fail
        go_ret2
        unfold ixV
        rw [HS.out, HR.out]
        exact drew_v rfl
/-- the node with a number, in its place -/
def NodeIs (w : World) (b o i : Nat) (e : Ending) (w' : World) : Prop := e = .returned (.pointer (some ⟨b, o + i * 7, none⟩)) ∧ Below w.heap.size w w'
set_option maxHeartbeats 1600000 in
theorem snode_any (w : World) (hi : Nat) (next id : Int) (A : Option Addr) (n c : Nat) (nds : List Nd) (h : NodesIn w 0 hi A n c nds) (hh : hi ≤ w.heap.size) (hr : Rise nds) (hn : n ≤ 4096) (i : Nat) (nd : Nd) (hnd : nds[i]? = some nd) (hid : nd.id = id) (b o : Nat) (hA : A = some ⟨b, o, none⟩) :
    Calls Tryz.prog 28 #[.agg #[.int .i64 next, .slice A n c], .int .i64 id] w (NodeIs w b o i) := by
  have hc := h.2.2.1
  have hnc := h.2.1
  unfold maxLen at hc
  have hin : i < n := by rw [← h.1]; exact (List.getElem?_eq_some_iff.1 hnd).1
  subst hA
  have hix : ixV nds id = .tuple #[.int .i64 i, .bool true] := by
    unfold ixV
    rw [← hid, (rank_fast hr hnd).1, (rank_fast hr hnd).2]
  have HB0 : Hid (Below w.heap.size w ((w.alloc (.cells #[.int .i64 next, .slice (some ⟨b, o, none⟩) n c] 25)).alloc (.cells #[.int .i64 id] 3))) := Lib.hid (((Below.refl _ _).alloc (Nat.le_refl _) _).alloc (by simp) _)
  have HM0 : Hid (Blk ((w.alloc (.cells #[.int .i64 next, .slice (some ⟨b, o, none⟩) n c] 25)).alloc (.cells #[.int .i64 id] 3)) w.heap.size 25 #[.int .i64 next, .slice (some ⟨b, o, none⟩) n c]) := Lib.hid ((Blk.new _ _ _).alloc _)
  have HI0 : Hid (Blk ((w.alloc (.cells #[.int .i64 next, .slice (some ⟨b, o, none⟩) n c] 25)).alloc (.cells #[.int .i64 id] 3)) (w.heap.size + 1) 3 #[.int .i64 id]) := Lib.hid (Blk.new' (by simp))
  have HND := Lib.hid hnd
  have HID := Lib.hid hid
  have HF := Lib.hid (sfind_any ((w.alloc (.cells #[.int .i64 next, .slice (some ⟨b, o, none⟩) n c] 25)).alloc (.cells #[.int .i64 id] 3)) hi next id (some ⟨b, o, none⟩) n c nds (w.heap.size + 1) w.heap.size (h.below (HB0.out.mono hh)) hr hn ((HI0.out.cell 0).trans rfl) ((HM0.out.cell 1).trans rfl))
  rw [hix] at HF
  clear h hix hnd hid
  go_enter Tryz.func28, Tryz.ntmps28
  go_upto_region 1 with (fail)
  generalize (w.alloc (.cells #[.int .i64 next, .slice (some ⟨b, o, none⟩) n c] 25)).alloc (.cells #[.int .i64 id] 3) = W1 at HB0 HM0 HF ⊢
  have cx := (HM0.out.cell 1).trans (show _ = some (.slice (some ⟨b, o, none⟩) n c) from rfl)
  go_wp2_with (go_at_call 62; refine HF.out.mono ?_; rintro e w' ⟨rfl, q', rfl⟩)
  go_ret
  exact ⟨rfl, below_drewN HB0.out _⟩
end Go.Proofs.YtjjlofaejpnnnaaGreatDoor

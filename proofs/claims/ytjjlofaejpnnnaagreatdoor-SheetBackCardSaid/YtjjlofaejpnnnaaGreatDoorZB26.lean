/-
  WALKS over package sheet: Parse.
  WALKS: awake of the statements of package sheet: a class with a field.
-/
import Derived.Test.YtjjlofaejpnnnaaGreatDoorZB25
namespace Go.Proofs.YtjjlofaejpnnnaaGreatDoor
open Go Go.RowKit
set_option linter.unusedVariables false
theorem parse_res (fn : Func) (hres : fn.results = #[.cell 2 25, .tmp 3, .tmp 4]) {W : World} {g : Nat} {a b v3 v4 : Value} (hg : Blk W g 25 #[a, b]) (tmps : Array Value) (h2 : tmps[2]?.getD undef = .pointer (some ⟨g, 0, none⟩)) (h3 : tmps[3]?.getD undef = v3) (h4 : tmps[4]?.getD undef = v4) :
    (results fn tmps).run Tryz.prog W = .ok (.tuple #[.agg #[a, b], v3, v4]) W := by
  have h := run_loadVar_row (P := Tryz.prog) W g 25 25 #[a, b] (0, 0) _ hg Tryz.underlying25 rfl infoModel2
  simp [results, hres, h2, h3, h4, asAddr, h]
/-- what Parse answers -/
def ParseP (w : World) (r : (Int × List Nd) × Int × Int) (e : Ending) (w' : World) : Prop :=
  ∃ A n c, e = .returned (.tuple #[.agg #[.int .i64 r.1.1, .slice A n c], .int .i64 r.2.1, .int .i64 r.2.2]) ∧ NodesIn w' 0 w'.heap.size A n c r.1.2 ∧ Below w.heap.size w w'
theorem parseP_no {w w' : World} {r : (Int × List Nd) × Int × Int} {a x : Int} (hr : r = ((0, []), a, x)) (hb : Below w.heap.size w w') : ParseP w r (.returned (.tuple #[.agg #[.int .i64 0, .slice none 0 0], .int .i64 a, .int .i64 x])) w' := by
  subst hr
  exact ⟨none, 0, 0, rfl, NodesIn.nil _ _ _, hb⟩
/-- the lines from here on, by cutting -/
theorem linesV_cut (f : Nat) (st : RS) (k : Nat) (l : List UInt8) : linesV (f + 1) st k l = if hasS l 10 = true then (match lineV st (cutA 10 l) with
    | some st' => if cutB 10 l = [] then .inl st' else linesV f st' (k + 1) (cutB 10 l)
    | none => .inr (k + 1)) else .inr (k + 1) := by
  have e : linesV (f + 1) st k l = match takesV st (cutA 10 l), l.drop (cutA 10 l).length with
    | some st', _ :: rest => if rest = [] then .inl st' else linesV f st' (k + 1) rest
    | _, _ => .inr (k + 1) := rfl
  rw [e, takesV_line]
  by_cases h : hasS l 10 = true
  · rw [if_pos h]
    have hlt := cutA_lt (c := 10) (l := l) h
    have hd : ∃ x, l.drop (cutA 10 l).length = x :: cutB 10 l := by
      unfold cutB
      cases hx : l.drop (cutA 10 l).length with
      | nil => have := congrArg List.length hx; rw [List.length_drop] at this; simp at this; omega
      | cons x r => exact ⟨x, by simp⟩
    obtain ⟨x, hx⟩ := hd
    rw [hx]
    cases lineV st (cutA 10 l) with
    | none => rfl
    | some st' => rfl
  · rw [if_neg h]
    have h2 : l.drop (cutA 10 l).length = [] := by rw [(cut_no (c := 10) (l := l) h).1]; simp
    rw [h2]
    cases lineV st (cutA 10 l) <;> rfl
theorem cutB_lt {l : List UInt8} (h : hasS l 10 = true) : (cutB 10 l).length < l.length := by
  have := cutA_lt (c := 10) (l := l) h
  unfold cutB
  rw [List.length_drop, List.length_drop]
  omega
/-- the lines that are left -/
structure LeftL (F : Nat) (L : List UInt8) (st : RS) (k : Nat) (t : ByteArray) : Prop where
  fuel : ∃ f, t.size < f ∧ linesV F ⟨0, [], []⟩ 0 L = linesV f st k t.data.toList
/-- the reader, its result's box -/
structure PS (w : World) (k : Nat) (st : RS) (wr : World) : Prop where
  rd : ∃ v vw l, RIn (w.heap.size + 3) (w.heap.size + 2) (w.heap.size + 1) k v vw l st wr
  bel : Below (w.heap.size + 1) (w.alloc (.cells #[.int .i64 0, .slice none 0 0] 25)) wr
  bx : Blk wr w.heap.size 25 #[.int .i64 0, .slice none 0 0]
theorem PS.low {w wr : World} {k : Nat} {st : RS} (h : PS w k st wr) : Below w.heap.size w wr :=
  ((Below.refl _ _).alloc (Nat.le_refl _) _).trans (h.bel.mono (by omega))
theorem PS.next {w wr w' : World} {k k' : Nat} {st st' : RS} (h : PS w k st wr) (hb : Below (w.heap.size + 1) wr w') (hr : ∃ v vw l, RIn (w.heap.size + 3) (w.heap.size + 2) (w.heap.size + 1) k' v vw l st' w') : PS w k' st' w' :=
  ⟨hr, h.bel.trans hb, h.bx.below hb (Nat.lt_succ_self _)⟩
theorem rin_start (w : World) : PS w 0 ⟨0, [], []⟩ (((w.alloc (.cells #[.int .i64 0, .slice none 0 0] 25)).alloc (.map #[] 0)).alloc (.cells #[.int .i64 0, .slice none 0 0, .map (some (w.heap.size + 1)), .int .i64 0, .slice none 0 0] 45)) := by
  have e1 : (w.alloc (.cells #[.int .i64 0, .slice none 0 0] 25)).heap.size = w.heap.size + 1 := by simp
  have e2 : ((w.alloc (.cells #[.int .i64 0, .slice none 0 0] 25)).alloc (.map #[] 0)).heap.size = w.heap.size + 2 := by simp
  have hset : SeenIs ((w.alloc (.cells #[.int .i64 0, .slice none 0 0] 25)).alloc (.map #[] 0)) (w.heap.size + 1) 0 [] := by
    have := SeenIs.made (w.alloc (.cells #[.int .i64 0, .slice none 0 0] 25))
    rw [e1] at this
    exact this
  refine ⟨⟨.slice none 0 0, .slice none 0 0, [], ⟨?_, NP.nil _ (by simp), hset.after ((Below.refl _ _).alloc (Nat.le_refl _) _), rfl, fun h => absurd rfl h, fun _ => ⟨rfl, rfl⟩, by simp, by omega, by omega, by omega⟩⟩, ?_, ?_⟩
  · have := Blk.new ((w.alloc (.cells #[.int .i64 0, .slice none 0 0] 25)).alloc (.map #[] 0)) 45 #[.int .i64 0, .slice none 0 0, .map (some (w.heap.size + 1)), .int .i64 0, .slice none 0 0]
    rw [e2] at this
    exact this
  · exact ((Below.refl _ _).alloc (by rw [e1]; exact Nat.le_refl _) _).alloc (by rw [e2]; omega) _
  · exact ((Blk.new w _ _).alloc _).alloc _
set_option maxRecDepth 20000 in
set_option maxHeartbeats 6400000 in
theorem sheetParse_any (w : World) (s : ByteArray) (hE : Env w) : Calls Tryz.prog 8 #[.string s] w (ParseP w (parseV s.data.toList)) := by
  have hres : Tryz.f8.results = #[.cell 2 25, .tmp 3, .tmp 4] := by kernel_rfl
  have HR0 : Hid (Blk (w.alloc (.cells #[.int .i64 0, .slice none 0 0] 25)) w.heap.size 25 #[.int .i64 0, .slice none 0 0]) := Lib.hid (Blk.new _ _ _)
  by_cases hl : 1048576 < s.size
  · have HX : Hid (parseV s.data.toList = ((0, []), 0, 3)) := Lib.hid (by unfold parseV; rw [if_pos (by rw [toList_eq]; exact hl)])
    have hl1 : (1048576 : Int) < (s.size : Int) := by omega
    clear hl hE
    go_enter Tryz.func8, Tryz.ntmps8
    go_wp2_with ((with_reducible show wpList _ _ _ (Oper.mk _ (Op.store 25 _ _) _ _ _ _ :: _) _ _); refine wpList_store_row rfl _ _ _ rfl w.heap.size _ rfl rfl 25 #[.int .i64 0, .slice none 0 0] HR0.out infoModel2 rfl (one_model _ _ _ _) ?_)
    (try simp only [Exit.inBlock, Exit.then])
    refine bodyPost_ret (parse_res _ hres (v3 := .int .i64 0) (v4 := .int .i64 3) (setRow_heap _ _ _ _ _ _ HR0.out) _ (by go_simp) (by go_simp) (by go_simp)) rfl ?_
    exact parseP_no HX.out (below_setRowS ((Below.refl _ _).alloc (Nat.le_refl _) _) (Nat.le_refl _))
  · have HX : Hid (parseV s.data.toList = (match linesV (s.data.toList.length + 1) ⟨0, [], []⟩ 0 s.data.toList with
      | .inl st => ((st.next, sortV st.nds), 0, 0)
      | .inr k => ((0, []), (k : Int), 30))) := Lib.hid (by unfold parseV; rw [if_neg (by rw [toList_eq]; exact hl)]; rfl)
    have hl1 : ¬ (1048576 : Int) < (s.size : Int) := by omega
    have HP0 := Lib.hid (rin_start w)
    have HL0 : Hid (LeftL (s.data.toList.length + 1) s.data.toList ⟨0, [], []⟩ 0 s) := Lib.hid ⟨_, by rw [toList_eq]; exact Nat.lt_succ_self _, rfl⟩
    have hss : s.size ≤ 1048576 := by omega
    have HE := Lib.hid hE
    clear hl hE
    have hmm := @run_makeMap Tryz.prog
    go_enter Tryz.func8, Tryz.ntmps8
    go_upto_region 4 with (fail)
    generalize ((w.alloc (.cells #[.int .i64 0, .slice none 0 0] 25)).alloc (.map #[] 0)).alloc (.cells #[.int .i64 0, .slice none 0 0, .map (some (w.heap.size + 1)), .int .i64 0, .slice none 0 0] 45) = W0 at HP0 ⊢
    clear hmm
    go_wp2_with fail
    go_loopw [0, 6, 7, 8, 9] (fun a0 a6 a7 a8 a9 wr => ∃ (tx : ByteArray) (k : Nat) (st : RS), a0 = .string tx ∧ a6 = .int .i64 ((k : Int) + 1) ∧ k + tx.size ≤ s.size ∧ Hid (PS w k st wr) ∧ Hid (LeftL (s.data.toList.length + 1) s.data.toList st k tx)) (fun a0 _ _ _ _ _ => match a0 with | .string r => r.size | _ => 0)
    case atStart => exact ⟨s, 0, _, rfl, rfl, by omega, HP0, HL0⟩
    case round =>
      rename World => wr
      obtain ⟨tx, k, st, rfl, rfl, hkt, HPS, HLF⟩ := hrel
      have HCU := Lib.hid (cut_any tx 10 wr (by omega))
      go_upto_region 7 with (go_at_call 18; refine HCU.out.mono ?_; rintro e w1 ⟨a, b, rfl, ha, hb, hza, hzb, hb1⟩; have HB1 := Lib.hid hb1; clear hb1)
      obtain ⟨f0, hf0, hL0⟩ := HLF.out.fuel
      obtain ⟨f, rfl⟩ : ∃ f, f0 = f + 1 := ⟨f0 - 1, by omega⟩
      have HLV : Hid (linesV (s.data.toList.length + 1) ⟨0, [], []⟩ 0 s.data.toList = if hasS tx.data.toList 10 = true then (match lineV st a.data.toList with
        | some st' => if b.data.toList = [] then .inl st' else linesV f st' (k + 1) b.data.toList
        | none => .inr (k + 1)) else .inr (k + 1)) := Lib.hid (by rw [hL0, linesV_cut, ha, hb])
      have HFU : Hid (tx.size < f + 1) := Lib.hid hf0
      have HBL : Hid (hasS tx.data.toList 10 = true → b.size < tx.size) := Lib.hid fun h => by
        have := cutB_lt h
        rw [sz_of hb, ← toList_eq]
        exact this
      have HNO : Hid (linesV (s.data.toList.length + 1) ⟨0, [], []⟩ 0 s.data.toList = .inr (k + 1) → parseV s.data.toList = ((0, []), (k : Int) + 1, 30)) := Lib.hid fun h => by
        rw [HX.out, h]
        simp
      have HP1 : Hid (PS w k st w1) := Lib.hid (HPS.out.next ((HB1.out).mono (by have := HPS.out.bx.lt; omega)) (by obtain ⟨v, vw, l, h⟩ := HPS.out.rd; exact ⟨v, vw, l, h.after HB1.out⟩))
      clear hL0 hf0 ha hb HPS HLF HB1
      generalize hasS tx.data.toList 10 = ended at HLV HBL ⊢
      cases ended with
      | false =>
        have HF := Lib.hid (HNO.out (by rw [HLV.out]; rfl))
        have bx := HP1.out.bx
        go_wp2_with ((with_reducible show wpList _ _ _ (Oper.mk _ (Op.store 25 _ _) _ _ _ _ :: _) _ _); refine wpList_store_row rfl _ _ _ rfl w.heap.size _ rfl rfl 25 #[.int .i64 0, .slice none 0 0] bx infoModel2 rfl (one_model _ _ _ _) ?_)
        (try simp only [Exit.noGoto_ret, Exit.inBlock, Exit.then])
        refine bodyPost_ret (parse_res _ hres (v3 := .int .i64 ((k : Int) + 1)) (v4 := .int .i64 30) (setRow_heap _ _ _ _ _ _ bx) _ (by go_simp) (by go_simp) (by go_simp)) rfl ?_
        exact parseP_no HF.out (below_setRowS HP1.out.low (Nat.le_refl _))
      | true =>
        have HLI : Hid (Calls Tryz.prog 19 #[.pointer (some ⟨w.heap.size + 2, 0, none⟩), .string a] w1 (LineQ (w.heap.size + 1) (w.heap.size + 3) (w.heap.size + 2) (w.heap.size + 1) k (lineV st a.data.toList) w1)) := Lib.hid (by
          obtain ⟨v, vw, l, h⟩ := HP1.out.rd
          exact rdLine_any w1 (w.heap.size + 1) (w.heap.size + 3) (w.heap.size + 2) (w.heap.size + 1) k v vw l st h (by omega) (Nat.le_refl _) a (by omega) (by omega) (HE.out.below HP1.out.low))
        cases hlv : lineV st a.data.toList with
        | none =>
          rw [hlv] at HLI HLV
          have HF := Lib.hid (HNO.out (by rw [HLV.out]; rfl))
          clear hlv
          go_wp2_with (first | (go_at_call 19; refine HLI.out.mono ?_; rintro e w2 ⟨rfl, hb2, _⟩; have HBL2 := Lib.hid (HP1.out.bel.trans hb2); have bx := HP1.out.bx.below hb2 (Nat.lt_succ_self _); clear hb2; (try simp only [Option.isSome_none])) | ((with_reducible show wpList _ _ _ (Oper.mk _ (Op.store 25 _ _) _ _ _ _ :: _) _ _); refine wpList_store_row rfl _ _ _ rfl w.heap.size _ rfl rfl 25 #[.int .i64 0, .slice none 0 0] bx infoModel2 rfl (one_model _ _ _ _) ?_))
          (try simp only [Exit.noGoto_ret, Exit.inBlock, Exit.then])
          refine bodyPost_ret (parse_res _ hres (v3 := .int .i64 ((k : Int) + 1)) (v4 := .int .i64 30) (setRow_heap _ _ _ _ _ _ bx) _ (by go_simp) (by go_simp) (by go_simp)) rfl ?_
          exact parseP_no HF.out (below_setRowS (((Below.refl _ _).alloc (Nat.le_refl _) _).trans (HBL2.out.mono (by omega))) (Nat.le_refl _))
        | some st' =>
          rw [hlv] at HLI HLV
          have HLV2 : Hid (linesV (s.data.toList.length + 1) ⟨0, [], []⟩ 0 s.data.toList = if b.data.toList = [] then .inl st' else linesV f st' (k + 1) b.data.toList) := Lib.hid (by rw [HLV.out]; rfl)
          have HN0 : Hid (st'.next ≠ 0) := Lib.hid (by
            obtain ⟨v, vw, l, h⟩ := HP1.out.rd
            have := (line_ok h.ok hlv).n1
            omega)
          clear hlv HLV HNO
          have hbl := HBL.out rfl
          go_upto_region 9 with (go_at_call 19; refine HLI.out.mono ?_; rintro e w2 ⟨rfl, hb2, hr2⟩; have HP2 : Hid (PS w (k + 1) st' w2) := Lib.hid (HP1.out.next hb2 (hr2 _ rfl)); clear hb2 hr2; (try simp only [Option.isSome_some]))
          cases hbe : b.toList.isEmpty with
          | true =>
            have HBE : Hid (b.data.toList = []) := Lib.hid (by rw [← Lib.toList_data]; simpa using hbe)
            have HF : Hid (parseV s.data.toList = ((st'.next, sortV st'.nds), 0, 0)) := Lib.hid (by rw [HX.out, HLV2.out, if_pos HBE.out])
            have HMO : Hid (Calls Tryz.prog 20 #[.pointer (some ⟨w.heap.size + 2, 0, none⟩)] w2 (ModelP (w.heap.size + 1) st' w2)) := Lib.hid (by
              obtain ⟨v, vw, l, h⟩ := HP2.out.rd
              exact model_any w2 (w.heap.size + 1) (w.heap.size + 3) (w.heap.size + 2) (w.heap.size + 1) (k + 1) v vw l st' h HN0.out (by omega))
            go_wp2_with (first | (go_at_call 20; refine HMO.out.mono ?_; rintro e w3 ⟨A, n, c, rfl, hni, hb3⟩; have HNI := Lib.hid hni; have HB3 := Lib.hid hb3; have bx := HP2.out.bx.below hb3 (Nat.lt_succ_self _); clear hni hb3) | ((with_reducible show wpList _ _ _ (Oper.mk _ (Op.store 25 _ _) _ _ _ _ :: _) _ _); refine wpList_store_row rfl _ _ _ rfl w.heap.size _ rfl rfl 25 #[.int .i64 0, .slice none 0 0] bx infoModel2 rfl (one_model _ _ _ _) ?_))
            (try simp only [Exit.noGoto_ret, Exit.inBlock, Exit.then])
            refine bodyPost_ret (parse_res _ hres (v3 := .int .i64 0) (v4 := .int .i64 0) (setRow_heap _ _ _ _ _ _ bx) _ (by go_simp) (by go_simp) (by go_simp)) rfl ?_
            rw [HF.out]
            refine ⟨A, n, c, rfl, ?_, below_setRowS (HP2.out.low.trans (HB3.out.mono (by omega))) (Nat.le_refl _)⟩
            exact (HNI.out.rowLo (Nat.lt_succ_self _)).mono (Nat.zero_le _) (by simp [World.setRow])
          | false =>
            have HBE : Hid (b.data.toList ≠ []) := Lib.hid (by rw [← Lib.toList_data]; simpa using hbe)
            have HLF2 : Hid (LeftL (s.data.toList.length + 1) s.data.toList st' (k + 1) b) := Lib.hid ⟨f, by have := HFU.out; omega, by rw [HLV2.out, if_neg HBE.out]⟩
            go_wp2_with fail
            go_roundw
            case rel => exact ⟨b, k + 1, st', rfl, by go_num, by omega, HP2, HLF2⟩
            case measure => simp only; omega
end Go.Proofs.YtjjlofaejpnnnaaGreatDoor
namespace Go.Proofs.YtjjlofaejpnnnaaGreatDoor
open Go Go.RowKit
set_option linter.unusedVariables false
theorem env_tab {w : World} (h : Env w) : TabEnv w := h.tab
theorem aw6 : findV 12 awM 1 = (awM.headD zeroNd, true) := by kernel_rfl
def awN : Nd := awM.headD zeroNd
theorem awFits : ∀ nd ∈ awM, Fits 1 nd := by
  intro nd hnd
  simp only [awM, List.mem_cons, List.not_mem_nil, or_false] at hnd
  rcases hnd with rfl | rfl | rfl | rfl <;> exact ⟨by simp, by simp, by simp⟩
/-- what awake's third model is found to hold -/
structure AwF (w' : World) (B : Nat) (e : Ending) (w : World) : Prop where
  out : ∃ (P K R : Sl) (gp gk gr cp ck cr : Nat), e = .returned (.tuple #[.agg #[.int .i64 1, .string awN.con, .int .i64 0, .string awN.role, .slice (some ⟨gp, 0, none⟩) 1 cp, .slice (some ⟨gk, 0, none⟩) 2 ck, .slice (some ⟨gr, 0, none⟩) 1 cr], .bool true]) ∧ Below w.heap.size w w' ∧
    gp < w'.heap.size ∧ gk < w'.heap.size ∧ gr < w'.heap.size ∧ 1 ≤ cp ∧ 2 ≤ ck ∧ 1 ≤ cr ∧ cp ≤ maxLen ∧ ck ≤ maxLen ∧ cr ≤ maxLen ∧
    w'.cell? ⟨gp, 1, none⟩ = some (.string ⟨#[97, 34, 98]⟩) ∧ w'.cell? ⟨gk, 0, none⟩ = some (.int .i64 4) ∧ w'.cell? ⟨gr, 1, none⟩ = some (.int .i64 9)
theorem aw_find (w : World) (hi : Nat) (A : Option Addr) (n c : Nat) (h : NodesIn w 0 hi A n c awM) (hh : hi ≤ w.heap.size) : Calls Tryz.prog 23 #[.agg #[.int .i64 12, .slice A n c], .int .i64 1] w (fun e w' => AwF w' 0 e w) := by
  refine (find_any' w hi 12 1 A n c awM h hh awFits).mono ?_
  rintro e w' ⟨⟨⟨Pa, Pn, Pc⟩, ⟨Ka, Kn, Kc⟩, ⟨Ra, Rn, Rc⟩⟩, rfl, hO, hb⟩
  rw [aw6] at hO ⊢
  have h1 : Pn = 1 := hO.pn
  have h2 : Kn = 2 := hO.kn
  have h3 : Rn = 1 := hO.rn
  subst h1 h2 h3
  have hp := hO.p
  have hk := hO.k
  have hr := hO.r
  have q1 := own_row hp
  have q2 := own_row hk
  have q3 := own_row hr
  obtain ⟨gp, rfl, _⟩ := own_addrB hp Nat.one_pos
  obtain ⟨gk, rfl, _⟩ := own_addrB hk Nat.two_pos
  obtain ⟨gr, rfl, _⟩ := own_addrB hr Nat.one_pos
  refine ⟨⟨none, 0, 0⟩, ⟨none, 0, 0⟩, ⟨none, 0, 0⟩, gp, gk, gr, Pc, Kc, Rc, rfl, hb, (World.ownsRow.lt hp gp rfl).2, (World.ownsRow.lt hk gk rfl).2, (World.ownsRow.lt hr gr rfl).2, q1.2.1, q2.2.1, q3.2.1, q1.2.2.1, q2.2.2.1, q3.2.2.1, ?_, ?_, ?_⟩
  · rw [World.ownsRow.cellAt hp 1 (by show 1 < 1 * 2; decide)]; rfl
  · rw [World.ownsRow.cellAt hk 0 (by show 0 < 2 * 1; decide)]; rfl
  · rw [World.ownsRow.cellAt hr 1 (by show 1 < 1 * 2; decide)]; rfl
set_option maxRecDepth 40000 in
set_option maxHeartbeats 6400000 in
theorem awake_any (w : World) (hE : Env w) : Calls Tryz.prog 11 #[] w (Ret w (.bool true)) := by
  have HPA : Hid (∀ (T : ByteArray) Y, T.data.toList = awT → Below w.heap.size w Y → Calls Tryz.prog 8 #[.string T] Y (ParseP Y ((12, awM), 0, 0))) := Lib.hid fun T Y hT hY => by
    have := sheetParse_any Y T (hE.below hY)
    rwa [hT, aw1] at this
  have HPB : Hid (∀ (T : ByteArray) Y, T.data.toList = [110, 101, 120, 116, 32, 53, 10, 50, 32, 65, 10, 49, 32, 66, 10] → Below w.heap.size w Y → Calls Tryz.prog 8 #[.string T] Y (ParseP Y ((0, []), 3, 30))) := Lib.hid fun T Y hT hY => by
    have := sheetParse_any Y T (hE.below hY)
    rwa [hT, aw2] at this
  have HPC : Hid (∀ (T : ByteArray) Y, T.data.toList = [] → Below w.heap.size w Y → Calls Tryz.prog 8 #[.string T] Y (ParseP Y ((0, []), 1, 30))) := Lib.hid fun T Y hT hY => by
    have := sheetParse_any Y T (hE.below hY)
    rwa [hT, aw3] at this
  obtain ⟨S, hS⟩ : ∃ S : ByteArray, (⟨awT.toArray⟩ : ByteArray) = S := ⟨_, rfl⟩
  have HPR : Hid (∀ A n c Y hi, NodesIn Y 0 hi A n c awM → hi ≤ Y.heap.size → Below w.heap.size w Y → Calls Tryz.prog 12 #[.agg #[.int .i64 12, .slice A n c]] Y fun e w' => e = .returned (.tuple #[.string S, .int .i64 0]) ∧ Below Y.heap.size Y w') := Lib.hid fun A n c Y hi h hh hY => by
    have := print_any Y hi 12 A n c awM h hh (env_tab (hE.below hY))
    rw [aw4] at this
    exact this.mono fun e w' h => ⟨by rw [h.1, ← hS], h.2⟩
  have HPN : Hid (∀ Y, Below w.heap.size w Y → Calls Tryz.prog 12 #[.agg #[.int .i64 0, .slice none 0 0]] Y (PrintP Y ([], 29))) := Lib.hid fun Y hY => by
    have := print_any Y 0 0 none 0 0 [] (NodesIn.nil _ _ _) (Nat.zero_le _) (env_tab (hE.below hY))
    rwa [aw5] at this
  have HSL : Hid (S.toList = awT) := Lib.hid (by rw [← hS, Lib.toList_data])
  have HFD : Hid (∀ Y hi A n c, NodesIn Y 0 hi A n c awM → hi ≤ Y.heap.size → Calls Tryz.prog 23 #[.agg #[.int .i64 12, .slice A n c], .int .i64 1] Y (fun e w' => AwF w' 0 e Y)) := Lib.hid fun Y hi A n c h hh => aw_find Y hi A n c h hh
  clear hE hS
  go_enter Tryz.func11, Tryz.ntmps11
  go_upto_region 2 with (go_at_call 8; refine (HPA.out _ _ (by rfl) (Below.refl _ _)).mono ?_; rintro e w1 ⟨A, n, c, rfl, hn1, hb1⟩; have HN1 := Lib.hid hn1; have HB1 := Lib.hid hb1; clear hn1 hb1)
  have HN4 : Hid (n = 4) := Lib.hid HN1.out.1.symm
  have hn4 := HN4.out
  subst hn4
  clear HN4
  have HM1 : Hid (Blk (w1.alloc (.cells #[.int .i64 12, .slice A 4 c] 25)) w1.heap.size 25 #[.int .i64 12, .slice A 4 c]) := Lib.hid (Blk.new _ _ _)
  have HNW : Hid (NodesIn (w1.alloc (.cells #[.int .i64 12, .slice A 4 c] 25)) 0 w1.heap.size A 4 c awM) := Lib.hid (HN1.out.below ((Below.refl _ _).alloc (Nat.le_refl _) _))
  have HBW : Hid (Below w.heap.size w (w1.alloc (.cells #[.int .i64 12, .slice A 4 c] 25))) := Lib.hid (HB1.out.alloc HB1.out.size _)
  generalize w1.alloc (.cells #[.int .i64 12, .slice A 4 c] 25) = W1 at HM1 HNW HBW ⊢
  generalize w1.heap.size = g1 at HM1 HNW ⊢
  clear HN1 HB1
  have m0 := (HM1.out.cell 0).trans (show _ = some (.int .i64 12) from rfl)
  have m1 := (HM1.out.cell 1).trans (show _ = some (.slice A 4 c) from rfl)
  go_upto_region 3 with (go_at_call 12; refine (HPR.out _ _ _ _ _ HNW.out (Nat.le_of_lt HM1.out.lt) HBW.out).mono ?_; rintro e w2 ⟨rfl, hb2⟩; have HB2 := Lib.hid hb2; clear hb2)
  have HM2 := Lib.hid (HM1.out.after HB2.out)
  have HN2 := Lib.hid (HNW.out.below (HB2.out.mono (Nat.le_of_lt HM1.out.lt)))
  have HBX : Hid (Below w.heap.size w w2) := Lib.hid (HBW.out.trans (HB2.out.mono HBW.out.size))
  clear m0 m1 HB2 HM1 HNW HBW
  go_upto_region 4 with (go_at_call 8; refine (HPB.out _ _ (by rfl) HBX.out).mono ?_; rintro e w3 ⟨A3, n3, c3, rfl, _, hb3⟩; have HB3 := Lib.hid hb3; clear hb3)
  have HM3 := Lib.hid ((HM2.out.after HB3.out).alloc (.cells #[.int .i64 0, .slice A3 n3 c3] 25))
  have HN3 := Lib.hid ((HN2.out.below (HB3.out.mono (Nat.le_of_lt HM2.out.lt))).below (w' := w3.alloc (.cells #[.int .i64 0, .slice A3 n3 c3] 25)) ((Below.refl g1 w3).alloc (Nat.le_of_lt (HM2.out.after HB3.out).lt) _))
  have HBY : Hid (Below w.heap.size w (w3.alloc (.cells #[.int .i64 0, .slice A3 n3 c3] 25))) := Lib.hid (below_more (HBX.out.trans (HB3.out.mono HBX.out.size)) _)
  generalize w3.alloc (.cells #[.int .i64 0, .slice A3 n3 c3] 25) = W3 at HM3 HN3 HBY ⊢
  generalize w3.heap.size = g3
  clear HB3 HM2 HN2 HBX
  go_upto_region 5 with (go_at_call 8; refine (HPC.out _ _ (by rfl) HBY.out).mono ?_; rintro e w4 ⟨A4, n4, c4, rfl, _, hb4⟩; have HB4 := Lib.hid hb4; clear hb4)
  have HM4 := Lib.hid ((HM3.out.after HB4.out).alloc (.cells #[.int .i64 0, .slice A4 n4 c4] 25))
  have HN4 := Lib.hid ((HN3.out.below (HB4.out.mono (Nat.le_of_lt HM3.out.lt))).below (w' := w4.alloc (.cells #[.int .i64 0, .slice A4 n4 c4] 25)) ((Below.refl g1 w4).alloc (Nat.le_of_lt (HM3.out.after HB4.out).lt) _))
  have HBZ : Hid (Below w.heap.size w (w4.alloc (.cells #[.int .i64 0, .slice A4 n4 c4] 25))) := Lib.hid (below_more (HBY.out.trans (HB4.out.mono HBY.out.size)) _)
  generalize w4.alloc (.cells #[.int .i64 0, .slice A4 n4 c4] 25) = W4 at HM4 HN4 HBZ ⊢
  generalize w4.heap.size = g4
  clear HB4 HM3 HN3 HBY
  go_upto_region 6 with (go_at_call 12; refine (HPN.out _ HBZ.out).mono ?_; rintro e w5 ⟨rfl, hb5⟩; have HB5 := Lib.hid hb5; clear hb5)
  have HM5 := Lib.hid (HM4.out.after HB5.out)
  have HN5 := Lib.hid (HN4.out.below (HB5.out.mono (Nat.le_of_lt HM4.out.lt)))
  have HB6 : Hid (Below w.heap.size w w5) := Lib.hid (HBZ.out.trans (HB5.out.mono HBZ.out.size))
  clear HB5 HM4 HN4 HBZ
  have m0 := (HM5.out.cell 0).trans (show _ = some (.int .i64 12) from rfl)
  have m1 := (HM5.out.cell 1).trans (show _ = some (.slice A 4 c) from rfl)
  go_wp2_with (go_at_call 23; refine (HFD.out _ _ _ _ _ HN5.out (Nat.le_of_lt HM5.out.lt)).mono ?_; rintro e w6 ⟨P, K, R, gp, gk, gr, cp, ck, cr, rfl, hb6, l1, l2, l3, b1, b2, b3, b4, b5, b6, k1, k2, k3⟩; have HM6 := HM5.out.after hb6; have x0 := ((HM6.alloc (.cells #[.int .i64 1, .string awN.con, .int .i64 0, .string awN.role, .slice (some ⟨gp, 0, none⟩) 1 cp, .slice (some ⟨gk, 0, none⟩) 2 ck, .slice (some ⟨gr, 0, none⟩) 1 cr] 55)).cell 0).trans (show _ = some (.int .i64 12) from rfl); have x1 := ((HM6.alloc (.cells #[.int .i64 1, .string awN.con, .int .i64 0, .string awN.role, .slice (some ⟨gp, 0, none⟩) 1 cp, .slice (some ⟨gk, 0, none⟩) 2 ck, .slice (some ⟨gr, 0, none⟩) 1 cr] 55)).cell 1).trans (show _ = some (.slice A 4 c) from rfl); have y1 := cell_alloc k1 l1 (.cells #[.int .i64 1, .string awN.con, .int .i64 0, .string awN.role, .slice (some ⟨gp, 0, none⟩) 1 cp, .slice (some ⟨gk, 0, none⟩) 2 ck, .slice (some ⟨gr, 0, none⟩) 1 cr] 55); have y2 := cell_alloc k2 l2 (.cells #[.int .i64 1, .string awN.con, .int .i64 0, .string awN.role, .slice (some ⟨gp, 0, none⟩) 1 cp, .slice (some ⟨gk, 0, none⟩) 2 ck, .slice (some ⟨gr, 0, none⟩) 1 cr] 55); have y3 := cell_alloc k3 l3 (.cells #[.int .i64 1, .string awN.con, .int .i64 0, .string awN.role, .slice (some ⟨gp, 0, none⟩) 1 cp, .slice (some ⟨gk, 0, none⟩) 2 ck, .slice (some ⟨gr, 0, none⟩) 1 cr] 55); have HB7 := Lib.hid (HB6.out.trans (hb6.mono HB6.out.size)); clear hb6 HM6 k1 k2 k3)
  go_ret
  exact ⟨rfl, below_more HB7.out _⟩
end Go.Proofs.YtjjlofaejpnnnaaGreatDoor

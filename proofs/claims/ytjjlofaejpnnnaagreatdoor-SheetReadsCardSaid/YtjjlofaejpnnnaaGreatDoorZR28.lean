/-
  WALKS over package sheet: Parse.
  WALKS: plain of the document.
  WALKS: below of the document.
  WALKS: Right of the document.
  WALKS: two lists are the same.
-/
import Derived.Test.YtjjlofaejpnnnaaGreatDoorZR27
namespace Go.Proofs.YtjjlofaejpnnnaaGreatDoor
open Go Go.RowKit
set_option linter.unusedVariables false
theorem parse_res (fn : Func) (hres : fn.results = #[.cell 2 25, .tmp 3, .tmp 4]) {W : World} {g : Nat} {a b v3 v4 : Value} (hg : Blk W g 25 #[a, b]) (tmps : Array Value) (h2 : tmps[2]?.getD undef = .pointer (some ⟨g, 0, none⟩)) (h3 : tmps[3]?.getD undef = v3) (h4 : tmps[4]?.getD undef = v4) :
    (results fn tmps).run Tryz.prog W = .ok (.tuple #[.agg #[a, b], v3, v4]) W := by
  have h := run_loadVar_row (P := Tryz.prog) W g 25 25 #[a, b] (0, 0) _ hg Tryz.underlying25 rfl infoModel2
  simp [results, hres, h2, h3, h4, asAddr, h]
/-- what Parse answers -/
def ParseP (w : World) (r : (Int × List Nd) × Int × Int) (e : Ending) (w' : World) : Prop :=
  ∃ A n c, e = .returned (.tuple #[.agg #[.int .i64 r.1.1, .slice A n c], .int .i64 r.2.1, .int .i64 r.2.2]) ∧ NodesIn w' 0 w'.heap.size A n c r.1.2 ∧ Below w.heap.size w w'
theorem parseP_no {w w' : World} {r : (Int × List Nd) × Int × Int} {a x : Int} (hr : r = ((0, []), a, x)) (hb : Below w.heap.size w w') : ParseP w r (.returned (.tuple #[.agg #[.int .i64 0, .slice none 0 0], .int .i64 a, .int .i64 x])) w' := by
  subst hr
  exact ⟨none, 0, 0, rfl, NodesIn.nil _ _ _, hb⟩
/-- the lines from here on, by cutting -/
theorem linesV_cut (f : Nat) (st : RS) (k : Nat) (l : List UInt8) : linesV (f + 1) st k l = if hasS l 10 = true then (match lineV st (cutA 10 l) with
    | some st' => if cutB 10 l = [] then .inl st' else linesV f st' (k + 1) (cutB 10 l)
    | none => .inr (k + 1)) else .inr (k + 1) := by
  have e : linesV (f + 1) st k l = match takesV st (cutA 10 l), l.drop (cutA 10 l).length with
    | some st', _ :: rest => if rest = [] then .inl st' else linesV f st' (k + 1) rest
    | _, _ => .inr (k + 1) := rfl
  rw [e, takesV_line]
  by_cases h : hasS l 10 = true
  · rw [if_pos h]
    have hlt := cutA_lt (c := 10) (l := l) h
    have hd : ∃ x, l.drop (cutA 10 l).length = x :: cutB 10 l := by
      unfold cutB
      cases hx : l.drop (cutA 10 l).length with
      | nil => have := congrArg List.length hx; rw [List.length_drop] at this; simp at this; omega
      | cons x r => exact ⟨x, by simp⟩
    obtain ⟨x, hx⟩ := hd
    rw [hx]
    cases lineV st (cutA 10 l) with
    | none => rfl
    | some st' => rfl
  · rw [if_neg h]
    have h2 : l.drop (cutA 10 l).length = [] := by rw [(cut_no (c := 10) (l := l) h).1]; simp
    rw [h2]
    cases lineV st (cutA 10 l) <;> rfl
theorem cutB_lt {l : List UInt8} (h : hasS l 10 = true) : (cutB 10 l).length < l.length := by
  have := cutA_lt (c := 10) (l := l) h
  unfold cutB
  rw [List.length_drop, List.length_drop]
  omega
/-- the lines that are left -/
structure LeftL (F : Nat) (L : List UInt8) (st : RS) (k : Nat) (t : ByteArray) : Prop where
  fuel : ∃ f, t.size < f ∧ linesV F ⟨0, [], []⟩ 0 L = linesV f st k t.data.toList
/-- the reader, its result's box -/
structure PS (w : World) (k : Nat) (st : RS) (wr : World) : Prop where
  rd : ∃ v vw l, RIn (w.heap.size + 3) (w.heap.size + 2) (w.heap.size + 1) k v vw l st wr
  bel : Below (w.heap.size + 1) (w.alloc (.cells #[.int .i64 0, .slice none 0 0] 25)) wr
  bx : Blk wr w.heap.size 25 #[.int .i64 0, .slice none 0 0]
theorem PS.low {w wr : World} {k : Nat} {st : RS} (h : PS w k st wr) : Below w.heap.size w wr :=
  ((Below.refl _ _).alloc (Nat.le_refl _) _).trans (h.bel.mono (by omega))
theorem PS.next {w wr w' : World} {k k' : Nat} {st st' : RS} (h : PS w k st wr) (hb : Below (w.heap.size + 1) wr w') (hr : ∃ v vw l, RIn (w.heap.size + 3) (w.heap.size + 2) (w.heap.size + 1) k' v vw l st' w') : PS w k' st' w' :=
  ⟨hr, h.bel.trans hb, h.bx.below hb (Nat.lt_succ_self _)⟩
theorem rin_start (w : World) : PS w 0 ⟨0, [], []⟩ (((w.alloc (.cells #[.int .i64 0, .slice none 0 0] 25)).alloc (.map #[] 0)).alloc (.cells #[.int .i64 0, .slice none 0 0, .map (some (w.heap.size + 1)), .int .i64 0, .slice none 0 0] 45)) := by
  have e1 : (w.alloc (.cells #[.int .i64 0, .slice none 0 0] 25)).heap.size = w.heap.size + 1 := by simp
  have e2 : ((w.alloc (.cells #[.int .i64 0, .slice none 0 0] 25)).alloc (.map #[] 0)).heap.size = w.heap.size + 2 := by simp
  have hset : SeenIs ((w.alloc (.cells #[.int .i64 0, .slice none 0 0] 25)).alloc (.map #[] 0)) (w.heap.size + 1) 0 [] := by
    have := SeenIs.made (w.alloc (.cells #[.int .i64 0, .slice none 0 0] 25))
    rw [e1] at this
    exact this
  refine ⟨⟨.slice none 0 0, .slice none 0 0, [], ⟨?_, NP.nil _ (by simp), hset.after ((Below.refl _ _).alloc (Nat.le_refl _) _), rfl, fun h => absurd rfl h, fun _ => ⟨rfl, rfl⟩, by simp, by omega, by omega, by omega⟩⟩, ?_, ?_⟩
  · have := Blk.new ((w.alloc (.cells #[.int .i64 0, .slice none 0 0] 25)).alloc (.map #[] 0)) 45 #[.int .i64 0, .slice none 0 0, .map (some (w.heap.size + 1)), .int .i64 0, .slice none 0 0]
    rw [e2] at this
    exact this
  · exact ((Below.refl _ _).alloc (by rw [e1]; exact Nat.le_refl _) _).alloc (by rw [e2]; omega) _
  · exact ((Blk.new w _ _).alloc _).alloc _
set_option maxRecDepth 20000 in
set_option maxHeartbeats 6400000 in
theorem sheetParse_any (w : World) (s : ByteArray) (hE : Env w) : Calls Tryz.prog 8 #[.string s] w (ParseP w (parseV s.data.toList)) := by
  have hres : Tryz.f8.results = #[.cell 2 25, .tmp 3, .tmp 4] := by kernel_rfl
  have HR0 : Hid (Blk (w.alloc (.cells #[.int .i64 0, .slice none 0 0] 25)) w.heap.size 25 #[.int .i64 0, .slice none 0 0]) := Lib.hid (Blk.new _ _ _)
  by_cases hl : 1048576 < s.size
  · have HX : Hid (parseV s.data.toList = ((0, []), 0, 3)) := Lib.hid (by unfold parseV; rw [if_pos (by rw [toList_eq]; exact hl)])
    have hl1 : (1048576 : Int) < (s.size : Int) := by omega
    clear hl hE
    go_enter Tryz.func8, Tryz.ntmps8
    go_wp2_with ((with_reducible show wpList _ _ _ (Oper.mk _ (Op.store 25 _ _) _ _ _ _ :: _) _ _); refine wpList_store_row rfl _ _ _ rfl w.heap.size _ rfl rfl 25 #[.int .i64 0, .slice none 0 0] HR0.out infoModel2 rfl (one_model _ _ _ _) ?_)
    (try simp only [Exit.inBlock, Exit.then])
    refine bodyPost_ret (parse_res _ hres (v3 := .int .i64 0) (v4 := .int .i64 3) (setRow_heap _ _ _ _ _ _ HR0.out) _ (by go_simp) (by go_simp) (by go_simp)) rfl ?_
    exact parseP_no HX.out (below_setRowS ((Below.refl _ _).alloc (Nat.le_refl _) _) (Nat.le_refl _))
  · have HX : Hid (parseV s.data.toList = (match linesV (s.data.toList.length + 1) ⟨0, [], []⟩ 0 s.data.toList with
      | .inl st => ((st.next, sortV st.nds), 0, 0)
      | .inr k => ((0, []), (k : Int), 30))) := Lib.hid (by unfold parseV; rw [if_neg (by rw [toList_eq]; exact hl)]; rfl)
    have hl1 : ¬ (1048576 : Int) < (s.size : Int) := by omega
    have HP0 := Lib.hid (rin_start w)
    have HL0 : Hid (LeftL (s.data.toList.length + 1) s.data.toList ⟨0, [], []⟩ 0 s) := Lib.hid ⟨_, by rw [toList_eq]; exact Nat.lt_succ_self _, rfl⟩
    have hss : s.size ≤ 1048576 := by omega
    have HE := Lib.hid hE
    clear hl hE
    have hmm := @run_makeMap Tryz.prog
    go_enter Tryz.func8, Tryz.ntmps8
    go_upto_region 4 with (fail)
    generalize ((w.alloc (.cells #[.int .i64 0, .slice none 0 0] 25)).alloc (.map #[] 0)).alloc (.cells #[.int .i64 0, .slice none 0 0, .map (some (w.heap.size + 1)), .int .i64 0, .slice none 0 0] 45) = W0 at HP0 ⊢
    clear hmm
    go_wp2_with fail
    go_loopw [0, 6, 7, 8, 9] (fun a0 a6 a7 a8 a9 wr => ∃ (tx : ByteArray) (k : Nat) (st : RS), a0 = .string tx ∧ a6 = .int .i64 ((k : Int) + 1) ∧ k + tx.size ≤ s.size ∧ Hid (PS w k st wr) ∧ Hid (LeftL (s.data.toList.length + 1) s.data.toList st k tx)) (fun a0 _ _ _ _ _ => match a0 with | .string r => r.size | _ => 0)
    case atStart => exact ⟨s, 0, _, rfl, rfl, by omega, HP0, HL0⟩
    case round =>
      rename World => wr
      obtain ⟨tx, k, st, rfl, rfl, hkt, HPS, HLF⟩ := hrel
      have HCU := Lib.hid (cut_any tx 10 wr (by omega))
      go_upto_region 7 with (go_at_call 18; refine HCU.out.mono ?_; rintro e w1 ⟨a, b, rfl, ha, hb, hza, hzb, hb1⟩; have HB1 := Lib.hid hb1; clear hb1)
      obtain ⟨f0, hf0, hL0⟩ := HLF.out.fuel
      obtain ⟨f, rfl⟩ : ∃ f, f0 = f + 1 := ⟨f0 - 1, by omega⟩
      have HLV : Hid (linesV (s.data.toList.length + 1) ⟨0, [], []⟩ 0 s.data.toList = if hasS tx.data.toList 10 = true then (match lineV st a.data.toList with
        | some st' => if b.data.toList = [] then .inl st' else linesV f st' (k + 1) b.data.toList
        | none => .inr (k + 1)) else .inr (k + 1)) := Lib.hid (by rw [hL0, linesV_cut, ha, hb])
      have HFU : Hid (tx.size < f + 1) := Lib.hid hf0
      have HBL : Hid (hasS tx.data.toList 10 = true → b.size < tx.size) := Lib.hid fun h => by
        have := cutB_lt h
        rw [sz_of hb, ← toList_eq]
        exact this
      have HNO : Hid (linesV (s.data.toList.length + 1) ⟨0, [], []⟩ 0 s.data.toList = .inr (k + 1) → parseV s.data.toList = ((0, []), (k : Int) + 1, 30)) := Lib.hid fun h => by
        rw [HX.out, h]
        simp
      have HP1 : Hid (PS w k st w1) := Lib.hid (HPS.out.next ((HB1.out).mono (by have := HPS.out.bx.lt; omega)) (by obtain ⟨v, vw, l, h⟩ := HPS.out.rd; exact ⟨v, vw, l, h.after HB1.out⟩))
      clear hL0 hf0 ha hb HPS HLF HB1
      generalize hasS tx.data.toList 10 = ended at HLV HBL ⊢
      cases ended with
      | false =>
        have HF := Lib.hid (HNO.out (by rw [HLV.out]; rfl))
        have bx := HP1.out.bx
        go_wp2_with ((with_reducible show wpList _ _ _ (Oper.mk _ (Op.store 25 _ _) _ _ _ _ :: _) _ _); refine wpList_store_row rfl _ _ _ rfl w.heap.size _ rfl rfl 25 #[.int .i64 0, .slice none 0 0] bx infoModel2 rfl (one_model _ _ _ _) ?_)
        (try simp only [Exit.noGoto_ret, Exit.inBlock, Exit.then])
        refine bodyPost_ret (parse_res _ hres (v3 := .int .i64 ((k : Int) + 1)) (v4 := .int .i64 30) (setRow_heap _ _ _ _ _ _ bx) _ (by go_simp) (by go_simp) (by go_simp)) rfl ?_
        exact parseP_no HF.out (below_setRowS HP1.out.low (Nat.le_refl _))
      | true =>
        have HLI : Hid (Calls Tryz.prog 19 #[.pointer (some ⟨w.heap.size + 2, 0, none⟩), .string a] w1 (LineQ (w.heap.size + 1) (w.heap.size + 3) (w.heap.size + 2) (w.heap.size + 1) k (lineV st a.data.toList) w1)) := Lib.hid (by
          obtain ⟨v, vw, l, h⟩ := HP1.out.rd
          exact rdLine_any w1 (w.heap.size + 1) (w.heap.size + 3) (w.heap.size + 2) (w.heap.size + 1) k v vw l st h (by omega) (Nat.le_refl _) a (by omega) (by omega) (HE.out.below HP1.out.low))
        cases hlv : lineV st a.data.toList with
        | none =>
          rw [hlv] at HLI HLV
          have HF := Lib.hid (HNO.out (by rw [HLV.out]; rfl))
          clear hlv
          go_wp2_with (first | (go_at_call 19; refine HLI.out.mono ?_; rintro e w2 ⟨rfl, hb2, _⟩; have HBL2 := Lib.hid (HP1.out.bel.trans hb2); have bx := HP1.out.bx.below hb2 (Nat.lt_succ_self _); clear hb2; (try simp only [Option.isSome_none])) | ((with_reducible show wpList _ _ _ (Oper.mk _ (Op.store 25 _ _) _ _ _ _ :: _) _ _); refine wpList_store_row rfl _ _ _ rfl w.heap.size _ rfl rfl 25 #[.int .i64 0, .slice none 0 0] bx infoModel2 rfl (one_model _ _ _ _) ?_))
          (try simp only [Exit.noGoto_ret, Exit.inBlock, Exit.then])
          refine bodyPost_ret (parse_res _ hres (v3 := .int .i64 ((k : Int) + 1)) (v4 := .int .i64 30) (setRow_heap _ _ _ _ _ _ bx) _ (by go_simp) (by go_simp) (by go_simp)) rfl ?_
          exact parseP_no HF.out (below_setRowS (((Below.refl _ _).alloc (Nat.le_refl _) _).trans (HBL2.out.mono (by omega))) (Nat.le_refl _))
        | some st' =>
          rw [hlv] at HLI HLV
          have HLV2 : Hid (linesV (s.data.toList.length + 1) ⟨0, [], []⟩ 0 s.data.toList = if b.data.toList = [] then .inl st' else linesV f st' (k + 1) b.data.toList) := Lib.hid (by rw [HLV.out]; rfl)
          have HN0 : Hid (st'.next ≠ 0) := Lib.hid (by
            obtain ⟨v, vw, l, h⟩ := HP1.out.rd
            have := (line_ok h.ok hlv).n1
            omega)
          clear hlv HLV HNO
          have hbl := HBL.out rfl
          go_upto_region 9 with (go_at_call 19; refine HLI.out.mono ?_; rintro e w2 ⟨rfl, hb2, hr2⟩; have HP2 : Hid (PS w (k + 1) st' w2) := Lib.hid (HP1.out.next hb2 (hr2 _ rfl)); clear hb2 hr2; (try simp only [Option.isSome_some]))
          cases hbe : b.toList.isEmpty with
          | true =>
            have HBE : Hid (b.data.toList = []) := Lib.hid (by rw [← Lib.toList_data]; simpa using hbe)
            have HF : Hid (parseV s.data.toList = ((st'.next, sortV st'.nds), 0, 0)) := Lib.hid (by rw [HX.out, HLV2.out, if_pos HBE.out])
            have HMO : Hid (Calls Tryz.prog 20 #[.pointer (some ⟨w.heap.size + 2, 0, none⟩)] w2 (ModelP (w.heap.size + 1) st' w2)) := Lib.hid (by
              obtain ⟨v, vw, l, h⟩ := HP2.out.rd
              exact model_any w2 (w.heap.size + 1) (w.heap.size + 3) (w.heap.size + 2) (w.heap.size + 1) (k + 1) v vw l st' h HN0.out (by omega))
            go_wp2_with (first | (go_at_call 20; refine HMO.out.mono ?_; rintro e w3 ⟨A, n, c, rfl, hni, hb3⟩; have HNI := Lib.hid hni; have HB3 := Lib.hid hb3; have bx := HP2.out.bx.below hb3 (Nat.lt_succ_self _); clear hni hb3) | ((with_reducible show wpList _ _ _ (Oper.mk _ (Op.store 25 _ _) _ _ _ _ :: _) _ _); refine wpList_store_row rfl _ _ _ rfl w.heap.size _ rfl rfl 25 #[.int .i64 0, .slice none 0 0] bx infoModel2 rfl (one_model _ _ _ _) ?_))
            (try simp only [Exit.noGoto_ret, Exit.inBlock, Exit.then])
            refine bodyPost_ret (parse_res _ hres (v3 := .int .i64 0) (v4 := .int .i64 0) (setRow_heap _ _ _ _ _ _ bx) _ (by go_simp) (by go_simp) (by go_simp)) rfl ?_
            rw [HF.out]
            refine ⟨A, n, c, rfl, ?_, below_setRowS (HP2.out.low.trans (HB3.out.mono (by omega))) (Nat.le_refl _)⟩
            exact (HNI.out.rowLo (Nat.lt_succ_self _)).mono (Nat.zero_le _) (by simp [World.setRow])
          | false =>
            have HBE : Hid (b.data.toList ≠ []) := Lib.hid (by rw [← Lib.toList_data]; simpa using hbe)
            have HLF2 : Hid (LeftL (s.data.toList.length + 1) s.data.toList st' (k + 1) b) := Lib.hid ⟨f, by have := HFU.out; omega, by rw [HLV2.out, if_neg HBE.out]⟩
            go_wp2_with fail
            go_roundw
            case rel => exact ⟨b, k + 1, st', rfl, by go_num, by omega, HP2, HLF2⟩
            case measure => simp only; omega
end Go.Proofs.YtjjlofaejpnnnaaGreatDoor
namespace Go.Proofs.YtjjlofaejpnnnaaGreatDoor
open Go Go.RowKit Go.Sort
set_option linter.unusedVariables false
theorem PW.far {w wr : World} {next : Int} {A : Option Addr} {n c : Nat} {nd : Nd} {L : Leaf} (h : PW w next A n c nd L wr) {g : Nat} (hg : w.heap.size + 1 < g) (i : Nat) (u : Value) : PW w next A n c nd L (wr.setCell ⟨g, i, none⟩ u) :=
  ⟨h.md.far (p := ⟨g, i, none⟩) (by show _ ≠ g; omega) u, h.nb.far (p := ⟨g, i, none⟩) (by show _ ≠ g; omega) u, Below.setCell' h.bel (by omega) u⟩
end Go.Proofs.YtjjlofaejpnnnaaGreatDoor
namespace Go.Proofs.YtjjlofaejpnnnaaGreatDoor
open Go Go.RowKit Go.Sort
set_option linter.unusedVariables false
theorem PW.store {w wr : World} {next : Int} {A : Option Addr} {n c : Nat} {nd : Nd} {L : Leaf} (h : PW w next A n c nd L wr) (kd : Nd) (M : Leaf) (nq : Nat) :
    PW w next A n c kd M ((((((((wr.drewN nq).setCell ⟨w.heap.size + 1, 0, none⟩ (.int .i64 kd.id)).setCell ⟨w.heap.size + 1, 1, none⟩ (.string kd.con)).setCell ⟨w.heap.size + 1, 2, none⟩ (.int .i64 kd.par)).setCell ⟨w.heap.size + 1, 3, none⟩ (.string kd.role)).setCell ⟨w.heap.size + 1, 4, none⟩ (.slice M.p.A M.p.n M.p.c)).setCell ⟨w.heap.size + 1, 5, none⟩ (.slice M.k.A M.k.n M.k.c)).setCell ⟨w.heap.size + 1, 6, none⟩ (.slice M.r.A M.r.n M.r.c)) := by
  have hne : w.heap.size ≠ w.heap.size + 1 := by omega
  have h0 := h.drewN nq
  refine ⟨((((((h0.md.far (p := ⟨_, _, none⟩) hne _).far (p := ⟨_, _, none⟩) hne _).far (p := ⟨_, _, none⟩) hne _).far (p := ⟨_, _, none⟩) hne _).far (p := ⟨_, _, none⟩) hne _).far (p := ⟨_, _, none⟩) hne _).far (p := ⟨_, _, none⟩) hne _, ?_, ?_⟩
  · have := ((((((h0.nb.set_ 0 (.int .i64 kd.id)).set_ 1 (.string kd.con)).set_ 2 (.int .i64 kd.par)).set_ 3 (.string kd.role)).set_ 4 (.slice M.p.A M.p.n M.p.c)).set_ 5 (.slice M.k.A M.k.n M.k.c)).set_ 6 (.slice M.r.A M.r.n M.r.c)
    simpa using this
  · have hb := h0.bel
    exact Below.setCell' (Below.setCell' (Below.setCell' (Below.setCell' (Below.setCell' (Below.setCell' (Below.setCell' hb (by omega) _) (by omega) _) (by omega) _) (by omega) _) (by omega) _) (by omega) _) (by omega) _
end Go.Proofs.YtjjlofaejpnnnaaGreatDoor
namespace Go.Proofs.YtjjlofaejpnnnaaGreatDoor
open Go Go.RowKit Go.Sort
set_option linter.unusedVariables false
/-- the box of a model, and nothing old has turned -/
structure MW (w : World) (next : Int) (A : Option Addr) (n c : Nat) (wr : World) : Prop where
  md : Blk wr w.heap.size 25 #[.int .i64 next, .slice A n c]
  bel : Below w.heap.size w wr
section
variable {w wr w' : World} {next : Int} {A : Option Addr} {n c : Nat}
theorem MW.start (w : World) (next : Int) (A : Option Addr) (n c : Nat) : MW w next A n c (w.alloc (.cells #[.int .i64 next, .slice A n c] 25)) := ⟨Blk.new _ _ _, below_box _ _⟩
theorem MW.after (h : MW w next A n c wr) (hb : Below wr.heap.size wr w') : MW w next A n c w' := ⟨h.md.after hb, h.bel.trans (hb.mono h.bel.size)⟩
theorem MW.drewN (h : MW w next A n c wr) (q : Nat) : MW w next A n c (wr.drewN q) := ⟨h.md, below_drewN h.bel q⟩
theorem MW.size (h : MW w next A n c wr) : w.heap.size < wr.heap.size := h.md.lt
theorem MW.c0 (h : MW w next A n c wr) : wr.cell? ⟨w.heap.size, 0, none⟩ = some (.int .i64 next) := h.md.cell 0
theorem MW.c1 (h : MW w next A n c wr) : wr.cell? ⟨w.heap.size, 1, none⟩ = some (.slice A n c) := h.md.cell 1
end
end Go.Proofs.YtjjlofaejpnnnaaGreatDoor
namespace Go.Proofs.YtjjlofaejpnnnaaGreatDoor
open Go Go.RowKit Go.Sort
set_option linter.unusedVariables false
/-- two lists, place by place -/
def eqL {α : Type} (e : α → α → Bool) : List α → List α → Bool
  | [], [] => true
  | x :: l, y :: m => e x y && eqL e l m
  | _, _ => false
theorem eqL_len {α : Type} (e : α → α → Bool) : ∀ {l m : List α}, l.length ≠ m.length → eqL e l m = false
  | [], [], h => absurd rfl h
  | [], _ :: _, _ => rfl
  | _ :: _, [], _ => rfl
  | x :: l, y :: m, h => by
    rw [eqL, eqL_len e (l := l) (m := m) (by simpa using h), Bool.and_false]
theorem eqL_refl {α : Type} {e : α → α → Bool} (h : ∀ x, e x x = true) : ∀ l : List α, eqL e l l = true
  | [] => rfl
  | x :: l => by rw [eqL, h, eqL_refl h l]; rfl
def intE (x y : Int) : Bool := x == y
def propE (x y : ByteArray × ByteArray) : Bool := (x.1.toList == y.1.toList) && (x.2.toList == y.2.toList)
def refE (x y : ByteArray × Int) : Bool := (x.1.toList == y.1.toList) && (x.2 == y.2)
theorem drew_below {B : Nat} {w wr : World} (h : ∃ q, wr = w.drewN q) : Below B w wr := by
  obtain ⟨q, rfl⟩ := h; exact below_drewN (Below.refl _ _) q
theorem drew_more {w wr : World} (h : ∃ q, wr = w.drewN q) (n : Nat) : ∃ q, wr.drewN n = w.drewN q := by
  obtain ⟨q, rfl⟩ := h; exact ⟨q + n, World.drewN_drewN _ _ _⟩
theorem intE_refl (x : Int) : intE x x = true := by simp [intE]
theorem propE_refl (x : ByteArray × ByteArray) : propE x x = true := by simp [propE]
theorem refE_refl (x : ByteArray × Int) : refE x x = true := by simp [refE]
set_option maxHeartbeats 1600000 in
theorem refInts_any (w : World) (lo hi lo' hi' : Nat) (A A' : Option Addr) (n c n' c' : Nat) (l m : List Int) (h1 : Row w lo hi 1 A n c (intCells l)) (h2 : Row w lo' hi' 1 A' n' c' (intCells m)) :
    Calls Tryz.prog 56 #[.slice A n c, .slice A' n' c'] w (DrewV w (.bool (eqL intE l m))) := by
  have hl1 : l.length = n := by have := h1.1; rw [intCells_length] at this; omega
  have hl2 : m.length = n' := by have := h2.1; rw [intCells_length] at this; omega
  have HL1 := Lib.hid hl1
  have HL2 := Lib.hid hl2
  have hc := h1.2.2.1
  have hnc := h1.2.1
  have hc' := h2.2.2.1
  have hnc' := h2.2.1
  unfold maxLen at hc hc'
  clear hl1 hl2
  by_cases hne : n = n'
  · have d0 : ((n : Int) != (n' : Int)) = false := by rw [bne_eq_false_iff_eq]; omega
    subst hne
    go_enter Tryz.func56, Tryz.ntmps56
    go_wp2_with fail
    go_loopw [5] (fun i wr => ∃ k : Nat, k ≤ n ∧ i = .int .i64 k ∧ Hid (∃ q, wr = w.drewN q) ∧ Hid (eqL intE l m = eqL intE (l.drop k) (m.drop k))) (fun i _ => n - (intOf i).toNat)
    case atStart => exact ⟨0, by omega, rfl, Lib.hid ⟨0, rfl⟩, Lib.hid rfl⟩
    case round =>
      obtain ⟨k, hk, rfl, HQ, HK⟩ := hrel
      by_cases hlt : k < n
      · obtain ⟨b1, o1, rfl, _, _, hcells1⟩ := (h1.below (drew_below HQ.out)).at_ (by omega)
        obtain ⟨b2, o2, rfl, _, _, hcells2⟩ := (h2.below (drew_below HQ.out)).at_ (by omega)
        obtain ⟨x, hx⟩ : ∃ x, l[k]? = some x := ⟨l[k]'(by have := HL1.out; omega), List.getElem?_eq_getElem _⟩
        obtain ⟨y, hy⟩ : ∃ y, m[k]? = some y := ⟨m[k]'(by have := HL2.out; omega), List.getElem?_eq_getElem _⟩
        have q1 := hcells1 k _ (intCells_get hx)
        have q2 := hcells2 k _ (intCells_get hy)
        have HD : Hid (eqL intE l m = (intE x y && eqL intE (l.drop (k + 1)) (m.drop (k + 1)))) := Lib.hid (by
          obtain ⟨hl1, e1⟩ := List.getElem?_eq_some_iff.1 hx
          obtain ⟨hl2, e2⟩ := List.getElem?_eq_some_iff.1 hy
          rw [HK.out, List.drop_eq_getElem_cons hl1, List.drop_eq_getElem_cons hl2, e1, e2]; rfl)
        clear HK hx hy hcells1 hcells2
        by_cases e1 : x = y
        · have d1 : (x != y) = false := by rw [bne_eq_false_iff_eq]; exact e1
          have HZ : Hid (eqL intE l m = eqL intE (l.drop (k + 1)) (m.drop (k + 1))) := Lib.hid (by rw [HD.out]; simp [intE, e1])
          clear HD e1
          go_wp2_with fail
          go_quiet (fail)
          go_wp2_with fail
          go_roundw
          case rel => exact ⟨k + 1, by omega, by go_num, Lib.hid (drew_more HQ.out nq), HZ⟩
          case measure => simp [intOf]; omega
        · have d1 : (x != y) = true := by rw [bne_iff_ne]; exact e1
          have HZ : Hid (eqL intE l m = false) := Lib.hid (by rw [HD.out]; simp [intE, e1])
          clear HD e1
          go_wp2_with fail
          go_quiet (fail)
          go_wp2_with fail
          go_ret
          exact ⟨ret_bool HZ.out.symm, drew_more HQ.out nq⟩
      · have HZ : Hid (eqL intE l m = true) := Lib.hid (by rw [HK.out, List.drop_eq_nil_of_le (by have := HL1.out; omega), List.drop_eq_nil_of_le (by have := HL2.out; omega)]; rfl)
        clear HK
        go_wp2_with fail
        go_ret
        exact ⟨ret_bool HZ.out.symm, HQ.out⟩
  · have d0 : ((n : Int) != (n' : Int)) = true := by rw [bne_iff_ne]; omega
    have HZ : Hid (eqL intE l m = false) := Lib.hid (eqL_len _ (by have := HL1.out; have := HL2.out; omega))
    clear hne
    go_enter Tryz.func56, Tryz.ntmps56
    go_wp2_with fail
    go_ret
    exact ⟨ret_bool HZ.out.symm, 0, rfl⟩
end Go.Proofs.YtjjlofaejpnnnaaGreatDoor

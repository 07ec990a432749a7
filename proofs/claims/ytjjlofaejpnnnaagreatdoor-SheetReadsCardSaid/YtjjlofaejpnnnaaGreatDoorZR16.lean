/-
  WALKS over the document's sheet: has.
-/
import Derived.Test.YtjjlofaejpnnnaaGreatDoorZR15
namespace Go.Proofs.YtjjlofaejpnnnaaGreatDoor
open Go Go.RowKit Go.Sort
set_option linter.unusedVariables false
set_option maxRecDepth 20000 in
set_option maxHeartbeats 24000000 in
theorem hasD_nil (w : World) (B0 B gu c k n cc g : Nat) (vd : Value) (l : List (Nd × Leaf)) (st : RS) (h : UIn B gu c k (.slice (some ⟨g, 0, none⟩) n cc) vd l st w) (h0 : st.next ≠ 0) (hB0 : B0 ≤ gu) (hn : st.nds.length = n) (hn0 : 0 < n)
    (nd : Nd) (Pa Ka Ra : Option Addr) (Pn Pc Kn Kc Rn Rc : Nat) (hl : st.nds.getLast? = some nd) (hi : l[n - 1]? = some (nd, ⟨⟨Pa, Pn, Pc⟩, ⟨Ka, Kn, Kc⟩, ⟨Ra, Rn, Rc⟩⟩)) (a b s : ByteArray) (i : Nat) (hsb : s.size = i + b.size) (hun : unq s (i : Int) = ((unq b 0).1, (i : Int) + (unq b 0).2.1, (unq b 0).2.2)) (hs : s.size ≤ 1048576) (ha : a.size ≤ 1048576) (hk : k + 1 ≤ 4194304) (hpp : Pn = 0) :
    Calls Tryz.prog 54 #[.pointer (some ⟨gu, 0, none⟩), .string a, .string s, .int .i64 i] w (LineU B0 B gu c (k + 1) (hasV st nd a.data.toList b.data.toList) w) := by
  have hok := h.ok h0
  have hn4 : n ≤ 4096 := by have := hok.ln; omega
  have hgw : g < w.heap.size := (World.ownsRow.lt h.np.own g rfl).2
  have HLX : Hid (l.length = n) := Lib.hid (by rw [h.len]; exact hn)
  have hlf := h.np.leaf _ (List.mem_of_getElem? hi)
  have HPN : Hid (Pn = nd.props.length ∧ Rn = nd.refs.length ∧ Pn ≤ k) := Lib.hid ⟨hlf.pn, hlf.rn, by have := hlf.pn; have h2 := (h.ln nd (List.mem_of_getElem? (last_get hl).2)).1; simp only at this; omega⟩
  have hpk : Pn ≤ 4194304 := by have := HPN.out.2.2; omega
  have HI := Lib.hid hi
  have hBw : B0 ≤ w.heap.size := Nat.le_trans hB0 (Nat.le_of_lt h.box.lt)
  have hwn : IntKind.i64.wrap ((n : Int) - 1) = ((n - 1 : Nat) : Int) := by rw [IntWalk.i64_in _ (by omega)]; omega
  have hin : n - 1 < n := by omega
  have HCs : Hid (∀ Y, Below w.heap.size w Y → Y.cell? ⟨gu, 1, none⟩ = some (.slice (some ⟨g, 0, none⟩) n cc) ∧ Y.cell? ⟨g, (n - 1) * 7, none⟩ = some (.int .i64 nd.id) ∧ Y.cell? ⟨g, (n - 1) * 7 + 1, none⟩ = some (.string nd.con) ∧ Y.cell? ⟨g, (n - 1) * 7 + 2, none⟩ = some (.int .i64 nd.par) ∧ Y.cell? ⟨g, (n - 1) * 7 + 3, none⟩ = some (.string nd.role) ∧ Y.cell? ⟨g, (n - 1) * 7 + 4, none⟩ = some (.slice Pa Pn Pc) ∧ Y.cell? ⟨g, (n - 1) * 7 + 5, none⟩ = some (.slice Ka Kn Kc) ∧ Y.cell? ⟨g, (n - 1) * 7 + 6, none⟩ = some (.slice Ra Rn Rc)) := Lib.hid fun Y hY => by
    have e := (h.np.after hY).cells HLX.out hi
    exact ⟨by rw [(h.box.after hY).cell]; rfl, e.c0, e.c1, e.c2, e.c3, e.c4, e.c5, e.c6⟩
  have HMID : Hid (∀ (gx : Nat) (X : World), Blk X gx 55 #[.int .i64 0, .string ByteArray.empty, .int .i64 0, .string ByteArray.empty, .slice none 0 0, .slice none 0 0, .slice none 0 0] → w.heap.size ≤ gx → Below w.heap.size w X → UMid B0 B gu c gx st.next (.slice (some ⟨g, 0, none⟩) n cc) vd l (deepI st.deep) #[.int .i64 nd.id, .string nd.con, .int .i64 nd.par, .string nd.role, .slice Pa Pn Pc, .slice Ka Kn Kc, .slice Ra Rn Rc] w (X.setRow gx #[.int .i64 nd.id, .string nd.con, .int .i64 nd.par, .string nd.role, .slice Pa Pn Pc, .slice Ka Kn Kc, .slice Ra Rn Rc])) := Lib.hid fun gx X hx hg hb => by
    have hb2 : Below w.heap.size w (X.setRow gx #[.int .i64 nd.id, .string nd.con, .int .i64 nd.par, .string nd.role, .slice Pa Pn Pc, .slice Ka Kn Kc, .slice Ra Rn Rc]) := below_setRowD hb hg
    exact ⟨h.box.after hb2, h.np.after hb2, setRow_heap _ _ _ _ _ _ hx, hb2.mono hBw, hB0, h.lu, Nat.le_trans hBw hg, fun e => by have : g = gx := Option.some.inj e; omega⟩
  obtain ⟨V, tt, er, hu⟩ : ∃ V tt er, unq b 0 = (V, tt, er) := ⟨_, _, _, rfl⟩
  obtain ⟨T, hT⟩ : ∃ T : ByteArray, (⟨V.toArray⟩ : ByteArray) = T := ⟨_, rfl⟩
  obtain ⟨tq, hto⟩ : ∃ tq : Int, (i : Int) + tt = tq := ⟨_, rfl⟩
  have HTS : Hid (V.length = T.size) := Lib.hid (by rw [← hT]; show _ = (V.toArray).size; rw [List.size_toArray])
  have HFN : Hid (¬ PropC st nd a b (V, tt, er) → hasV st nd a.data.toList b.data.toList = none) := Lib.hid fun hc => hasV_none (by rw [hu]; exact hc)
  have HFS : Hid (PropC st nd a b (V, tt, er) → hasV st nd a.data.toList b.data.toList = some (lastV st { nd with props := nd.props ++ [(a, T)] })) := Lib.hid fun hc => by
    rw [hasV_some (by rw [hu]; exact hc), hu, ← hT]; rfl
  have HTT : Hid (tq = (s.size : Int) ↔ tt = (b.size : Int)) := Lib.hid (by omega)
  have HUQ : Hid (∀ Y, Calls Tryz.prog 91 #[.string s, .int .i64 i] Y fun e w' => e = .returned (.tuple #[.string T, .int .i64 tq, .int .i64 er]) ∧ Below Y.heap.size Y w') := Lib.hid fun Y => by
    have := refUnquote_any s i Y (by omega)
    unfold Unq at this
    rw [hun, hu] at this
    simp only [hT, hto] at this
    exact this
  have HFIN : Hid (∀ (Az : Option Addr) (cz : Nat) (W : World), UEnd B0 B gu c st.next (.slice (some ⟨g, 0, none⟩) n cc) vd (l.set (n - 1) ({ nd with props := nd.props ++ [(a, T)] }, ⟨⟨Az, Pn + 1, cz⟩, ⟨Ka, Kn, Kc⟩, ⟨Ra, Rn, Rc⟩⟩)) (deepI st.deep) w W → LineU B0 B gu c (k + 1) (some (lastV st { nd with props := nd.props ++ [(a, T)] })) w (.returned (.bool true)) W) := Lib.hid fun Az cz W hE => by
    have h2 := h.ln nd (List.mem_of_getElem? (last_get hl).2)
    exact lineU_yes rfl hE.bel (h.lastSet h0 hl rfl hn hE.bx hE.np (by simp only [List.length_append, List.length_singleton]; omega) hk)
  have HPR : Hid (∀ (W : World) {ws : List Int}, NP B (.slice (some ⟨g, 0, none⟩) n cc) vd l ws W → W.ownsRow B 60 2 (.slice Pa Pn Pc) Pn (propCells nd.props)) := Lib.hid fun W ws hW => (hW.leaf _ (List.mem_of_getElem? hi)).p
  have hszs := hlf.sz.props
  obtain ⟨i1, hi1, hz1, hs1, hb1⟩ := info_parts propInfo
  clear h hlf hl hn hi hok hu hT hto hun hsb
  subst hpp
  go_enter Tryz.func54, Tryz.ntmps54
  go_upto_region 1 with (fail)
  refine wp_region_held_tail 13 (fun Y => Below w.heap.size w Y ∧ Y.cell? ⟨gu, 1, none⟩ = some (.slice (some ⟨g, 0, none⟩) n cc) ∧ Y.cell? ⟨g, (n - 1) * 7, none⟩ = some (.int .i64 nd.id) ∧ Y.cell? ⟨g, (n - 1) * 7 + 1, none⟩ = some (.string nd.con) ∧ Y.cell? ⟨g, (n - 1) * 7 + 2, none⟩ = some (.int .i64 nd.par) ∧ Y.cell? ⟨g, (n - 1) * 7 + 3, none⟩ = some (.string nd.role) ∧ Y.cell? ⟨g, (n - 1) * 7 + 4, none⟩ = some (.slice Pa 0 Pc) ∧ Y.cell? ⟨g, (n - 1) * 7 + 5, none⟩ = some (.slice Ka Kn Kc) ∧ Y.cell? ⟨g, (n - 1) * 7 + 6, none⟩ = some (.slice Ra Rn Rc)) (by kernel_rfl) (by kernel_rfl) ?hS1 (fun hHeld => ?q1)
  case hS1 => exact ⟨drewS_below w, HCs.out _ (drewS_below w)⟩
  case q1 =>
    simp only [List.take_succ_cons, List.take_zero, List.drop_succ_cons, List.drop_zero]
    refine wpAnyH_take (i := 0) (oi := ⟨some 14, _, _, _, _, _⟩) (v := (.pointer (some ⟨gu, 0, none⟩))) rfl (by kernel_rfl) (by kernel_rfl) (by kernel_rfl) (fun _ _ _ h => h) (Or.inl ⟨by rfl, ?ya_1⟩) (by assumption) ?qa_1
    case ya_1 => (intro w hSw; (try dsimp only at hSw); go_simp)
    case qa_1 =>
      (try simp only [Act.put]); (try simp only [List.setIfInBounds_toArray])
      refine wpAnyH_take (i := 1) (oi := ⟨some 15, _, _, _, _, _⟩) (v := (.pointer (some ⟨gu, 0, none⟩))) rfl (by kernel_rfl) (by kernel_rfl) (by kernel_rfl) (fun _ _ _ h => h) (Or.inl ⟨by rfl, ?ya_2⟩) (by assumption) ?qa_2
      case ya_2 => (intro w hSw; (try dsimp only at hSw); go_simp)
      case qa_2 =>
        (try simp only [Act.put]); (try simp only [List.setIfInBounds_toArray])
        refine wpAnyH_take (i := 2) (oi := ⟨some 16, _, _, _, _, _⟩) (v := (.pointer (some ⟨gu, 1, none⟩))) rfl (by kernel_rfl) (by kernel_rfl) (by kernel_rfl) (fun _ _ _ h => h) (Or.inl ⟨by rfl, ?ya_3⟩) (by assumption) ?qa_3
        case ya_3 => (intro w hSw; (try dsimp only at hSw); go_simp)
        case qa_3 =>
          (try simp only [Act.put]); (try simp only [List.setIfInBounds_toArray])
          refine wpAnyH_take (i := 3) (oi := ⟨some 17, _, _, _, _, _⟩) (v := (.slice (some ⟨g, 0, none⟩) n cc)) rfl (by kernel_rfl) (by kernel_rfl) (by kernel_rfl) (fun _ _ _ h => h) (Or.inl ⟨by rfl, ?ya_4⟩) (by assumption) ?qa_4
          case ya_4 => (intro w hSw; (try dsimp only at hSw); go_simp)
          case qa_4 =>
            (try simp only [Act.put]); (try simp only [List.setIfInBounds_toArray])
            refine wpAnyH_take (i := 4) (oi := ⟨some 18, _, _, _, _, _⟩) (v := (.pointer (some ⟨gu, 0, none⟩))) rfl (by kernel_rfl) (by kernel_rfl) (by kernel_rfl) (fun _ _ _ h => h) (Or.inl ⟨by rfl, ?ya_5⟩) (by assumption) ?qa_5
            case ya_5 => (intro w hSw; (try dsimp only at hSw); go_simp)
            case qa_5 =>
              (try simp only [Act.put]); (try simp only [List.setIfInBounds_toArray])
              refine wpAnyH_take (i := 5) (oi := ⟨some 19, _, _, _, _, _⟩) (v := (.pointer (some ⟨gu, 0, none⟩))) rfl (by kernel_rfl) (by kernel_rfl) (by kernel_rfl) (fun _ _ _ h => h) (Or.inl ⟨by rfl, ?ya_6⟩) (by assumption) ?qa_6
              case ya_6 => (intro w hSw; (try dsimp only at hSw); go_simp)
              case qa_6 =>
                (try simp only [Act.put]); (try simp only [List.setIfInBounds_toArray])
                refine wpAnyH_take (i := 6) (oi := ⟨some 20, _, _, _, _, _⟩) (v := (.pointer (some ⟨gu, 1, none⟩))) rfl (by kernel_rfl) (by kernel_rfl) (by kernel_rfl) (fun _ _ _ h => h) (Or.inl ⟨by rfl, ?ya_7⟩) (by assumption) ?qa_7
                case ya_7 => (intro w hSw; (try dsimp only at hSw); go_simp)
                case qa_7 =>
                  (try simp only [Act.put]); (try simp only [List.setIfInBounds_toArray])
                  refine wpAnyH_take (i := 7) (oi := ⟨some 21, _, _, _, _, _⟩) (v := (.slice (some ⟨g, 0, none⟩) n cc)) rfl (by kernel_rfl) (by kernel_rfl) (by kernel_rfl) (fun _ _ _ h => h) (Or.inl ⟨by rfl, ?ya_8⟩) (by assumption) ?qa_8
                  case ya_8 => (intro w hSw; (try dsimp only at hSw); go_simp)
                  case qa_8 =>
                    (try simp only [Act.put]); (try simp only [List.setIfInBounds_toArray])
                    refine wpAnyH_take (i := 8) (oi := ⟨some 22, _, _, _, _, _⟩) (v := (.int .i64 (n : Int))) rfl (by kernel_rfl) (by kernel_rfl) (by kernel_rfl) (fun _ _ _ h => h) (Or.inl ⟨by rfl, ?ya_9⟩) (by assumption) ?qa_9
                    case ya_9 => (intro w hSw; (try dsimp only at hSw); go_simp)
                    case qa_9 =>
                      (try simp only [Act.put]); (try simp only [List.setIfInBounds_toArray])
                      refine wpAnyH_take (i := 9) (oi := ⟨some 23, _, _, _, _, _⟩) (v := (.int .i64 ((n - 1 : Nat) : Int))) rfl (by kernel_rfl) (by kernel_rfl) (by kernel_rfl) (fun _ _ _ h => h) (Or.inl ⟨by rfl, ?ya_10⟩) (by assumption) ?qa_10
                      case ya_10 => (intro w hSw; (try dsimp only at hSw); go_simp)
                      case qa_10 =>
                        (try simp only [Act.put]); (try simp only [List.setIfInBounds_toArray])
                        refine wpAnyH_take (i := 10) (oi := ⟨some 24, _, _, _, _, _⟩) (v := (.pointer (some ⟨g, (n - 1) * 7, none⟩))) rfl (by kernel_rfl) (by kernel_rfl) (by kernel_rfl) (fun _ _ _ h => h) (Or.inl ⟨by rfl, ?ya_11⟩) (by assumption) ?qa_11
                        case ya_11 => (intro w hSw; (try dsimp only at hSw); go_simp)
                        case qa_11 =>
                          (try simp only [Act.put]); (try simp only [List.setIfInBounds_toArray])
                          refine wpAnyH_take (i := 11) (oi := ⟨some 25, _, _, _, _, _⟩) (v := (.agg #[.int .i64 nd.id, .string nd.con, .int .i64 nd.par, .string nd.role, .slice Pa 0 Pc, .slice Ka Kn Kc, .slice Ra Rn Rc])) rfl (by kernel_rfl) (by kernel_rfl) (by kernel_rfl) (fun _ _ _ h => h) (Or.inl ⟨by rfl, ?ya_12⟩) (by assumption) ?qa_12
                          case ya_12 => (intro w hSw; (try dsimp only at hSw); go_simp)
                          case qa_12 =>
                            (try simp only [Act.put]); (try simp only [List.setIfInBounds_toArray])
                            refine wpAnyH_alloc1D (j := 12) (oj := ⟨some 9, _, _, _, _, _⟩) 55 #[.int .i64 0, .string ByteArray.empty, .int .i64 0, .string ByteArray.empty, .slice none 0 0, .slice none 0 0, .slice none 0 0] (by kernel_rfl) rfl rfl ?hrk (fun W2 hW2 => ⟨(drewS_below w).trans (hW2.mono (drewS_below w).size), HCs.out _ ((drewS_below w).trans (hW2.mono (drewS_below w).size))⟩) ?b1
                            case hrk => (intro a9 w9; go_simp; rfl)
                            case b1 =>
                              intro gx X hbx hgx hbX hS2
                              have HW1 : Hid (UMid B0 B gu c gx st.next (.slice (some ⟨g, 0, none⟩) n cc) vd l (deepI st.deep) #[.int .i64 nd.id, .string nd.con, .int .i64 nd.par, .string nd.role, .slice Pa 0 Pc, .slice Ka Kn Kc, .slice Ra Rn Rc] w (X.setRow gx #[.int .i64 nd.id, .string nd.con, .int .i64 nd.par, .string nd.role, .slice Pa 0 Pc, .slice Ka Kn Kc, .slice Ra Rn Rc])) := Lib.hid (HMID.out gx X hbx hgx ((drewS_below w).trans (hbX.mono (drewS_below w).size)))
                              have HBX := Lib.hid hbx
                              clear hS2 hbX hHeld
                              (try simp only [Act.put]); (try simp only [List.setIfInBounds_toArray])
                              refine wpAnyH_done (by kernel_rfl) ?_ _
                              show wpList _ _ _ _ _ _
                              refine wpList_store_rowTo rfl 55 _ _ rfl rfl gx #[.int .i64 nd.id, .string nd.con, .int .i64 nd.par, .string nd.role, .slice Pa 0 Pc, .slice Ka Kn Kc, .slice Ra Rn Rc] rfl rfl 55 #[.int .i64 0, .string ByteArray.empty, .int .i64 0, .string ByteArray.empty, .slice none 0 0, .slice none 0 0, .slice none 0 0] HBX.out infoNode7 rfl (one7 nd _ _ _ _ _ _ _ _ _) ?_
                              clear hbx hgx HBX
                              generalize X.setRow gx #[.int .i64 nd.id, .string nd.con, .int .i64 nd.par, .string nd.role, .slice Pa 0 Pc, .slice Ka Kn Kc, .slice Ra Rn Rc] = W1 at HW1 ⊢
                              clear X
                              have HUW := Lib.hid (HUQ.out W1)
                              go_upto_region 3 with (go_at_call 91; refine HUW.out.mono ?_; rintro e w4 ⟨rfl, hb4⟩; have HW4 := Lib.hid (HW1.out.after hb4); clear hb4)
                              have x4 : w4.cell? ⟨gx, 4, none⟩ = some (.slice Pa 0 Pc) := by rw [HW4.out.bn.cell]; rfl
                              have x6 : w4.cell? ⟨gx, 6, none⟩ = some (.slice Ra Rn Rc) := by rw [HW4.out.bn.cell]; rfl
                              have HNO : Hid (hasV st nd a.data.toList b.data.toList = none → LineU B0 B gu c (k + 1) (hasV st nd a.data.toList b.data.toList) w (.returned (.bool false)) w4) := Lib.hid fun hr => lineU_no hr HW4.out.bel (by rw [HW4.out.bx.cell]; rfl)
                              clear HUW HUQ
                              cases her : (er == 0) with
                              | false =>
                                have he1 : (er != 0) = true := by rw [bne, her]; rfl
                                have HN := Lib.hid (HNO.out (HFN.out fun hc => by have := hc.e0; simp only at this; rw [this] at her; cases her))
                                clear her HNO
                                go_wp2_with fail
                                go_ret
                                exact HN.out
                              | true =>
                                have he1 : (er != 0) = false := by rw [bne, her]; rfl
                                have HE0 : Hid (er = 0) := Lib.hid (by simpa using her)
                                clear her
                                cases hto : (tq == (s.size : Int)) with
                                | false =>
                                  have ht1 : (tq != (s.size : Int)) = true := by rw [bne, hto]; rfl
                                  have HN := Lib.hid (HNO.out (HFN.out fun hc => by have := HTT.out.2 hc.e1; rw [this] at hto; simp at hto))
                                  clear hto HNO
                                  go_wp2_with fail
                                  go_ret
                                  exact HN.out
                                | true =>
                                  have ht1 : (tq != (s.size : Int)) = false := by rw [bne, hto]; rfl
                                  have HTO : Hid (tt = (b.size : Int)) := Lib.hid (HTT.out.1 (by simpa using hto))
                                  clear hto
                                  by_cases hlen : 4096 < T.size
                                  · have hl1 : (4096 : Int) < (T.size : Int) := by omega
                                    have HN := Lib.hid (HNO.out (HFN.out fun hc => by have := hc.e2; have h2 := HTS.out; simp only at this; omega))
                                    clear hlen HNO
                                    go_wp2_with fail
                                    go_ret
                                    exact HN.out
                                  · have hl1 : ¬ (4096 : Int) < (T.size : Int) := by omega
                                    by_cases hR : 0 < Rn
                                    · have hR0 : (0 : Int) < (Rn : Int) := by omega
                                      have HN := Lib.hid (HNO.out (HFN.out fun hc => by have := HPN.out.2.1; rw [hc.e3] at this; simp at this; omega))
                                      clear hR HNO
                                      go_wp2_with fail
                                      go_ret
                                      exact HN.out
                                    · have hR0 : ¬ (0 : Int) < (Rn : Int) := by omega
                                      have hRz : Rn = 0 := by omega
                                      subst hRz
                                      have HRE : Hid (nd.refs = []) := Lib.hid (List.eq_nil_of_length_eq_zero (by have := HPN.out.2.1; omega))
                                      have HSZ : Hid (a.size ≤ maxLen ∧ T.size ≤ maxLen) := Lib.hid (by unfold maxLen; omega)
                                      clear hR hR0
                                      have HLT : Hid (∀ p ∈ nd.props.getLast?, p.1.data.toList < a.data.toList) := Lib.hid fun p hp => by
                                        have : nd.props = [] := List.eq_nil_of_length_eq_zero (by have := HPN.out.1; omega)
                                        rw [this] at hp; cases hp
                                      clear hszs
                                      have HFY : Hid (hasV st nd a.data.toList b.data.toList = some (lastV st { nd with props := nd.props ++ [(a, T)] })) := Lib.hid (HFS.out ⟨HE0.out, HTO.out, by have h2 := HTS.out; simp only; omega, HRE.out, HLT.out⟩)
                                      have HFIN2 : Hid (∀ (Az : Option Addr) (cz : Nat) (W : World), UEnd B0 B gu c st.next (.slice (some ⟨g, 0, none⟩) n cc) vd (l.set (n - 1) ({ nd with props := nd.props ++ [(a, T)] }, ⟨⟨Az, 0 + 1, cz⟩, ⟨Ka, Kn, Kc⟩, ⟨Ra, 0, Rc⟩⟩)) (deepI st.deep) w W → LineU B0 B gu c (k + 1) (hasV st nd a.data.toList b.data.toList) w (.returned (.bool true)) W) := Lib.hid fun Az cz W hE => by rw [HFY.out]; exact HFIN.out Az cz W hE
                                      clear HNO HFY HFIN
                                      go_upto_region 6 with fail
                                      have HMD := Lib.hid (HW4.out.after (W' := (w4.alloc (.cells #[.string a, .string T] 60))) ((Below.refl _ _).alloc (Nat.le_refl _) _))
                                      have HRq : Hid (Row (w4.alloc (.cells #[.string a, .string T] 60)) w4.heap.size (w4.heap.size + 1) 2 (some ⟨w4.heap.size, 0, none⟩) 1 1 [.string a, .string T]) := Lib.hid (row_blk (Blk.new _ _ _) rfl (Nat.le_refl _) (by unfold maxLen; omega))
                                      go_upto_region 7 with (at_builtin; with_reducible show wpList _ _ _ (⟨some 76, _, _, _, _, _⟩ :: _) _ _; go_must (refine wpList_appS (o := ⟨some 76, _, _, _, _, _⟩) _ rfl (.tmp 71) (.tmp 75) _ rfl B 60 i1 _ 2 32 Tryz.underlying52 hi1 hz1 hs1 hb1 rfl (by omega) (.slice Pa 0 Pc) 0 (propCells nd.props) (by go_simp) (HPR.out _ HMD.out.np) w4.heap.size (w4.heap.size + 1) (some ⟨w4.heap.size, 0, none⟩) 1 1 [.string a, .string T] (by go_simp) HRq.out (by simp [Value.oneCell']) (by unfold maxLen; omega) (by omega) HMD.out.np.hB ?_); go_must (intro Az cz w2 hownN hgrN hnewN; have HBK := Lib.hid (HMD.out.backProp (y := (a, T)) HLX.out hn0 HI.out HSZ.out hownN hgrN hnewN); have y6 := HBK.out.x; have f6 := HBK.out.f; clear hownN hgrN hnewN))
                                      have HEND := Lib.hid (HFIN2.out _ _ _ HBK.out.en)
                                      refine wp_region_held_tail 12 (fun Y => Below (w2.setCell ⟨gx, 4, none⟩ (.slice Az (0 + 1) cz)).heap.size (w2.setCell ⟨gx, 4, none⟩ (.slice Az (0 + 1) cz)) Y ∧ Y.cell? ⟨gu, 1, none⟩ = some (.slice (some ⟨g, 0, none⟩) n cc) ∧ Y.cell? ⟨gx, 0, none⟩ = some (.int .i64 nd.id) ∧ Y.cell? ⟨gx, 1, none⟩ = some (.string nd.con) ∧ Y.cell? ⟨gx, 2, none⟩ = some (.int .i64 nd.par) ∧ Y.cell? ⟨gx, 3, none⟩ = some (.string nd.role) ∧ Y.cell? ⟨gx, 4, none⟩ = some (.slice Az (0 + 1) cz) ∧ Y.cell? ⟨gx, 5, none⟩ = some (.slice Ka Kn Kc) ∧ Y.cell? ⟨gx, 6, none⟩ = some (.slice Ra 0 Rc)) (by kernel_rfl) (by kernel_rfl) ?hS7 (fun hHeld => ?q7)
                                      case hS7 => exact ⟨drewS_below _, HBK.out.z _ (drewS_below _)⟩
                                      case q7 =>
                                        simp only [List.take_succ_cons, List.take_zero, List.drop_succ_cons, List.drop_zero]
                                        refine wpAnyH_take (i := 0) (oi := ⟨some 78, _, _, _, _, _⟩) (v := (.pointer (some ⟨gu, 0, none⟩))) rfl (by kernel_rfl) (by kernel_rfl) (by kernel_rfl) (fun _ _ _ h => h) (Or.inl ⟨by rfl, ?yb_1⟩) (by assumption) ?qb_1
                                        case yb_1 => (intro w hSw; (try dsimp only at hSw); go_simp)
                                        case qb_1 =>
                                          (try simp only [Act.put]); (try simp only [List.setIfInBounds_toArray])
                                          refine wpAnyH_take (i := 1) (oi := ⟨some 79, _, _, _, _, _⟩) (v := (.pointer (some ⟨gu, 0, none⟩))) rfl (by kernel_rfl) (by kernel_rfl) (by kernel_rfl) (fun _ _ _ h => h) (Or.inl ⟨by rfl, ?yb_2⟩) (by assumption) ?qb_2
                                          case yb_2 => (intro w hSw; (try dsimp only at hSw); go_simp)
                                          case qb_2 =>
                                            (try simp only [Act.put]); (try simp only [List.setIfInBounds_toArray])
                                            refine wpAnyH_take (i := 2) (oi := ⟨some 80, _, _, _, _, _⟩) (v := (.pointer (some ⟨gu, 1, none⟩))) rfl (by kernel_rfl) (by kernel_rfl) (by kernel_rfl) (fun _ _ _ h => h) (Or.inl ⟨by rfl, ?yb_3⟩) (by assumption) ?qb_3
                                            case yb_3 => (intro w hSw; (try dsimp only at hSw); go_simp)
                                            case qb_3 =>
                                              (try simp only [Act.put]); (try simp only [List.setIfInBounds_toArray])
                                              refine wpAnyH_take (i := 3) (oi := ⟨some 81, _, _, _, _, _⟩) (v := (.slice (some ⟨g, 0, none⟩) n cc)) rfl (by kernel_rfl) (by kernel_rfl) (by kernel_rfl) (fun _ _ _ h => h) (Or.inl ⟨by rfl, ?yb_4⟩) (by assumption) ?qb_4
                                              case yb_4 => (intro w hSw; (try dsimp only at hSw); go_simp)
                                              case qb_4 =>
                                                (try simp only [Act.put]); (try simp only [List.setIfInBounds_toArray])
                                                refine wpAnyH_take (i := 4) (oi := ⟨some 82, _, _, _, _, _⟩) (v := (.pointer (some ⟨gu, 0, none⟩))) rfl (by kernel_rfl) (by kernel_rfl) (by kernel_rfl) (fun _ _ _ h => h) (Or.inl ⟨by rfl, ?yb_5⟩) (by assumption) ?qb_5
                                                case yb_5 => (intro w hSw; (try dsimp only at hSw); go_simp)
                                                case qb_5 =>
                                                  (try simp only [Act.put]); (try simp only [List.setIfInBounds_toArray])
                                                  refine wpAnyH_take (i := 5) (oi := ⟨some 83, _, _, _, _, _⟩) (v := (.pointer (some ⟨gu, 0, none⟩))) rfl (by kernel_rfl) (by kernel_rfl) (by kernel_rfl) (fun _ _ _ h => h) (Or.inl ⟨by rfl, ?yb_6⟩) (by assumption) ?qb_6
                                                  case yb_6 => (intro w hSw; (try dsimp only at hSw); go_simp)
                                                  case qb_6 =>
                                                    (try simp only [Act.put]); (try simp only [List.setIfInBounds_toArray])
                                                    refine wpAnyH_take (i := 6) (oi := ⟨some 84, _, _, _, _, _⟩) (v := (.pointer (some ⟨gu, 1, none⟩))) rfl (by kernel_rfl) (by kernel_rfl) (by kernel_rfl) (fun _ _ _ h => h) (Or.inl ⟨by rfl, ?yb_7⟩) (by assumption) ?qb_7
                                                    case yb_7 => (intro w hSw; (try dsimp only at hSw); go_simp)
                                                    case qb_7 =>
                                                      (try simp only [Act.put]); (try simp only [List.setIfInBounds_toArray])
                                                      refine wpAnyH_take (i := 7) (oi := ⟨some 85, _, _, _, _, _⟩) (v := (.slice (some ⟨g, 0, none⟩) n cc)) rfl (by kernel_rfl) (by kernel_rfl) (by kernel_rfl) (fun _ _ _ h => h) (Or.inl ⟨by rfl, ?yb_8⟩) (by assumption) ?qb_8
                                                      case yb_8 => (intro w hSw; (try dsimp only at hSw); go_simp)
                                                      case qb_8 =>
                                                        (try simp only [Act.put]); (try simp only [List.setIfInBounds_toArray])
                                                        refine wpAnyH_take (i := 8) (oi := ⟨some 86, _, _, _, _, _⟩) (v := (.int .i64 (n : Int))) rfl (by kernel_rfl) (by kernel_rfl) (by kernel_rfl) (fun _ _ _ h => h) (Or.inl ⟨by rfl, ?yb_9⟩) (by assumption) ?qb_9
                                                        case yb_9 => (intro w hSw; (try dsimp only at hSw); go_simp)
                                                        case qb_9 =>
                                                          (try simp only [Act.put]); (try simp only [List.setIfInBounds_toArray])
                                                          refine wpAnyH_take (i := 9) (oi := ⟨some 87, _, _, _, _, _⟩) (v := (.int .i64 ((n - 1 : Nat) : Int))) rfl (by kernel_rfl) (by kernel_rfl) (by kernel_rfl) (fun _ _ _ h => h) (Or.inl ⟨by rfl, ?yb_10⟩) (by assumption) ?qb_10
                                                          case yb_10 => (intro w hSw; (try dsimp only at hSw); go_simp)
                                                          case qb_10 =>
                                                            (try simp only [Act.put]); (try simp only [List.setIfInBounds_toArray])
                                                            refine wpAnyH_take (i := 10) (oi := ⟨some 88, _, _, _, _, _⟩) (v := (.agg #[.int .i64 nd.id, .string nd.con, .int .i64 nd.par, .string nd.role, .slice Az (0 + 1) cz, .slice Ka Kn Kc, .slice Ra 0 Rc])) rfl (by kernel_rfl) (by kernel_rfl) (by kernel_rfl) (fun _ _ _ h => h) (Or.inl ⟨by rfl, ?yb_11⟩) (by assumption) ?qb_11
                                                            case yb_11 => (intro w hSw; (try dsimp only at hSw); go_simp)
                                                            case qb_11 =>
                                                              (try simp only [Act.put]); (try simp only [List.setIfInBounds_toArray])
                                                              refine wpAnyH_take (i := 11) (oi := ⟨some 89, _, _, _, _, _⟩) (v := (.pointer (some ⟨g, (n - 1) * 7, none⟩))) rfl (by kernel_rfl) (by kernel_rfl) (by kernel_rfl) (fun _ _ _ h => h) (Or.inl ⟨by rfl, ?yb_12⟩) (by assumption) ?qb_12
                                                              case yb_12 => (intro w hSw; (try dsimp only at hSw); go_simp)
                                                              case qb_12 =>
                                                                (try simp only [Act.put]); (try simp only [List.setIfInBounds_toArray])
                                                                clear hHeld
                                                                refine wpAnyH_done (by kernel_rfl) ?_ _
                                                                show wpList _ _ _ _ _ _
                                                                refine wpList_store_mid rfl 55 _ _ rfl g ((n - 1) * 7) #[.int .i64 nd.id, .string nd.con, .int .i64 nd.par, .string nd.role, .slice Az (0 + 1) cz, .slice Ka Kn Kc, .slice Ra 0 Rc] rfl rfl HBK.out.th infoNode7 (one7 nd _ _ _ _ _ _ _ _ _) ?_
                                                                go_wp2_with fail
                                                                go_ret
                                                                exact HEND.out
end Go.Proofs.YtjjlofaejpnnnaaGreatDoor

/-
  WALKS over package sheet: the lines of a node.
-/
import Derived.Test.YtjjlofaejpnnnaaGreatDoorZB16
namespace Go.Proofs.YtjjlofaejpnnnaaGreatDoor
open Go Go.RowKit
set_option linter.unusedVariables false
theorem below_drew1' (w : World) : Below w.heap.size w w.drew := (Below.refl _ _).drew
/-- a call that makes memory, ready alone -/
theorem wpAnyH_make {P : Program} {md : Region.Mode} {ops : Array Oper} {Q : Exit → Act → World → Prop} {S R : World → Prop} {fuel : Nat} {listed : Array Bool} {a : Act} {w : World} {i : Nat} {o : Oper} (hr : Region.ready md ops listed = [i]) (ho : ops[i]? = some o)
    (hw : Region.wanted o (yielded ops a.tmps) = true) (f : FuncId) (vs : Array Value) (u : Value) (hrun : (execOp a.eval o).run P w = .ok (.enter f vs) w) (h : Calls P f vs w fun e w' => e = .returned u ∧ R w') (hS : ∀ Y, R Y → S Y)
    (hn : ∀ Y, R Y → wpAnyH P md ops Q S fuel (listed.setIfInBounds i true) (a.put o.dst u) Y) : wpAnyH P md ops Q S (fuel + 1) listed a w :=
  wpAnyH_all hr (by simp) fun j hj => by
    obtain rfl : j = i := by simpa using hj
    unfold wpOp
    simp only [ho]
    rw [if_pos hw]
    left
    unfold Oper.wp
    rw [hrun]
    refine h.mono ?_
    rintro e w' ⟨rfl, h2⟩
    exact ⟨hS _ h2, hn _ h2⟩
/-- how great a node's texts may be -/
structure NdOk (nd : Nd) : Prop where
  id0 : -9223372036854775808 ≤ nd.id
  id1 : nd.id ≤ 9223372036854775807
  con : nd.con.size ≤ 4096
  role : nd.role.size ≤ 4096
  props : ∀ p ∈ nd.props, p.1.size ≤ 4096 ∧ p.2.size ≤ 4096
  refs : ∀ r ∈ nd.refs, r.1.size ≤ 4096 ∧ -9223372036854775808 ≤ r.2 ∧ r.2 ≤ 9223372036854775807
theorem append_list (a b : ByteArray) : (a ++ b).data.toList = a.data.toList ++ b.data.toList := by simp [ByteArray.data_append]
/-- a number's text -/
theorem itoa_text (n : Int) (h0 : -9223372036854775808 ≤ n) (h1 : n ≤ 9223372036854775807) : ∃ T : ByteArray, T.data.toList = Lib.itoa n ∧ T.size ≤ 21 ∧ (⟨(Lib.itoa n).toArray⟩ : ByteArray) = T :=
  ⟨⟨(Lib.itoa n).toArray⟩, by simp, by show (Lib.itoa n).toArray.size ≤ 21; rw [List.size_toArray]; exact Lib.itoa_length_le n h0 h1, rfl⟩
theorem quote_len (l : List UInt8) : (quote l).length ≤ 4 * l.length + 2 := by
  unfold quote
  rw [List.cons_append, List.length_cons, List.length_append, List.length_singleton]
  suffices h : (l.flatMap form).length ≤ 4 * l.length by omega
  induction l with
  | nil => simp
  | cons c l ih =>
    rw [List.flatMap_cons, List.length_append, List.length_cons]
    have := (form_length c).2
    omega
theorem quote_text (s : ByteArray) (hs : s.size ≤ 4096) : ∃ T : ByteArray, T.data.toList = quote s.data.toList ∧ T.size ≤ 16386 ∧ (⟨(quote s.data.toList).toArray⟩ : ByteArray) = T :=
  ⟨⟨(quote s.data.toList).toArray⟩, by simp, by
    show (quote s.data.toList).toArray.size ≤ 16386
    rw [List.size_toArray]
    have := quote_len s.data.toList
    have h2 : s.data.toList.length = s.size := by rw [Array.length_toList]; rfl
    omega, rfl⟩
theorem quote_call (s : ByteArray) (Y : World) (hs : s.size ≤ 4096) : Calls Tryz.prog 61 #[.string s] Y fun e w' => e = .returned (.string ⟨(quote s.data.toList).toArray⟩) ∧ Below Y.heap.size Y w' := by
  refine (quote_any s Y ?_).mono fun e w' he => ⟨he.1, he.2⟩
  have := quote_len s.data.toList
  have h2 : s.data.toList.length = s.size := by rw [Array.length_toList]; rfl
  omega
theorem tab_keep {X Y : World} {gp : Nat} (h : TabEnv X) (hb : Below gp X Y) (hgt : 5 < gp) : TabEnv Y := var?_below hb gTab hgt h
/-- what a node writes on the page: PB and what is kept, from a world on -/
structure WrP (gp B : Nat) (X0 : World) (L : List UInt8) (X : World) : Prop where
  p : ∃ v, PB gp B L v X
  k : KeepP gp B X0 X
theorem WrP.after {gp B : Nat} {X0 X Y : World} {L : List UInt8} (h : WrP gp B X0 L X) (hb : Below X.heap.size X Y) : WrP gp B X0 L Y := by
  obtain ⟨v, hp⟩ := h.p
  exact ⟨⟨v, hp.after hb⟩, h.k.trans (KeepP.after hb)⟩
theorem WrP.line {gp B : Nat} {X0 X : World} {L L' : List UInt8} {e : Ending} {Y : World} (h : WrP gp B X0 L X) (hl : LineP gp B X L' e Y) : WrP gp B X0 L' Y := ⟨hl.2.1, h.k.trans hl.2.2⟩
/-- a line, wherever the page stands -/
theorem WrP.call {gp B : Nat} {X0 X : World} {L : List UInt8} (h : WrP gp B X0 L X) (k : Nat) (s : ByteArray) (hk : k ≤ 64) (hs : s.size ≤ 70368744177000) :
    Calls Tryz.prog 24 #[.pointer (some ⟨gp, 0, none⟩), .int .i64 k, .string s] X fun e Y => e = .returned (.tuple #[]) ∧ WrP gp B X0 (pageA L (bl k ++ s.data.toList ++ [10])) Y := by
  obtain ⟨v, hp⟩ := h.p
  exact (line_any X gp B L v k s hp hk hs).mono fun e Y hl => ⟨hl.1, h.line hl⟩
set_option maxRecDepth 20000 in
set_option maxHeartbeats 6400000 in
theorem nodeLines_any (X : World) (gp B : Nat) (L : List UInt8) (hi b o k : Nat) (nd : Nd) (F : Leaf) (h : ∃ v, PB gp B L v X) (hat : NodeAt X b o nd F) (hin : LeafIn X 0 hi nd F) (hb : b < hi) (hh : hi ≤ gp) (hk1 : 1 ≤ k) (hk : k ≤ 64) (hok : NdOk nd) (hE : TabEnv X) (hgt : 5 < gp) :
    Calls Tryz.prog 27 #[.pointer (some ⟨gp, 0, none⟩), .pointer (some ⟨b, o, none⟩), .int .i64 k] X fun e Y => e = .returned (.tuple #[]) ∧ WrP gp B X (pageV L (nodeL nd k)) Y := by
  obtain ⟨⟨Ap, np, cp⟩, ⟨Ak, nk, ck⟩, ⟨Ar, nr, cr⟩⟩ := F
  have hnp : np = nd.props.length := hin.pn
  have hnr : nr = nd.refs.length := hin.rn
  have hmp : np ≤ maxLen := Nat.le_trans hin.p.2.1 hin.p.2.2.1
  have hmr : nr ≤ maxLen := Nat.le_trans hin.r.2.1 hin.r.2.2.1
  unfold maxLen at hmp hmr
  have HW0 : Hid (WrP gp B X L X) := Lib.hid ⟨h, KeepP.refl _ _ _⟩
  obtain ⟨v0, hp0⟩ := h
  have hgB := hp0.lt
  have hBX := hp0.sz
  have hbX : b < X.heap.size := by omega
  obtain ⟨T0, hT0, hT0s, hT0e⟩ := itoa_text nd.id hok.id0 hok.id1
  have HSH : Hid (Calls Tryz.prog 25 #[.int .i64 nd.id] X.drew fun e w' => e = .returned (.string T0) ∧ Below X.heap.size X w') := Lib.hid ((show_s nd.id X.drew hok.id0 hok.id1 (hE.below (below_drew1' X))).mono fun e w' he => ⟨by rw [he.1, hT0e], (below_drew1' X).trans (he.2.mono (below_drew1' X).size)⟩)
  have HC3 : Hid (∀ Y, Below X.heap.size X Y → Y.cell? ⟨b, o, none⟩ = some (.int .i64 nd.id) ∧ Y.cell? ⟨b, o + 1, none⟩ = some (.string nd.con)) := Lib.hid fun Y hY => ⟨(hY.cell (p := ⟨b, _, none⟩) hbX).trans hat.c0, (hY.cell (p := ⟨b, _, none⟩) hbX).trans hat.c1⟩
  have HCk : Hid (∀ Y, KeepP gp B X Y → NodeAt Y b o nd ⟨⟨Ap, np, cp⟩, ⟨Ak, nk, ck⟩, ⟨Ar, nr, cr⟩⟩ ∧ LeafIn Y 0 hi nd ⟨⟨Ap, np, cp⟩, ⟨Ak, nk, ck⟩, ⟨Ar, nr, cr⟩⟩) := Lib.hid fun Y hY => ⟨hat.below (hY.below (by omega) (by omega)) (by omega), hin.below ((hY.below (by omega) (by omega)).mono hh)⟩
  have HEk : Hid (∀ Y, KeepP gp B X Y → TabEnv Y) := Lib.hid fun Y hY => tab_keep hE (hY.below (by omega) (by omega)) hgt
  have c2 := hat.c2
  have c3 := hat.c3
  have HOK := Lib.hid hok
  have HT0 := Lib.hid hT0
  have hconS := hok.con
  have hroleS := hok.role
  have ek : ((k - 1 : Nat) : Int) = (k : Int) - 1 := by omega
  have hwr : IntKind.i64.wrap ((k : Int) - 1) = (k : Int) - 1 := by
    have h2 : (k : Int) ≤ 64 := by omega
    unfold IntKind.wrap
    simp [IntKind.bits, IntKind.signed]
    omega
  clear hat hin hok hT0 hT0e hE hp0
  by_cases hpar : nd.par = 0
  · have d1 : (nd.par != 0) = false := by rw [bne_eq_false_iff_eq]; exact hpar
    have HLN : Hid (lineN nd k = bl (k - 1) ++ (T0 ++ ⟨#[32]⟩ ++ ⟨#[]⟩ ++ nd.con).data.toList ++ [10]) := Lib.hid (by
      unfold lineN
      rw [if_pos hpar, append_list, append_list, append_list, HT0.out]
      simp)
    clear hpar
    obtain ⟨R, hR⟩ : ∃ R : ByteArray, (⟨#[]⟩ : ByteArray) = R := ⟨_, rfl⟩
    rw [hR] at HLN
    have hRs : R.size ≤ 4097 := by rw [← hR]; show (0 : Nat) ≤ 4097; omega
    go_enter Tryz.func27, Tryz.ntmps27
    go_upto_region 3 with (fail)
    rw [hR]
    clear hR c2 c3 d1
    have HLC : Hid (∀ Y, Below X.heap.size X Y → Calls Tryz.prog 24 #[.pointer (some ⟨gp, 0, none⟩), .int .i64 ((k : Int) - 1), .string (T0 ++ ⟨#[32]⟩ ++ R ++ nd.con)] Y fun e Z => e = .returned (.tuple #[]) ∧ WrP gp B X (pageV L [lineN nd k]) Z) := Lib.hid fun Y hY => by
      rw [← ek]
      have := (HW0.out.after hY).call (k - 1) (T0 ++ ⟨#[32]⟩ ++ R ++ nd.con) (by omega) (by simp only [ByteArray.size_append]; have : (⟨#[32]⟩ : ByteArray).size = 1 := rfl; omega)
      rw [← HLN.out] at this
      exact this
    have z1 : ¬ 9223372036854775807 < T0.size + 1 := by omega
    have z2 : ¬ 9223372036854775807 < T0.size + 1 + R.size := by omega
    have z3 : ¬ 9223372036854775807 < T0.size + 1 + R.size + nd.con.size := by omega
    refine wp_region_held_tail 16 (fun Y => Below X.heap.size X Y ∧ Y.cell? ⟨b, o, none⟩ = some (.int .i64 nd.id) ∧ Y.cell? ⟨b, o + 1, none⟩ = some (.string nd.con)) (by kernel_rfl) (by kernel_rfl) ?hSa (fun hHeld => ?qa0)
    case hSa => exact ⟨below_drew1' X, HC3.out _ (below_drew1' X)⟩
    case qa0 =>
      simp only [List.take_succ_cons, List.take_zero, List.drop_succ_cons, List.drop_zero]
      refine wpAnyH_take (i := 0) (oi := ⟨some 21, _, _, _, _, _⟩) (v := (.pointer (some ⟨gp, 0, none⟩))) rfl (by kernel_rfl) (by kernel_rfl) (by kernel_rfl) (fun _ _ _ h => h) (Or.inl ⟨by rfl, ?ya_1⟩) (by assumption) ?qa_1
      case ya_1 => (intro w hSw; (try dsimp only at hSw); go_simp)
      case qa_1 =>
        (try simp only [Act.put]); (try simp only [List.setIfInBounds_toArray])
        refine wpAnyH_take (i := 1) (oi := ⟨some 22, _, _, _, _, _⟩) (v := (.int .i64 (k : Int))) rfl (by kernel_rfl) (by kernel_rfl) (by kernel_rfl) (fun _ _ _ h => h) (Or.inl ⟨by rfl, ?ya_2⟩) (by assumption) ?qa_2
        case ya_2 => (intro w hSw; (try dsimp only at hSw); go_simp)
        case qa_2 =>
          (try simp only [Act.put]); (try simp only [List.setIfInBounds_toArray])
          refine wpAnyH_take (i := 2) (oi := ⟨some 23, _, _, _, _, _⟩) (v := (.int .i64 ((k : Int) - 1))) rfl (by kernel_rfl) (by kernel_rfl) (by kernel_rfl) (fun _ _ _ h => h) (Or.inl ⟨by rfl, ?ya_3⟩) (by assumption) ?qa_3
          case ya_3 => (intro w hSw; (try dsimp only at hSw); go_simp)
          case qa_3 =>
            (try simp only [Act.put]); (try simp only [List.setIfInBounds_toArray])
            refine wpAnyH_take (i := 3) (oi := ⟨some 24, _, _, _, _, _⟩) (v := (.pointer (some ⟨b, o, none⟩))) rfl (by kernel_rfl) (by kernel_rfl) (by kernel_rfl) (fun _ _ _ h => h) (Or.inl ⟨by rfl, ?ya_4⟩) (by assumption) ?qa_4
            case ya_4 => (intro w hSw; (try dsimp only at hSw); go_simp)
            case qa_4 =>
              (try simp only [Act.put]); (try simp only [List.setIfInBounds_toArray])
              refine wpAnyH_take (i := 4) (oi := ⟨some 25, _, _, _, _, _⟩) (v := (.pointer (some ⟨b, o, none⟩))) rfl (by kernel_rfl) (by kernel_rfl) (by kernel_rfl) (fun _ _ _ h => h) (Or.inl ⟨by rfl, ?ya_5⟩) (by assumption) ?qa_5
              case ya_5 => (intro w hSw; (try dsimp only at hSw); go_simp)
              case qa_5 =>
                (try simp only [Act.put]); (try simp only [List.setIfInBounds_toArray])
                refine wpAnyH_take (i := 5) (oi := ⟨some 26, _, _, _, _, _⟩) (v := (.pointer (some ⟨b, o, none⟩))) rfl (by kernel_rfl) (by kernel_rfl) (by kernel_rfl) (fun _ _ _ h => h) (Or.inl ⟨by rfl, ?ya_6⟩) (by assumption) ?qa_6
                case ya_6 => (intro w hSw; (try dsimp only at hSw); go_simp)
                case qa_6 =>
                  (try simp only [Act.put]); (try simp only [List.setIfInBounds_toArray])
                  refine wpAnyH_take (i := 6) (oi := ⟨some 27, _, _, _, _, _⟩) (v := (.int .i64 nd.id)) rfl (by kernel_rfl) (by kernel_rfl) (by kernel_rfl) (fun _ _ _ h => h) (Or.inl ⟨by rfl, ?ya_7⟩) (by assumption) ?qa_7
                  case ya_7 => (intro w hSw; (try dsimp only at hSw); go_simp)
                  case qa_7 =>
                    (try simp only [Act.put]); (try simp only [List.setIfInBounds_toArray])
                    refine wpAnyH_take (i := 9) (oi := ⟨some 30, _, _, _, _, _⟩) (v := (.string R)) rfl (by kernel_rfl) (by kernel_rfl) (by kernel_rfl) (fun _ _ _ h => h) (Or.inl ⟨by rfl, ?ya_10⟩) (by assumption) ?qa_10
                    case ya_10 => (intro w hSw; (try dsimp only at hSw); go_simp)
                    case qa_10 =>
                      (try simp only [Act.put]); (try simp only [List.setIfInBounds_toArray])
                      refine wpAnyH_take (i := 11) (oi := ⟨some 32, _, _, _, _, _⟩) (v := (.pointer (some ⟨b, o, none⟩))) rfl (by kernel_rfl) (by kernel_rfl) (by kernel_rfl) (fun _ _ _ h => h) (Or.inl ⟨by rfl, ?ya_12⟩) (by assumption) ?qa_12
                      case ya_12 => (intro w hSw; (try dsimp only at hSw); go_simp)
                      case qa_12 =>
                        (try simp only [Act.put]); (try simp only [List.setIfInBounds_toArray])
                        refine wpAnyH_take (i := 12) (oi := ⟨some 33, _, _, _, _, _⟩) (v := (.pointer (some ⟨b, o, none⟩))) rfl (by kernel_rfl) (by kernel_rfl) (by kernel_rfl) (fun _ _ _ h => h) (Or.inl ⟨by rfl, ?ya_13⟩) (by assumption) ?qa_13
                        case ya_13 => (intro w hSw; (try dsimp only at hSw); go_simp)
                        case qa_13 =>
                          (try simp only [Act.put]); (try simp only [List.setIfInBounds_toArray])
                          refine wpAnyH_take (i := 13) (oi := ⟨some 34, _, _, _, _, _⟩) (v := (.pointer (some ⟨b, o + 1, none⟩))) rfl (by kernel_rfl) (by kernel_rfl) (by kernel_rfl) (fun _ _ _ h => h) (Or.inl ⟨by rfl, ?ya_14⟩) (by assumption) ?qa_14
                          case ya_14 => (intro w hSw; (try dsimp only at hSw); go_simp)
                          case qa_14 =>
                            (try simp only [Act.put]); (try simp only [List.setIfInBounds_toArray])
                            refine wpAnyH_take (i := 14) (oi := ⟨some 35, _, _, _, _, _⟩) (v := (.string nd.con)) rfl (by kernel_rfl) (by kernel_rfl) (by kernel_rfl) (fun _ _ _ h => h) (Or.inl ⟨by rfl, ?ya_15⟩) (by assumption) ?qa_15
                            case ya_15 => (intro w hSw; (try dsimp only at hSw); go_simp)
                            case qa_15 =>
                              (try simp only [Act.put]); (try simp only [List.setIfInBounds_toArray])
                              refine wpAnyH_make (i := 7) (o := ⟨some 28, _, _, _, _, _⟩) (by kernel_rfl) rfl (by simp [Region.wanted, yielded]) 25 #[.int .i64 nd.id] (.string T0) (R := fun Y => Below X.heap.size X Y) (by go_simp) HSH.out (fun Y hY => ⟨hY, HC3.out Y hY⟩) (fun Y hY => ?qcall)
                              case qcall =>
                                (try simp only [Act.put]); (try simp only [List.setIfInBounds_toArray])
                                have hHeldY : Below X.heap.size X Y ∧ Y.cell? ⟨b, o, none⟩ = some (.int .i64 nd.id) ∧ Y.cell? ⟨b, o + 1, none⟩ = some (.string nd.con) := ⟨hY, HC3.out Y hY⟩
                                refine wpAnyH_take (i := 8) (oi := ⟨some 29, _, _, _, _, _⟩) (v := (.string (T0 ++ ⟨#[32]⟩))) rfl (by kernel_rfl) (by kernel_rfl) (by kernel_rfl) (fun _ _ _ h => h) (Or.inl ⟨by rfl, ?ya_9⟩) (by assumption) ?qa_9
                                case ya_9 => (intro w hSw; (try dsimp only at hSw); go_simp)
                                case qa_9 =>
                                  (try simp only [Act.put]); (try simp only [List.setIfInBounds_toArray])
                                  refine wpAnyH_take (i := 10) (oi := ⟨some 31, _, _, _, _, _⟩) (v := (.string (T0 ++ ⟨#[32]⟩ ++ R))) rfl (by kernel_rfl) (by kernel_rfl) (by kernel_rfl) (fun _ _ _ h => h) (Or.inl ⟨by rfl, ?ya_11⟩) (by assumption) ?qa_11
                                  case ya_11 => (intro w hSw; (try dsimp only at hSw); go_simp)
                                  case qa_11 =>
                                    (try simp only [Act.put]); (try simp only [List.setIfInBounds_toArray])
                                    refine wpAnyH_take (i := 15) (oi := ⟨some 36, _, _, _, _, _⟩) (v := (.string (T0 ++ ⟨#[32]⟩ ++ R ++ nd.con))) rfl (by kernel_rfl) (by kernel_rfl) (by kernel_rfl) (fun _ _ _ h => h) (Or.inl ⟨by rfl, ?ya_16⟩) (by assumption) ?qa_16
                                    case ya_16 => (intro w hSw; (try dsimp only at hSw); go_simp)
                                    case qa_16 =>
                                      (try simp only [Act.put]); (try simp only [List.setIfInBounds_toArray])
                                      refine wpAnyH_done (by kernel_rfl) ?_ _
                                      clear hHeld hHeldY
                                      show wpList _ _ _ _ _ _
                                      have HYc := Lib.hid hY
                                      go_wp2_with (go_at_call 24; refine (HLC.out _ HYc.out).mono ?_; rintro e Z ⟨rfl, hwz⟩; have HWZ := Lib.hid hwz; have c4 := (HCk.out Z hwz.k).1.c4; have c6 := (HCk.out Z hwz.k).1.c6; clear hwz)
                                      go_loopw [43] (fun i wr => ∃ j : Nat, j ≤ np ∧ i = .int .i64 j ∧ Hid (WrP gp B X (pageV L (lineN nd k :: (nd.props.take j).map (lineP · k))) wr)) (fun i _ => np - (intOf i).toNat)
                                      case atStart => exact ⟨0, Nat.zero_le _, rfl, HWZ⟩
                                      case round =>
                                        rename World => wr
                                        obtain ⟨j, hj, rfl, HWr⟩ := hrel
                                        by_cases hjn : j < np
                                        · obtain ⟨p, hp⟩ : ∃ p, nd.props[j]? = some p := ⟨nd.props[j]'(by omega), List.getElem?_eq_getElem _⟩
                                          obtain ⟨bp, op, hAp, _, hbp, hcp⟩ := (HCk.out wr HWr.out.k).2.p.at_ (show 0 < np by omega)
                                          simp only at hAp
                                          subst hAp
                                          have q0 := hcp (j * 2) _ (propCells_get hp).1
                                          have q1 := hcp (j * 2 + 1) _ (propCells_get hp).2
                                          rw [← Nat.add_assoc] at q1
                                          have hps := HOK.out.props p (List.mem_of_getElem? hp)
                                          have HTK : Hid ((nd.props.take (j + 1)).map (lineP · k) = (nd.props.take j).map (lineP · k) ++ [lineP p k]) := Lib.hid (by rw [List.take_add_one, hp]; simp)
                                          obtain ⟨p1, p2⟩ := p
                                          simp only at q0 q1 hps
                                          obtain ⟨T1, hT1, hT1s, hT1e⟩ := quote_text p2 hps.2
                                          have HLP : Hid (lineP (p1, p2) k = bl k ++ (⟨#[46]⟩ ++ p1 ++ ⟨#[61]⟩ ++ T1).data.toList ++ [10]) := Lib.hid (by
                                            unfold lineP
                                            rw [append_list, append_list, append_list, hT1]
                                            simp)
                                          have HZ1 : Hid (WrP gp B X (pageV L (lineN nd k :: (nd.props.take j).map (lineP · k))) (wr.alloc (.cells #[.string p1, .string p2] 60))) := Lib.hid (HWr.out.after ((Below.refl _ _).alloc (Nat.le_refl _) _))
                                          have HB1 : Hid (Blk (wr.alloc (.cells #[.string p1, .string p2] 60)) wr.heap.size 60 #[.string p1, .string p2]) := Lib.hid (Blk.new _ _ _)
                                          have hwB : B ≤ wr.heap.size := by obtain ⟨v, hv⟩ := HWr.out.p; exact hv.sz
                                          have HQS : Hid (∀ Y, Calls Tryz.prog 61 #[.string p2] Y fun e w' => e = .returned (.string T1) ∧ Below Y.heap.size Y w') := Lib.hid fun Y => by rw [← hT1e]; exact quote_call p2 Y hps.2
                                          clear hcp hp hT1 hT1e
                                          go_upto_region 7 with (fail)
                                          generalize wr.alloc (.cells #[.string p1, .string p2] 60) = Z1 at HZ1 HB1 ⊢
                                          have HGQ : Hid (wr.heap.size < Z1.heap.size) := Lib.hid HB1.out.lt
                                          generalize wr.heap.size = gq at HB1 HGQ hwB ⊢
                                          have HC7 : Hid (∀ Y, Below Z1.heap.size Z1 Y → Y.cell? ⟨gq, 0, none⟩ = some (.string p1) ∧ Y.cell? ⟨gq, 1, none⟩ = some (.string p2)) := Lib.hid fun Y hY => ⟨(hY.cell (p := ⟨gq, _, none⟩) HGQ.out).trans ((HB1.out.cell 0).trans rfl), (hY.cell (p := ⟨gq, _, none⟩) HGQ.out).trans ((HB1.out.cell 1).trans rfl)⟩
                                          have HQ : Hid (Calls Tryz.prog 61 #[.string p2] Z1.drew fun e w' => e = .returned (.string T1) ∧ Below Z1.heap.size Z1 w') := Lib.hid ((HQS.out Z1.drew).mono fun e w' he => ⟨he.1, (below_drew1' Z1).trans (he.2.mono (below_drew1' Z1).size)⟩)
                                          have HLN7 : Hid (∀ Y, Below Z1.heap.size Z1 Y → Calls Tryz.prog 24 #[.pointer (some ⟨gp, 0, none⟩), .int .i64 k, .string (⟨#[46]⟩ ++ p1 ++ ⟨#[61]⟩ ++ T1)] Y fun e Z => e = .returned (.tuple #[]) ∧ WrP gp B X (pageV L (lineN nd k :: (nd.props.take (j + 1)).map (lineP · k))) Z) := Lib.hid fun Y hY => by
                                            have := (HZ1.out.after hY).call k (⟨#[46]⟩ ++ p1 ++ ⟨#[61]⟩ ++ T1) hk (by simp only [ByteArray.size_append]; have : (⟨#[46]⟩ : ByteArray).size = 1 := rfl; have : (⟨#[61]⟩ : ByteArray).size = 1 := rfl; omega)
                                            rw [← HLP.out] at this
                                            rw [HTK.out, show lineN nd k :: ((nd.props.take j).map (lineP · k) ++ [lineP (p1, p2) k]) = (lineN nd k :: (nd.props.take j).map (lineP · k)) ++ [lineP (p1, p2) k] from rfl, pageV_append]
                                            exact this
                                          have y1 : ¬ 9223372036854775807 < 1 + p1.size := by omega
                                          have y2 : ¬ 9223372036854775807 < 1 + p1.size + 1 := by omega
                                          have y3 : ¬ 9223372036854775807 < 1 + p1.size + 1 + T1.size := by omega
                                          refine wp_region_held_tail 10 (fun Y => Below Z1.heap.size Z1 Y ∧ Y.cell? ⟨gq, 0, none⟩ = some (.string p1) ∧ Y.cell? ⟨gq, 1, none⟩ = some (.string p2)) (by kernel_rfl) (by kernel_rfl) ?hSb (fun hHeld => ?qb0)
                                          case hSb => exact ⟨below_drew1' Z1, HC7.out _ (below_drew1' Z1)⟩
                                          case qb0 =>
                                            simp only [List.take_succ_cons, List.take_zero, List.drop_succ_cons, List.drop_zero]
                                            refine wpAnyH_take (i := 0) (oi := ⟨some 47, _, _, _, _, _⟩) (v := (.pointer (some ⟨gp, 0, none⟩))) rfl (by kernel_rfl) (by kernel_rfl) (by kernel_rfl) (fun _ _ _ h => h) (Or.inl ⟨by rfl, ?yb_1⟩) (by assumption) ?qb_1
                                            case yb_1 => (intro w hSw; (try dsimp only at hSw); go_simp)
                                            case qb_1 =>
                                              (try simp only [Act.put]); (try simp only [List.setIfInBounds_toArray])
                                              refine wpAnyH_take (i := 1) (oi := ⟨some 48, _, _, _, _, _⟩) (v := (.int .i64 (k : Int))) rfl (by kernel_rfl) (by kernel_rfl) (by kernel_rfl) (fun _ _ _ h => h) (Or.inl ⟨by rfl, ?yb_2⟩) (by assumption) ?qb_2
                                              case yb_2 => (intro w hSw; (try dsimp only at hSw); go_simp)
                                              case qb_2 =>
                                                (try simp only [Act.put]); (try simp only [List.setIfInBounds_toArray])
                                                refine wpAnyH_take (i := 2) (oi := ⟨some 49, _, _, _, _, _⟩) (v := (.pointer (some ⟨gq, 0, none⟩))) rfl (by kernel_rfl) (by kernel_rfl) (by kernel_rfl) (fun _ _ _ h => h) (Or.inl ⟨by rfl, ?yb_3⟩) (by assumption) ?qb_3
                                                case yb_3 => (intro w hSw; (try dsimp only at hSw); go_simp)
                                                case qb_3 =>
                                                  (try simp only [Act.put]); (try simp only [List.setIfInBounds_toArray])
                                                  refine wpAnyH_take (i := 3) (oi := ⟨some 50, _, _, _, _, _⟩) (v := (.string p1)) rfl (by kernel_rfl) (by kernel_rfl) (by kernel_rfl) (fun _ _ _ h => h) (Or.inl ⟨by rfl, ?yb_4⟩) (by assumption) ?qb_4
                                                  case yb_4 => (intro w hSw; (try dsimp only at hSw); go_simp)
                                                  case qb_4 =>
                                                    (try simp only [Act.put]); (try simp only [List.setIfInBounds_toArray])
                                                    refine wpAnyH_take (i := 4) (oi := ⟨some 51, _, _, _, _, _⟩) (v := (.string (⟨#[46]⟩ ++ p1))) rfl (by kernel_rfl) (by kernel_rfl) (by kernel_rfl) (fun _ _ _ h => h) (Or.inl ⟨by rfl, ?yb_5⟩) (by assumption) ?qb_5
                                                    case yb_5 => (intro w hSw; (try dsimp only at hSw); go_simp)
                                                    case qb_5 =>
                                                      (try simp only [Act.put]); (try simp only [List.setIfInBounds_toArray])
                                                      refine wpAnyH_take (i := 5) (oi := ⟨some 52, _, _, _, _, _⟩) (v := (.string (⟨#[46]⟩ ++ p1 ++ ⟨#[61]⟩))) rfl (by kernel_rfl) (by kernel_rfl) (by kernel_rfl) (fun _ _ _ h => h) (Or.inl ⟨by rfl, ?yb_6⟩) (by assumption) ?qb_6
                                                      case yb_6 => (intro w hSw; (try dsimp only at hSw); go_simp)
                                                      case qb_6 =>
                                                        (try simp only [Act.put]); (try simp only [List.setIfInBounds_toArray])
                                                        refine wpAnyH_take (i := 6) (oi := ⟨some 53, _, _, _, _, _⟩) (v := (.pointer (some ⟨gq, 1, none⟩))) rfl (by kernel_rfl) (by kernel_rfl) (by kernel_rfl) (fun _ _ _ h => h) (Or.inl ⟨by rfl, ?yb_7⟩) (by assumption) ?qb_7
                                                        case yb_7 => (intro w hSw; (try dsimp only at hSw); go_simp)
                                                        case qb_7 =>
                                                          (try simp only [Act.put]); (try simp only [List.setIfInBounds_toArray])
                                                          refine wpAnyH_take (i := 7) (oi := ⟨some 54, _, _, _, _, _⟩) (v := (.string p2)) rfl (by kernel_rfl) (by kernel_rfl) (by kernel_rfl) (fun _ _ _ h => h) (Or.inl ⟨by rfl, ?yb_8⟩) (by assumption) ?qb_8
                                                          case yb_8 => (intro w hSw; (try dsimp only at hSw); go_simp)
                                                          case qb_8 =>
                                                            (try simp only [Act.put]); (try simp only [List.setIfInBounds_toArray])
                                                            refine wpAnyH_make (i := 8) (o := ⟨some 55, _, _, _, _, _⟩) (by kernel_rfl) rfl (by simp [Region.wanted, yielded]) 61 #[.string p2] (.string T1) (R := fun Y => Below Z1.heap.size Z1 Y) (by go_simp) HQ.out (fun Y hY => ⟨hY, HC7.out Y hY⟩) (fun Y hY => ?qcallb)
                                                            case qcallb =>
                                                              (try simp only [Act.put]); (try simp only [List.setIfInBounds_toArray])
                                                              have hHeldY : Below Z1.heap.size Z1 Y ∧ Y.cell? ⟨gq, 0, none⟩ = some (.string p1) ∧ Y.cell? ⟨gq, 1, none⟩ = some (.string p2) := ⟨hY, HC7.out Y hY⟩
                                                              refine wpAnyH_take (i := 9) (oi := ⟨some 56, _, _, _, _, _⟩) (v := (.string (⟨#[46]⟩ ++ p1 ++ ⟨#[61]⟩ ++ T1))) rfl (by kernel_rfl) (by kernel_rfl) (by kernel_rfl) (fun _ _ _ h => h) (Or.inl ⟨by rfl, ?yb_10⟩) (by assumption) ?qb_10
                                                              case yb_10 => (intro w hSw; (try dsimp only at hSw); go_simp)
                                                              case qb_10 =>
                                                                (try simp only [Act.put]); (try simp only [List.setIfInBounds_toArray])
                                                                refine wpAnyH_done (by kernel_rfl) ?_ _
                                                                clear hHeld hHeldY
                                                                show wpList _ _ _ _ _ _
                                                                have HYc := Lib.hid hY
                                                                go_wp2_with (go_at_call 24; refine (HLN7.out _ HYc.out).mono ?_; rintro e Z2 ⟨rfl, hwz⟩; have HW2 := Lib.hid hwz; clear hwz)
                                                                go_roundw
                                                                case rel => exact ⟨j + 1, by omega, by go_num, HW2⟩
                                                                case measure => simp [intOf]; omega
                                        · have hjp : (nd.props.take j).map (lineP · k) = nd.props.map (lineP · k) := by rw [List.take_of_length_le (by omega)]
                                          have HWP : Hid (WrP gp B X (pageV L (lineN nd k :: (nd.props.map (lineP · k) ++ (nd.refs.take 0).map (lineR · k)))) wr) := Lib.hid (by have := HWr.out; rw [hjp] at this; rw [List.take_zero, List.map_nil, List.append_nil]; exact this)
                                          have c6 := (HCk.out wr HWr.out.k).1.c6
                                          have hjn2 : ¬ (j : Int) < (np : Int) := by omega
                                          clear hjp
                                          go_wp2_with fail
                                          go_loopw [64] (fun i wr => ∃ j : Nat, j ≤ nr ∧ i = .int .i64 j ∧ Hid (WrP gp B X (pageV L (lineN nd k :: (nd.props.map (lineP · k) ++ (nd.refs.take j).map (lineR · k)))) wr)) (fun i _ => nr - (intOf i).toNat)
                                          case atStart => exact ⟨0, Nat.zero_le _, rfl, HWP⟩
                                          case round =>
                                            clear c6
                                            rename World => wq
                                            obtain ⟨m, hm, rfl, HWq⟩ := hrel
                                            by_cases hmn : m < nr
                                            · obtain ⟨p, hp⟩ : ∃ p, nd.refs[m]? = some p := ⟨nd.refs[m]'(by omega), List.getElem?_eq_getElem _⟩
                                              obtain ⟨br, or_, hAr, _, hbr, hcr⟩ := (HCk.out wq HWq.out.k).2.r.at_ (show 0 < nr by omega)
                                              simp only at hAr
                                              subst hAr
                                              have q0 := hcr (m * 2) _ (refCells_get hp).1
                                              have q1 := hcr (m * 2 + 1) _ (refCells_get hp).2
                                              rw [← Nat.add_assoc] at q1
                                              have hps := HOK.out.refs p (List.mem_of_getElem? hp)
                                              have HTK : Hid ((nd.refs.take (m + 1)).map (lineR · k) = (nd.refs.take m).map (lineR · k) ++ [lineR p k]) := Lib.hid (by rw [List.take_add_one, hp]; simp)
                                              obtain ⟨p1, p2⟩ := p
                                              simp only at q0 q1 hps
                                              obtain ⟨T1, hT1, hT1s, hT1e⟩ := itoa_text p2 hps.2.1 hps.2.2
                                              have HLP : Hid (lineR (p1, p2) k = bl k ++ (⟨#[62]⟩ ++ p1 ++ ⟨#[61]⟩ ++ T1).data.toList ++ [10]) := Lib.hid (by
                                                unfold lineR
                                                rw [append_list, append_list, append_list, hT1]
                                                simp)
                                              have HZ1 : Hid (WrP gp B X (pageV L (lineN nd k :: (nd.props.map (lineP · k) ++ (nd.refs.take m).map (lineR · k)))) (wq.alloc (.cells #[.string p1, .int .i64 p2] 62))) := Lib.hid (HWq.out.after ((Below.refl _ _).alloc (Nat.le_refl _) _))
                                              have HB1 : Hid (Blk (wq.alloc (.cells #[.string p1, .int .i64 p2] 62)) wq.heap.size 62 #[.string p1, .int .i64 p2]) := Lib.hid (Blk.new _ _ _)
                                              have hwB : B ≤ wq.heap.size := by obtain ⟨v, hv⟩ := HWq.out.p; exact hv.sz
                                              have hp20 := hps.2.1
                                              have hp21 := hps.2.2
                                              have HQS : Hid (∀ Y, TabEnv Y → Calls Tryz.prog 25 #[.int .i64 p2] Y fun e w' => e = .returned (.string T1) ∧ Below Y.heap.size Y w') := Lib.hid fun Y hY => (show_s p2 Y hp20 hp21 hY).mono fun e w' he => ⟨by rw [he.1, hT1e], he.2⟩
                                              clear hcr hp hT1 hT1e hp20 hp21
                                              go_upto_region 12 with (fail)
                                              generalize wq.alloc (.cells #[.string p1, .int .i64 p2] 62) = Z1 at HZ1 HB1 ⊢
                                              have HGQ : Hid (wq.heap.size < Z1.heap.size) := Lib.hid HB1.out.lt
                                              generalize wq.heap.size = gq at HB1 HGQ hwB ⊢
                                              have HC7 : Hid (∀ Y, Below Z1.heap.size Z1 Y → Y.cell? ⟨gq, 0, none⟩ = some (.string p1) ∧ Y.cell? ⟨gq, 1, none⟩ = some (.int .i64 p2)) := Lib.hid fun Y hY => ⟨(hY.cell (p := ⟨gq, _, none⟩) HGQ.out).trans ((HB1.out.cell 0).trans rfl), (hY.cell (p := ⟨gq, _, none⟩) HGQ.out).trans ((HB1.out.cell 1).trans rfl)⟩
                                              have HQ : Hid (Calls Tryz.prog 25 #[.int .i64 p2] Z1.drew fun e w' => e = .returned (.string T1) ∧ Below Z1.heap.size Z1 w') := Lib.hid ((HQS.out Z1.drew ((HEk.out Z1 HZ1.out.k).below (below_drew1' Z1))).mono fun e w' he => ⟨he.1, (below_drew1' Z1).trans (he.2.mono (below_drew1' Z1).size)⟩)
                                              have HLN7 : Hid (∀ Y, Below Z1.heap.size Z1 Y → Calls Tryz.prog 24 #[.pointer (some ⟨gp, 0, none⟩), .int .i64 k, .string (⟨#[62]⟩ ++ p1 ++ ⟨#[61]⟩ ++ T1)] Y fun e Z => e = .returned (.tuple #[]) ∧ WrP gp B X (pageV L (lineN nd k :: (nd.props.map (lineP · k) ++ (nd.refs.take (m + 1)).map (lineR · k)))) Z) := Lib.hid fun Y hY => by
                                                have := (HZ1.out.after hY).call k (⟨#[62]⟩ ++ p1 ++ ⟨#[61]⟩ ++ T1) hk (by simp only [ByteArray.size_append]; have : (⟨#[62]⟩ : ByteArray).size = 1 := rfl; have : (⟨#[61]⟩ : ByteArray).size = 1 := rfl; omega)
                                                rw [← HLP.out] at this
                                                rw [HTK.out, ← List.append_assoc, show lineN nd k :: ((nd.props.map (lineP · k) ++ (nd.refs.take m).map (lineR · k)) ++ [lineR (p1, p2) k]) = (lineN nd k :: (nd.props.map (lineP · k) ++ (nd.refs.take m).map (lineR · k))) ++ [lineR (p1, p2) k] from rfl, pageV_append]
                                                exact this
                                              have y1 : ¬ 9223372036854775807 < 1 + p1.size := by omega
                                              have y2 : ¬ 9223372036854775807 < 1 + p1.size + 1 := by omega
                                              have y3 : ¬ 9223372036854775807 < 1 + p1.size + 1 + T1.size := by omega
                                              refine wp_region_held_tail 10 (fun Y => Below Z1.heap.size Z1 Y ∧ Y.cell? ⟨gq, 0, none⟩ = some (.string p1) ∧ Y.cell? ⟨gq, 1, none⟩ = some (.int .i64 p2)) (by kernel_rfl) (by kernel_rfl) ?hSc (fun hHeld => ?qc0)
                                              case hSc => exact ⟨below_drew1' Z1, HC7.out _ (below_drew1' Z1)⟩
                                              case qc0 =>
                                                simp only [List.take_succ_cons, List.take_zero, List.drop_succ_cons, List.drop_zero]
                                                refine wpAnyH_take (i := 0) (oi := ⟨some 68, _, _, _, _, _⟩) (v := (.pointer (some ⟨gp, 0, none⟩))) rfl (by kernel_rfl) (by kernel_rfl) (by kernel_rfl) (fun _ _ _ h => h) (Or.inl ⟨by rfl, ?yc_1⟩) (by assumption) ?qc_1
                                                case yc_1 => (intro w hSw; (try dsimp only at hSw); go_simp)
                                                case qc_1 =>
                                                  (try simp only [Act.put]); (try simp only [List.setIfInBounds_toArray])
                                                  refine wpAnyH_take (i := 1) (oi := ⟨some 69, _, _, _, _, _⟩) (v := (.int .i64 (k : Int))) rfl (by kernel_rfl) (by kernel_rfl) (by kernel_rfl) (fun _ _ _ h => h) (Or.inl ⟨by rfl, ?yc_2⟩) (by assumption) ?qc_2
                                                  case yc_2 => (intro w hSw; (try dsimp only at hSw); go_simp)
                                                  case qc_2 =>
                                                    (try simp only [Act.put]); (try simp only [List.setIfInBounds_toArray])
                                                    refine wpAnyH_take (i := 2) (oi := ⟨some 70, _, _, _, _, _⟩) (v := (.pointer (some ⟨gq, 0, none⟩))) rfl (by kernel_rfl) (by kernel_rfl) (by kernel_rfl) (fun _ _ _ h => h) (Or.inl ⟨by rfl, ?yc_3⟩) (by assumption) ?qc_3
                                                    case yc_3 => (intro w hSw; (try dsimp only at hSw); go_simp)
                                                    case qc_3 =>
                                                      (try simp only [Act.put]); (try simp only [List.setIfInBounds_toArray])
                                                      refine wpAnyH_take (i := 3) (oi := ⟨some 71, _, _, _, _, _⟩) (v := (.string p1)) rfl (by kernel_rfl) (by kernel_rfl) (by kernel_rfl) (fun _ _ _ h => h) (Or.inl ⟨by rfl, ?yc_4⟩) (by assumption) ?qc_4
                                                      case yc_4 => (intro w hSw; (try dsimp only at hSw); go_simp)
                                                      case qc_4 =>
                                                        (try simp only [Act.put]); (try simp only [List.setIfInBounds_toArray])
                                                        refine wpAnyH_take (i := 4) (oi := ⟨some 72, _, _, _, _, _⟩) (v := (.string (⟨#[62]⟩ ++ p1))) rfl (by kernel_rfl) (by kernel_rfl) (by kernel_rfl) (fun _ _ _ h => h) (Or.inl ⟨by rfl, ?yc_5⟩) (by assumption) ?qc_5
                                                        case yc_5 => (intro w hSw; (try dsimp only at hSw); go_simp)
                                                        case qc_5 =>
                                                          (try simp only [Act.put]); (try simp only [List.setIfInBounds_toArray])
                                                          refine wpAnyH_take (i := 5) (oi := ⟨some 73, _, _, _, _, _⟩) (v := (.string (⟨#[62]⟩ ++ p1 ++ ⟨#[61]⟩))) rfl (by kernel_rfl) (by kernel_rfl) (by kernel_rfl) (fun _ _ _ h => h) (Or.inl ⟨by rfl, ?yc_6⟩) (by assumption) ?qc_6
                                                          case yc_6 => (intro w hSw; (try dsimp only at hSw); go_simp)
                                                          case qc_6 =>
                                                            (try simp only [Act.put]); (try simp only [List.setIfInBounds_toArray])
                                                            refine wpAnyH_take (i := 6) (oi := ⟨some 74, _, _, _, _, _⟩) (v := (.pointer (some ⟨gq, 1, none⟩))) rfl (by kernel_rfl) (by kernel_rfl) (by kernel_rfl) (fun _ _ _ h => h) (Or.inl ⟨by rfl, ?yc_7⟩) (by assumption) ?qc_7
                                                            case yc_7 => (intro w hSw; (try dsimp only at hSw); go_simp)
                                                            case qc_7 =>
                                                              (try simp only [Act.put]); (try simp only [List.setIfInBounds_toArray])
                                                              refine wpAnyH_take (i := 7) (oi := ⟨some 75, _, _, _, _, _⟩) (v := (.int .i64 p2)) rfl (by kernel_rfl) (by kernel_rfl) (by kernel_rfl) (fun _ _ _ h => h) (Or.inl ⟨by rfl, ?yc_8⟩) (by assumption) ?qc_8
                                                              case yc_8 => (intro w hSw; (try dsimp only at hSw); go_simp)
                                                              case qc_8 =>
                                                                (try simp only [Act.put]); (try simp only [List.setIfInBounds_toArray])
                                                                refine wpAnyH_make (i := 8) (o := ⟨some 76, _, _, _, _, _⟩) (by kernel_rfl) rfl (by simp [Region.wanted, yielded]) 25 #[.int .i64 p2] (.string T1) (R := fun Y => Below Z1.heap.size Z1 Y) (by go_simp) HQ.out (fun Y hY => ⟨hY, HC7.out Y hY⟩) (fun Y hY => ?qcallc)
                                                                case qcallc =>
                                                                  (try simp only [Act.put]); (try simp only [List.setIfInBounds_toArray])
                                                                  have hHeldY : Below Z1.heap.size Z1 Y ∧ Y.cell? ⟨gq, 0, none⟩ = some (.string p1) ∧ Y.cell? ⟨gq, 1, none⟩ = some (.int .i64 p2) := ⟨hY, HC7.out Y hY⟩
                                                                  refine wpAnyH_take (i := 9) (oi := ⟨some 77, _, _, _, _, _⟩) (v := (.string (⟨#[62]⟩ ++ p1 ++ ⟨#[61]⟩ ++ T1))) rfl (by kernel_rfl) (by kernel_rfl) (by kernel_rfl) (fun _ _ _ h => h) (Or.inl ⟨by rfl, ?yc_10⟩) (by assumption) ?qc_10
                                                                  case yc_10 => (intro w hSw; (try dsimp only at hSw); go_simp)
                                                                  case qc_10 =>
                                                                    (try simp only [Act.put]); (try simp only [List.setIfInBounds_toArray])
                                                                    refine wpAnyH_done (by kernel_rfl) ?_ _
                                                                    clear hHeld hHeldY
                                                                    show wpList _ _ _ _ _ _
                                                                    have HYc := Lib.hid hY
                                                                    go_wp2_with (go_at_call 24; refine (HLN7.out _ HYc.out).mono ?_; rintro e Z2 ⟨rfl, hwz⟩; have HW2 := Lib.hid hwz; clear hwz)
                                                                    go_roundw
                                                                    case rel => exact ⟨m + 1, by omega, by go_num, HW2⟩
                                                                    case measure => simp [intOf]; omega
                                            · have HFI : Hid (WrP gp B X (pageV L (nodeL nd k)) wq) := Lib.hid (by have := HWq.out; rw [List.take_of_length_le (by omega)] at this; exact this)
                                              have hmn2 : ¬ (m : Int) < (nr : Int) := by omega
                                              go_wp2_with fail
                                              go_end0
                                              exact ⟨rfl, HFI.out⟩
  · have d1 : (nd.par != 0) = true := by rw [bne_iff_ne]; exact hpar
    have HLN : Hid (lineN nd k = bl (k - 1) ++ (T0 ++ ⟨#[32]⟩ ++ (nd.role ++ ⟨#[32]⟩) ++ nd.con).data.toList ++ [10]) := Lib.hid (by
      unfold lineN
      rw [if_neg hpar, append_list, append_list, append_list, append_list, HT0.out]
      simp)
    clear hpar
    obtain ⟨R, hR⟩ : ∃ R : ByteArray, nd.role ++ (⟨#[32]⟩ : ByteArray) = R := ⟨_, rfl⟩
    rw [hR] at HLN
    have hRs : R.size ≤ 4097 := by rw [← hR, ByteArray.size_append]; have : (⟨#[32]⟩ : ByteArray).size = 1 := rfl; omega
    have z0 : ¬ 9223372036854775807 < nd.role.size + 1 := by omega
    go_enter Tryz.func27, Tryz.ntmps27
    go_upto_region 3 with (fail)
    clear hR c2 c3 d1
    have HLC : Hid (∀ Y, Below X.heap.size X Y → Calls Tryz.prog 24 #[.pointer (some ⟨gp, 0, none⟩), .int .i64 ((k : Int) - 1), .string (T0 ++ ⟨#[32]⟩ ++ R ++ nd.con)] Y fun e Z => e = .returned (.tuple #[]) ∧ WrP gp B X (pageV L [lineN nd k]) Z) := Lib.hid fun Y hY => by
      rw [← ek]
      have := (HW0.out.after hY).call (k - 1) (T0 ++ ⟨#[32]⟩ ++ R ++ nd.con) (by omega) (by simp only [ByteArray.size_append]; have : (⟨#[32]⟩ : ByteArray).size = 1 := rfl; omega)
      rw [← HLN.out] at this
      exact this
    have z1 : ¬ 9223372036854775807 < T0.size + 1 := by omega
    have z2 : ¬ 9223372036854775807 < T0.size + 1 + R.size := by omega
    have z3 : ¬ 9223372036854775807 < T0.size + 1 + R.size + nd.con.size := by omega
    refine wp_region_held_tail 16 (fun Y => Below X.heap.size X Y ∧ Y.cell? ⟨b, o, none⟩ = some (.int .i64 nd.id) ∧ Y.cell? ⟨b, o + 1, none⟩ = some (.string nd.con)) (by kernel_rfl) (by kernel_rfl) ?hSa (fun hHeld => ?qa0)
    case hSa => exact ⟨below_drew1' X, HC3.out _ (below_drew1' X)⟩
    case qa0 =>
      simp only [List.take_succ_cons, List.take_zero, List.drop_succ_cons, List.drop_zero]
      refine wpAnyH_take (i := 0) (oi := ⟨some 21, _, _, _, _, _⟩) (v := (.pointer (some ⟨gp, 0, none⟩))) rfl (by kernel_rfl) (by kernel_rfl) (by kernel_rfl) (fun _ _ _ h => h) (Or.inl ⟨by rfl, ?ya_1⟩) (by assumption) ?qa_1
      case ya_1 => (intro w hSw; (try dsimp only at hSw); go_simp)
      case qa_1 =>
        (try simp only [Act.put]); (try simp only [List.setIfInBounds_toArray])
        refine wpAnyH_take (i := 1) (oi := ⟨some 22, _, _, _, _, _⟩) (v := (.int .i64 (k : Int))) rfl (by kernel_rfl) (by kernel_rfl) (by kernel_rfl) (fun _ _ _ h => h) (Or.inl ⟨by rfl, ?ya_2⟩) (by assumption) ?qa_2
        case ya_2 => (intro w hSw; (try dsimp only at hSw); go_simp)
        case qa_2 =>
          (try simp only [Act.put]); (try simp only [List.setIfInBounds_toArray])
          refine wpAnyH_take (i := 2) (oi := ⟨some 23, _, _, _, _, _⟩) (v := (.int .i64 ((k : Int) - 1))) rfl (by kernel_rfl) (by kernel_rfl) (by kernel_rfl) (fun _ _ _ h => h) (Or.inl ⟨by rfl, ?ya_3⟩) (by assumption) ?qa_3
          case ya_3 => (intro w hSw; (try dsimp only at hSw); go_simp)
          case qa_3 =>
            (try simp only [Act.put]); (try simp only [List.setIfInBounds_toArray])
            refine wpAnyH_take (i := 3) (oi := ⟨some 24, _, _, _, _, _⟩) (v := (.pointer (some ⟨b, o, none⟩))) rfl (by kernel_rfl) (by kernel_rfl) (by kernel_rfl) (fun _ _ _ h => h) (Or.inl ⟨by rfl, ?ya_4⟩) (by assumption) ?qa_4
            case ya_4 => (intro w hSw; (try dsimp only at hSw); go_simp)
            case qa_4 =>
              (try simp only [Act.put]); (try simp only [List.setIfInBounds_toArray])
              refine wpAnyH_take (i := 4) (oi := ⟨some 25, _, _, _, _, _⟩) (v := (.pointer (some ⟨b, o, none⟩))) rfl (by kernel_rfl) (by kernel_rfl) (by kernel_rfl) (fun _ _ _ h => h) (Or.inl ⟨by rfl, ?ya_5⟩) (by assumption) ?qa_5
              case ya_5 => (intro w hSw; (try dsimp only at hSw); go_simp)
              case qa_5 =>
                (try simp only [Act.put]); (try simp only [List.setIfInBounds_toArray])
                refine wpAnyH_take (i := 5) (oi := ⟨some 26, _, _, _, _, _⟩) (v := (.pointer (some ⟨b, o, none⟩))) rfl (by kernel_rfl) (by kernel_rfl) (by kernel_rfl) (fun _ _ _ h => h) (Or.inl ⟨by rfl, ?ya_6⟩) (by assumption) ?qa_6
                case ya_6 => (intro w hSw; (try dsimp only at hSw); go_simp)
                case qa_6 =>
                  (try simp only [Act.put]); (try simp only [List.setIfInBounds_toArray])
                  refine wpAnyH_take (i := 6) (oi := ⟨some 27, _, _, _, _, _⟩) (v := (.int .i64 nd.id)) rfl (by kernel_rfl) (by kernel_rfl) (by kernel_rfl) (fun _ _ _ h => h) (Or.inl ⟨by rfl, ?ya_7⟩) (by assumption) ?qa_7
                  case ya_7 => (intro w hSw; (try dsimp only at hSw); go_simp)
                  case qa_7 =>
                    (try simp only [Act.put]); (try simp only [List.setIfInBounds_toArray])
                    refine wpAnyH_take (i := 9) (oi := ⟨some 30, _, _, _, _, _⟩) (v := (.string R)) rfl (by kernel_rfl) (by kernel_rfl) (by kernel_rfl) (fun _ _ _ h => h) (Or.inl ⟨by rfl, ?ya_10⟩) (by assumption) ?qa_10
                    case ya_10 => (intro w hSw; (try dsimp only at hSw); go_simp)
                    case qa_10 =>
                      (try simp only [Act.put]); (try simp only [List.setIfInBounds_toArray])
                      refine wpAnyH_take (i := 11) (oi := ⟨some 32, _, _, _, _, _⟩) (v := (.pointer (some ⟨b, o, none⟩))) rfl (by kernel_rfl) (by kernel_rfl) (by kernel_rfl) (fun _ _ _ h => h) (Or.inl ⟨by rfl, ?ya_12⟩) (by assumption) ?qa_12
                      case ya_12 => (intro w hSw; (try dsimp only at hSw); go_simp)
                      case qa_12 =>
                        (try simp only [Act.put]); (try simp only [List.setIfInBounds_toArray])
                        refine wpAnyH_take (i := 12) (oi := ⟨some 33, _, _, _, _, _⟩) (v := (.pointer (some ⟨b, o, none⟩))) rfl (by kernel_rfl) (by kernel_rfl) (by kernel_rfl) (fun _ _ _ h => h) (Or.inl ⟨by rfl, ?ya_13⟩) (by assumption) ?qa_13
                        case ya_13 => (intro w hSw; (try dsimp only at hSw); go_simp)
                        case qa_13 =>
                          (try simp only [Act.put]); (try simp only [List.setIfInBounds_toArray])
                          refine wpAnyH_take (i := 13) (oi := ⟨some 34, _, _, _, _, _⟩) (v := (.pointer (some ⟨b, o + 1, none⟩))) rfl (by kernel_rfl) (by kernel_rfl) (by kernel_rfl) (fun _ _ _ h => h) (Or.inl ⟨by rfl, ?ya_14⟩) (by assumption) ?qa_14
                          case ya_14 => (intro w hSw; (try dsimp only at hSw); go_simp)
                          case qa_14 =>
                            (try simp only [Act.put]); (try simp only [List.setIfInBounds_toArray])
                            refine wpAnyH_take (i := 14) (oi := ⟨some 35, _, _, _, _, _⟩) (v := (.string nd.con)) rfl (by kernel_rfl) (by kernel_rfl) (by kernel_rfl) (fun _ _ _ h => h) (Or.inl ⟨by rfl, ?ya_15⟩) (by assumption) ?qa_15
                            case ya_15 => (intro w hSw; (try dsimp only at hSw); go_simp)
                            case qa_15 =>
                              (try simp only [Act.put]); (try simp only [List.setIfInBounds_toArray])
                              refine wpAnyH_make (i := 7) (o := ⟨some 28, _, _, _, _, _⟩) (by kernel_rfl) rfl (by simp [Region.wanted, yielded]) 25 #[.int .i64 nd.id] (.string T0) (R := fun Y => Below X.heap.size X Y) (by go_simp) HSH.out (fun Y hY => ⟨hY, HC3.out Y hY⟩) (fun Y hY => ?qcall)
                              case qcall =>
                                (try simp only [Act.put]); (try simp only [List.setIfInBounds_toArray])
                                have hHeldY : Below X.heap.size X Y ∧ Y.cell? ⟨b, o, none⟩ = some (.int .i64 nd.id) ∧ Y.cell? ⟨b, o + 1, none⟩ = some (.string nd.con) := ⟨hY, HC3.out Y hY⟩
                                refine wpAnyH_take (i := 8) (oi := ⟨some 29, _, _, _, _, _⟩) (v := (.string (T0 ++ ⟨#[32]⟩))) rfl (by kernel_rfl) (by kernel_rfl) (by kernel_rfl) (fun _ _ _ h => h) (Or.inl ⟨by rfl, ?ya_9⟩) (by assumption) ?qa_9
                                case ya_9 => (intro w hSw; (try dsimp only at hSw); go_simp)
                                case qa_9 =>
                                  (try simp only [Act.put]); (try simp only [List.setIfInBounds_toArray])
                                  refine wpAnyH_take (i := 10) (oi := ⟨some 31, _, _, _, _, _⟩) (v := (.string (T0 ++ ⟨#[32]⟩ ++ R))) rfl (by kernel_rfl) (by kernel_rfl) (by kernel_rfl) (fun _ _ _ h => h) (Or.inl ⟨by rfl, ?ya_11⟩) (by assumption) ?qa_11
                                  case ya_11 => (intro w hSw; (try dsimp only at hSw); go_simp)
                                  case qa_11 =>
                                    (try simp only [Act.put]); (try simp only [List.setIfInBounds_toArray])
                                    refine wpAnyH_take (i := 15) (oi := ⟨some 36, _, _, _, _, _⟩) (v := (.string (T0 ++ ⟨#[32]⟩ ++ R ++ nd.con))) rfl (by kernel_rfl) (by kernel_rfl) (by kernel_rfl) (fun _ _ _ h => h) (Or.inl ⟨by rfl, ?ya_16⟩) (by assumption) ?qa_16
                                    case ya_16 => (intro w hSw; (try dsimp only at hSw); go_simp)
                                    case qa_16 =>
                                      (try simp only [Act.put]); (try simp only [List.setIfInBounds_toArray])
                                      refine wpAnyH_done (by kernel_rfl) ?_ _
                                      clear hHeld hHeldY
                                      show wpList _ _ _ _ _ _
                                      have HYc := Lib.hid hY
                                      go_wp2_with (go_at_call 24; refine (HLC.out _ HYc.out).mono ?_; rintro e Z ⟨rfl, hwz⟩; have HWZ := Lib.hid hwz; have c4 := (HCk.out Z hwz.k).1.c4; have c6 := (HCk.out Z hwz.k).1.c6; clear hwz)
                                      go_loopw [43] (fun i wr => ∃ j : Nat, j ≤ np ∧ i = .int .i64 j ∧ Hid (WrP gp B X (pageV L (lineN nd k :: (nd.props.take j).map (lineP · k))) wr)) (fun i _ => np - (intOf i).toNat)
                                      case atStart => exact ⟨0, Nat.zero_le _, rfl, HWZ⟩
                                      case round =>
                                        rename World => wr
                                        obtain ⟨j, hj, rfl, HWr⟩ := hrel
                                        by_cases hjn : j < np
                                        · obtain ⟨p, hp⟩ : ∃ p, nd.props[j]? = some p := ⟨nd.props[j]'(by omega), List.getElem?_eq_getElem _⟩
                                          obtain ⟨bp, op, hAp, _, hbp, hcp⟩ := (HCk.out wr HWr.out.k).2.p.at_ (show 0 < np by omega)
                                          simp only at hAp
                                          subst hAp
                                          have q0 := hcp (j * 2) _ (propCells_get hp).1
                                          have q1 := hcp (j * 2 + 1) _ (propCells_get hp).2
                                          rw [← Nat.add_assoc] at q1
                                          have hps := HOK.out.props p (List.mem_of_getElem? hp)
                                          have HTK : Hid ((nd.props.take (j + 1)).map (lineP · k) = (nd.props.take j).map (lineP · k) ++ [lineP p k]) := Lib.hid (by rw [List.take_add_one, hp]; simp)
                                          obtain ⟨p1, p2⟩ := p
                                          simp only at q0 q1 hps
                                          obtain ⟨T1, hT1, hT1s, hT1e⟩ := quote_text p2 hps.2
                                          have HLP : Hid (lineP (p1, p2) k = bl k ++ (⟨#[46]⟩ ++ p1 ++ ⟨#[61]⟩ ++ T1).data.toList ++ [10]) := Lib.hid (by
                                            unfold lineP
                                            rw [append_list, append_list, append_list, hT1]
                                            simp)
                                          have HZ1 : Hid (WrP gp B X (pageV L (lineN nd k :: (nd.props.take j).map (lineP · k))) (wr.alloc (.cells #[.string p1, .string p2] 60))) := Lib.hid (HWr.out.after ((Below.refl _ _).alloc (Nat.le_refl _) _))
                                          have HB1 : Hid (Blk (wr.alloc (.cells #[.string p1, .string p2] 60)) wr.heap.size 60 #[.string p1, .string p2]) := Lib.hid (Blk.new _ _ _)
                                          have hwB : B ≤ wr.heap.size := by obtain ⟨v, hv⟩ := HWr.out.p; exact hv.sz
                                          have HQS : Hid (∀ Y, Calls Tryz.prog 61 #[.string p2] Y fun e w' => e = .returned (.string T1) ∧ Below Y.heap.size Y w') := Lib.hid fun Y => by rw [← hT1e]; exact quote_call p2 Y hps.2
                                          clear hcp hp hT1 hT1e
                                          go_upto_region 7 with (fail)
                                          generalize wr.alloc (.cells #[.string p1, .string p2] 60) = Z1 at HZ1 HB1 ⊢
                                          have HGQ : Hid (wr.heap.size < Z1.heap.size) := Lib.hid HB1.out.lt
                                          generalize wr.heap.size = gq at HB1 HGQ hwB ⊢
                                          have HC7 : Hid (∀ Y, Below Z1.heap.size Z1 Y → Y.cell? ⟨gq, 0, none⟩ = some (.string p1) ∧ Y.cell? ⟨gq, 1, none⟩ = some (.string p2)) := Lib.hid fun Y hY => ⟨(hY.cell (p := ⟨gq, _, none⟩) HGQ.out).trans ((HB1.out.cell 0).trans rfl), (hY.cell (p := ⟨gq, _, none⟩) HGQ.out).trans ((HB1.out.cell 1).trans rfl)⟩
                                          have HQ : Hid (Calls Tryz.prog 61 #[.string p2] Z1.drew fun e w' => e = .returned (.string T1) ∧ Below Z1.heap.size Z1 w') := Lib.hid ((HQS.out Z1.drew).mono fun e w' he => ⟨he.1, (below_drew1' Z1).trans (he.2.mono (below_drew1' Z1).size)⟩)
                                          have HLN7 : Hid (∀ Y, Below Z1.heap.size Z1 Y → Calls Tryz.prog 24 #[.pointer (some ⟨gp, 0, none⟩), .int .i64 k, .string (⟨#[46]⟩ ++ p1 ++ ⟨#[61]⟩ ++ T1)] Y fun e Z => e = .returned (.tuple #[]) ∧ WrP gp B X (pageV L (lineN nd k :: (nd.props.take (j + 1)).map (lineP · k))) Z) := Lib.hid fun Y hY => by
                                            have := (HZ1.out.after hY).call k (⟨#[46]⟩ ++ p1 ++ ⟨#[61]⟩ ++ T1) hk (by simp only [ByteArray.size_append]; have : (⟨#[46]⟩ : ByteArray).size = 1 := rfl; have : (⟨#[61]⟩ : ByteArray).size = 1 := rfl; omega)
                                            rw [← HLP.out] at this
                                            rw [HTK.out, show lineN nd k :: ((nd.props.take j).map (lineP · k) ++ [lineP (p1, p2) k]) = (lineN nd k :: (nd.props.take j).map (lineP · k)) ++ [lineP (p1, p2) k] from rfl, pageV_append]
                                            exact this
                                          have y1 : ¬ 9223372036854775807 < 1 + p1.size := by omega
                                          have y2 : ¬ 9223372036854775807 < 1 + p1.size + 1 := by omega
                                          have y3 : ¬ 9223372036854775807 < 1 + p1.size + 1 + T1.size := by omega
                                          refine wp_region_held_tail 10 (fun Y => Below Z1.heap.size Z1 Y ∧ Y.cell? ⟨gq, 0, none⟩ = some (.string p1) ∧ Y.cell? ⟨gq, 1, none⟩ = some (.string p2)) (by kernel_rfl) (by kernel_rfl) ?hSb (fun hHeld => ?qb0)
                                          case hSb => exact ⟨below_drew1' Z1, HC7.out _ (below_drew1' Z1)⟩
                                          case qb0 =>
                                            simp only [List.take_succ_cons, List.take_zero, List.drop_succ_cons, List.drop_zero]
                                            refine wpAnyH_take (i := 0) (oi := ⟨some 47, _, _, _, _, _⟩) (v := (.pointer (some ⟨gp, 0, none⟩))) rfl (by kernel_rfl) (by kernel_rfl) (by kernel_rfl) (fun _ _ _ h => h) (Or.inl ⟨by rfl, ?yb_1⟩) (by assumption) ?qb_1
                                            case yb_1 => (intro w hSw; (try dsimp only at hSw); go_simp)
                                            case qb_1 =>
                                              (try simp only [Act.put]); (try simp only [List.setIfInBounds_toArray])
                                              refine wpAnyH_take (i := 1) (oi := ⟨some 48, _, _, _, _, _⟩) (v := (.int .i64 (k : Int))) rfl (by kernel_rfl) (by kernel_rfl) (by kernel_rfl) (fun _ _ _ h => h) (Or.inl ⟨by rfl, ?yb_2⟩) (by assumption) ?qb_2
                                              case yb_2 => (intro w hSw; (try dsimp only at hSw); go_simp)
                                              case qb_2 =>
                                                (try simp only [Act.put]); (try simp only [List.setIfInBounds_toArray])
                                                refine wpAnyH_take (i := 2) (oi := ⟨some 49, _, _, _, _, _⟩) (v := (.pointer (some ⟨gq, 0, none⟩))) rfl (by kernel_rfl) (by kernel_rfl) (by kernel_rfl) (fun _ _ _ h => h) (Or.inl ⟨by rfl, ?yb_3⟩) (by assumption) ?qb_3
                                                case yb_3 => (intro w hSw; (try dsimp only at hSw); go_simp)
                                                case qb_3 =>
                                                  (try simp only [Act.put]); (try simp only [List.setIfInBounds_toArray])
                                                  refine wpAnyH_take (i := 3) (oi := ⟨some 50, _, _, _, _, _⟩) (v := (.string p1)) rfl (by kernel_rfl) (by kernel_rfl) (by kernel_rfl) (fun _ _ _ h => h) (Or.inl ⟨by rfl, ?yb_4⟩) (by assumption) ?qb_4
                                                  case yb_4 => (intro w hSw; (try dsimp only at hSw); go_simp)
                                                  case qb_4 =>
                                                    (try simp only [Act.put]); (try simp only [List.setIfInBounds_toArray])
                                                    refine wpAnyH_take (i := 4) (oi := ⟨some 51, _, _, _, _, _⟩) (v := (.string (⟨#[46]⟩ ++ p1))) rfl (by kernel_rfl) (by kernel_rfl) (by kernel_rfl) (fun _ _ _ h => h) (Or.inl ⟨by rfl, ?yb_5⟩) (by assumption) ?qb_5
                                                    case yb_5 => (intro w hSw; (try dsimp only at hSw); go_simp)
                                                    case qb_5 =>
                                                      (try simp only [Act.put]); (try simp only [List.setIfInBounds_toArray])
                                                      refine wpAnyH_take (i := 5) (oi := ⟨some 52, _, _, _, _, _⟩) (v := (.string (⟨#[46]⟩ ++ p1 ++ ⟨#[61]⟩))) rfl (by kernel_rfl) (by kernel_rfl) (by kernel_rfl) (fun _ _ _ h => h) (Or.inl ⟨by rfl, ?yb_6⟩) (by assumption) ?qb_6
                                                      case yb_6 => (intro w hSw; (try dsimp only at hSw); go_simp)
                                                      case qb_6 =>
                                                        (try simp only [Act.put]); (try simp only [List.setIfInBounds_toArray])
                                                        refine wpAnyH_take (i := 6) (oi := ⟨some 53, _, _, _, _, _⟩) (v := (.pointer (some ⟨gq, 1, none⟩))) rfl (by kernel_rfl) (by kernel_rfl) (by kernel_rfl) (fun _ _ _ h => h) (Or.inl ⟨by rfl, ?yb_7⟩) (by assumption) ?qb_7
                                                        case yb_7 => (intro w hSw; (try dsimp only at hSw); go_simp)
                                                        case qb_7 =>
                                                          (try simp only [Act.put]); (try simp only [List.setIfInBounds_toArray])
                                                          refine wpAnyH_take (i := 7) (oi := ⟨some 54, _, _, _, _, _⟩) (v := (.string p2)) rfl (by kernel_rfl) (by kernel_rfl) (by kernel_rfl) (fun _ _ _ h => h) (Or.inl ⟨by rfl, ?yb_8⟩) (by assumption) ?qb_8
                                                          case yb_8 => (intro w hSw; (try dsimp only at hSw); go_simp)
                                                          case qb_8 =>
                                                            (try simp only [Act.put]); (try simp only [List.setIfInBounds_toArray])
                                                            refine wpAnyH_make (i := 8) (o := ⟨some 55, _, _, _, _, _⟩) (by kernel_rfl) rfl (by simp [Region.wanted, yielded]) 61 #[.string p2] (.string T1) (R := fun Y => Below Z1.heap.size Z1 Y) (by go_simp) HQ.out (fun Y hY => ⟨hY, HC7.out Y hY⟩) (fun Y hY => ?qcallb)
                                                            case qcallb =>
                                                              (try simp only [Act.put]); (try simp only [List.setIfInBounds_toArray])
                                                              have hHeldY : Below Z1.heap.size Z1 Y ∧ Y.cell? ⟨gq, 0, none⟩ = some (.string p1) ∧ Y.cell? ⟨gq, 1, none⟩ = some (.string p2) := ⟨hY, HC7.out Y hY⟩
                                                              refine wpAnyH_take (i := 9) (oi := ⟨some 56, _, _, _, _, _⟩) (v := (.string (⟨#[46]⟩ ++ p1 ++ ⟨#[61]⟩ ++ T1))) rfl (by kernel_rfl) (by kernel_rfl) (by kernel_rfl) (fun _ _ _ h => h) (Or.inl ⟨by rfl, ?yb_10⟩) (by assumption) ?qb_10
                                                              case yb_10 => (intro w hSw; (try dsimp only at hSw); go_simp)
                                                              case qb_10 =>
                                                                (try simp only [Act.put]); (try simp only [List.setIfInBounds_toArray])
                                                                refine wpAnyH_done (by kernel_rfl) ?_ _
                                                                clear hHeld hHeldY
                                                                show wpList _ _ _ _ _ _
                                                                have HYc := Lib.hid hY
                                                                go_wp2_with (go_at_call 24; refine (HLN7.out _ HYc.out).mono ?_; rintro e Z2 ⟨rfl, hwz⟩; have HW2 := Lib.hid hwz; clear hwz)
                                                                go_roundw
                                                                case rel => exact ⟨j + 1, by omega, by go_num, HW2⟩
                                                                case measure => simp [intOf]; omega
                                        · have hjp : (nd.props.take j).map (lineP · k) = nd.props.map (lineP · k) := by rw [List.take_of_length_le (by omega)]
                                          have HWP : Hid (WrP gp B X (pageV L (lineN nd k :: (nd.props.map (lineP · k) ++ (nd.refs.take 0).map (lineR · k)))) wr) := Lib.hid (by have := HWr.out; rw [hjp] at this; rw [List.take_zero, List.map_nil, List.append_nil]; exact this)
                                          have c6 := (HCk.out wr HWr.out.k).1.c6
                                          have hjn2 : ¬ (j : Int) < (np : Int) := by omega
                                          clear hjp
                                          go_wp2_with fail
                                          go_loopw [64] (fun i wr => ∃ j : Nat, j ≤ nr ∧ i = .int .i64 j ∧ Hid (WrP gp B X (pageV L (lineN nd k :: (nd.props.map (lineP · k) ++ (nd.refs.take j).map (lineR · k)))) wr)) (fun i _ => nr - (intOf i).toNat)
                                          case atStart => exact ⟨0, Nat.zero_le _, rfl, HWP⟩
                                          case round =>
                                            clear c6
                                            rename World => wq
                                            obtain ⟨m, hm, rfl, HWq⟩ := hrel
                                            by_cases hmn : m < nr
                                            · obtain ⟨p, hp⟩ : ∃ p, nd.refs[m]? = some p := ⟨nd.refs[m]'(by omega), List.getElem?_eq_getElem _⟩
                                              obtain ⟨br, or_, hAr, _, hbr, hcr⟩ := (HCk.out wq HWq.out.k).2.r.at_ (show 0 < nr by omega)
                                              simp only at hAr
                                              subst hAr
                                              have q0 := hcr (m * 2) _ (refCells_get hp).1
                                              have q1 := hcr (m * 2 + 1) _ (refCells_get hp).2
                                              rw [← Nat.add_assoc] at q1
                                              have hps := HOK.out.refs p (List.mem_of_getElem? hp)
                                              have HTK : Hid ((nd.refs.take (m + 1)).map (lineR · k) = (nd.refs.take m).map (lineR · k) ++ [lineR p k]) := Lib.hid (by rw [List.take_add_one, hp]; simp)
                                              obtain ⟨p1, p2⟩ := p
                                              simp only at q0 q1 hps
                                              obtain ⟨T1, hT1, hT1s, hT1e⟩ := itoa_text p2 hps.2.1 hps.2.2
                                              have HLP : Hid (lineR (p1, p2) k = bl k ++ (⟨#[62]⟩ ++ p1 ++ ⟨#[61]⟩ ++ T1).data.toList ++ [10]) := Lib.hid (by
                                                unfold lineR
                                                rw [append_list, append_list, append_list, hT1]
                                                simp)
                                              have HZ1 : Hid (WrP gp B X (pageV L (lineN nd k :: (nd.props.map (lineP · k) ++ (nd.refs.take m).map (lineR · k)))) (wq.alloc (.cells #[.string p1, .int .i64 p2] 62))) := Lib.hid (HWq.out.after ((Below.refl _ _).alloc (Nat.le_refl _) _))
                                              have HB1 : Hid (Blk (wq.alloc (.cells #[.string p1, .int .i64 p2] 62)) wq.heap.size 62 #[.string p1, .int .i64 p2]) := Lib.hid (Blk.new _ _ _)
                                              have hwB : B ≤ wq.heap.size := by obtain ⟨v, hv⟩ := HWq.out.p; exact hv.sz
                                              have hp20 := hps.2.1
                                              have hp21 := hps.2.2
                                              have HQS : Hid (∀ Y, TabEnv Y → Calls Tryz.prog 25 #[.int .i64 p2] Y fun e w' => e = .returned (.string T1) ∧ Below Y.heap.size Y w') := Lib.hid fun Y hY => (show_s p2 Y hp20 hp21 hY).mono fun e w' he => ⟨by rw [he.1, hT1e], he.2⟩
                                              clear hcr hp hT1 hT1e hp20 hp21
                                              go_upto_region 12 with (fail)
                                              generalize wq.alloc (.cells #[.string p1, .int .i64 p2] 62) = Z1 at HZ1 HB1 ⊢
                                              have HGQ : Hid (wq.heap.size < Z1.heap.size) := Lib.hid HB1.out.lt
                                              generalize wq.heap.size = gq at HB1 HGQ hwB ⊢
                                              have HC7 : Hid (∀ Y, Below Z1.heap.size Z1 Y → Y.cell? ⟨gq, 0, none⟩ = some (.string p1) ∧ Y.cell? ⟨gq, 1, none⟩ = some (.int .i64 p2)) := Lib.hid fun Y hY => ⟨(hY.cell (p := ⟨gq, _, none⟩) HGQ.out).trans ((HB1.out.cell 0).trans rfl), (hY.cell (p := ⟨gq, _, none⟩) HGQ.out).trans ((HB1.out.cell 1).trans rfl)⟩
                                              have HQ : Hid (Calls Tryz.prog 25 #[.int .i64 p2] Z1.drew fun e w' => e = .returned (.string T1) ∧ Below Z1.heap.size Z1 w') := Lib.hid ((HQS.out Z1.drew ((HEk.out Z1 HZ1.out.k).below (below_drew1' Z1))).mono fun e w' he => ⟨he.1, (below_drew1' Z1).trans (he.2.mono (below_drew1' Z1).size)⟩)
                                              have HLN7 : Hid (∀ Y, Below Z1.heap.size Z1 Y → Calls Tryz.prog 24 #[.pointer (some ⟨gp, 0, none⟩), .int .i64 k, .string (⟨#[62]⟩ ++ p1 ++ ⟨#[61]⟩ ++ T1)] Y fun e Z => e = .returned (.tuple #[]) ∧ WrP gp B X (pageV L (lineN nd k :: (nd.props.map (lineP · k) ++ (nd.refs.take (m + 1)).map (lineR · k)))) Z) := Lib.hid fun Y hY => by
                                                have := (HZ1.out.after hY).call k (⟨#[62]⟩ ++ p1 ++ ⟨#[61]⟩ ++ T1) hk (by simp only [ByteArray.size_append]; have : (⟨#[62]⟩ : ByteArray).size = 1 := rfl; have : (⟨#[61]⟩ : ByteArray).size = 1 := rfl; omega)
                                                rw [← HLP.out] at this
                                                rw [HTK.out, ← List.append_assoc, show lineN nd k :: ((nd.props.map (lineP · k) ++ (nd.refs.take m).map (lineR · k)) ++ [lineR (p1, p2) k]) = (lineN nd k :: (nd.props.map (lineP · k) ++ (nd.refs.take m).map (lineR · k))) ++ [lineR (p1, p2) k] from rfl, pageV_append]
                                                exact this
                                              have y1 : ¬ 9223372036854775807 < 1 + p1.size := by omega
                                              have y2 : ¬ 9223372036854775807 < 1 + p1.size + 1 := by omega
                                              have y3 : ¬ 9223372036854775807 < 1 + p1.size + 1 + T1.size := by omega
                                              refine wp_region_held_tail 10 (fun Y => Below Z1.heap.size Z1 Y ∧ Y.cell? ⟨gq, 0, none⟩ = some (.string p1) ∧ Y.cell? ⟨gq, 1, none⟩ = some (.int .i64 p2)) (by kernel_rfl) (by kernel_rfl) ?hSc (fun hHeld => ?qc0)
                                              case hSc => exact ⟨below_drew1' Z1, HC7.out _ (below_drew1' Z1)⟩
                                              case qc0 =>
                                                simp only [List.take_succ_cons, List.take_zero, List.drop_succ_cons, List.drop_zero]
                                                refine wpAnyH_take (i := 0) (oi := ⟨some 68, _, _, _, _, _⟩) (v := (.pointer (some ⟨gp, 0, none⟩))) rfl (by kernel_rfl) (by kernel_rfl) (by kernel_rfl) (fun _ _ _ h => h) (Or.inl ⟨by rfl, ?yc_1⟩) (by assumption) ?qc_1
                                                case yc_1 => (intro w hSw; (try dsimp only at hSw); go_simp)
                                                case qc_1 =>
                                                  (try simp only [Act.put]); (try simp only [List.setIfInBounds_toArray])
                                                  refine wpAnyH_take (i := 1) (oi := ⟨some 69, _, _, _, _, _⟩) (v := (.int .i64 (k : Int))) rfl (by kernel_rfl) (by kernel_rfl) (by kernel_rfl) (fun _ _ _ h => h) (Or.inl ⟨by rfl, ?yc_2⟩) (by assumption) ?qc_2
                                                  case yc_2 => (intro w hSw; (try dsimp only at hSw); go_simp)
                                                  case qc_2 =>
                                                    (try simp only [Act.put]); (try simp only [List.setIfInBounds_toArray])
                                                    refine wpAnyH_take (i := 2) (oi := ⟨some 70, _, _, _, _, _⟩) (v := (.pointer (some ⟨gq, 0, none⟩))) rfl (by kernel_rfl) (by kernel_rfl) (by kernel_rfl) (fun _ _ _ h => h) (Or.inl ⟨by rfl, ?yc_3⟩) (by assumption) ?qc_3
                                                    case yc_3 => (intro w hSw; (try dsimp only at hSw); go_simp)
                                                    case qc_3 =>
                                                      (try simp only [Act.put]); (try simp only [List.setIfInBounds_toArray])
                                                      refine wpAnyH_take (i := 3) (oi := ⟨some 71, _, _, _, _, _⟩) (v := (.string p1)) rfl (by kernel_rfl) (by kernel_rfl) (by kernel_rfl) (fun _ _ _ h => h) (Or.inl ⟨by rfl, ?yc_4⟩) (by assumption) ?qc_4
                                                      case yc_4 => (intro w hSw; (try dsimp only at hSw); go_simp)
                                                      case qc_4 =>
                                                        (try simp only [Act.put]); (try simp only [List.setIfInBounds_toArray])
                                                        refine wpAnyH_take (i := 4) (oi := ⟨some 72, _, _, _, _, _⟩) (v := (.string (⟨#[62]⟩ ++ p1))) rfl (by kernel_rfl) (by kernel_rfl) (by kernel_rfl) (fun _ _ _ h => h) (Or.inl ⟨by rfl, ?yc_5⟩) (by assumption) ?qc_5
                                                        case yc_5 => (intro w hSw; (try dsimp only at hSw); go_simp)
                                                        case qc_5 =>
                                                          (try simp only [Act.put]); (try simp only [List.setIfInBounds_toArray])
                                                          refine wpAnyH_take (i := 5) (oi := ⟨some 73, _, _, _, _, _⟩) (v := (.string (⟨#[62]⟩ ++ p1 ++ ⟨#[61]⟩))) rfl (by kernel_rfl) (by kernel_rfl) (by kernel_rfl) (fun _ _ _ h => h) (Or.inl ⟨by rfl, ?yc_6⟩) (by assumption) ?qc_6
                                                          case yc_6 => (intro w hSw; (try dsimp only at hSw); go_simp)
                                                          case qc_6 =>
                                                            (try simp only [Act.put]); (try simp only [List.setIfInBounds_toArray])
                                                            refine wpAnyH_take (i := 6) (oi := ⟨some 74, _, _, _, _, _⟩) (v := (.pointer (some ⟨gq, 1, none⟩))) rfl (by kernel_rfl) (by kernel_rfl) (by kernel_rfl) (fun _ _ _ h => h) (Or.inl ⟨by rfl, ?yc_7⟩) (by assumption) ?qc_7
                                                            case yc_7 => (intro w hSw; (try dsimp only at hSw); go_simp)
                                                            case qc_7 =>
                                                              (try simp only [Act.put]); (try simp only [List.setIfInBounds_toArray])
                                                              refine wpAnyH_take (i := 7) (oi := ⟨some 75, _, _, _, _, _⟩) (v := (.int .i64 p2)) rfl (by kernel_rfl) (by kernel_rfl) (by kernel_rfl) (fun _ _ _ h => h) (Or.inl ⟨by rfl, ?yc_8⟩) (by assumption) ?qc_8
                                                              case yc_8 => (intro w hSw; (try dsimp only at hSw); go_simp)
                                                              case qc_8 =>
                                                                (try simp only [Act.put]); (try simp only [List.setIfInBounds_toArray])
                                                                refine wpAnyH_make (i := 8) (o := ⟨some 76, _, _, _, _, _⟩) (by kernel_rfl) rfl (by simp [Region.wanted, yielded]) 25 #[.int .i64 p2] (.string T1) (R := fun Y => Below Z1.heap.size Z1 Y) (by go_simp) HQ.out (fun Y hY => ⟨hY, HC7.out Y hY⟩) (fun Y hY => ?qcallc)
                                                                case qcallc =>
                                                                  (try simp only [Act.put]); (try simp only [List.setIfInBounds_toArray])
                                                                  have hHeldY : Below Z1.heap.size Z1 Y ∧ Y.cell? ⟨gq, 0, none⟩ = some (.string p1) ∧ Y.cell? ⟨gq, 1, none⟩ = some (.int .i64 p2) := ⟨hY, HC7.out Y hY⟩
                                                                  refine wpAnyH_take (i := 9) (oi := ⟨some 77, _, _, _, _, _⟩) (v := (.string (⟨#[62]⟩ ++ p1 ++ ⟨#[61]⟩ ++ T1))) rfl (by kernel_rfl) (by kernel_rfl) (by kernel_rfl) (fun _ _ _ h => h) (Or.inl ⟨by rfl, ?yc_10⟩) (by assumption) ?qc_10
                                                                  case yc_10 => (intro w hSw; (try dsimp only at hSw); go_simp)
                                                                  case qc_10 =>
                                                                    (try simp only [Act.put]); (try simp only [List.setIfInBounds_toArray])
                                                                    refine wpAnyH_done (by kernel_rfl) ?_ _
                                                                    clear hHeld hHeldY
                                                                    show wpList _ _ _ _ _ _
                                                                    have HYc := Lib.hid hY
                                                                    go_wp2_with (go_at_call 24; refine (HLN7.out _ HYc.out).mono ?_; rintro e Z2 ⟨rfl, hwz⟩; have HW2 := Lib.hid hwz; clear hwz)
                                                                    go_roundw
                                                                    case rel => exact ⟨m + 1, by omega, by go_num, HW2⟩
                                                                    case measure => simp [intOf]; omega
                                            · have HFI : Hid (WrP gp B X (pageV L (nodeL nd k)) wq) := Lib.hid (by have := HWq.out; rw [List.take_of_length_le (by omega)] at this; exact this)
                                              have hmn2 : ¬ (m : Int) < (nr : Int) := by omega
                                              go_wp2_with fail
                                              go_end0
                                              exact ⟨rfl, HFI.out⟩
end Go.Proofs.YtjjlofaejpnnnaaGreatDoor

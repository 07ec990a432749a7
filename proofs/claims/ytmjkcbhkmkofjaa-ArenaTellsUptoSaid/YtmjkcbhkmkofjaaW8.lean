/-
  WALKS: joined of the program.
-/
import Derived.Test.YtmjkcbhkmkofjaaW7
import Derived.Deep.OwnRows
namespace Go.Proofs.Ytmjkcbhkmkofjaa
open Go Go.RowKit Go.Sort
set_option linter.unusedVariables false

theorem intInfo : (Try.prog.info? 3).map (fun i => (i.zero, i.size, i.bytes)) = some (some (.int .i64 0), 1, 8) := by kernel_rfl
theorem made_ints (n : Nat) : madeCells #[.int .i64 0] n = (intCells (List.replicate n 0)).toArray := by
  apply Array.ext_getElem?
  intro i
  by_cases hi : i < n
  · simp [madeCells, intCells, hi, Nat.mod_one]
  · simp [madeCells, intCells, hi]
theorem make_ints (n : Nat) (hn : n ≤ 35184372088832) (w : World) :
    (Instr.makeSlice 48 (.int .i64 (n : Int)) (.int .i64 (n : Int))).run Try.prog w = .ok (.slice (some ⟨w.heap.size, 0, none⟩) n n) (w.alloc (.cells (intCells (List.replicate n 0)).toArray 3)) := by
  rw [← made_ints]
  exact run_make_row' (P := Try.prog) 48 3 (.int .i64 0) 8 Try.underlying48 intInfo rfl .i64 .i64 n (by omega) (by omega) w

def fillL (n k : Nat) : List Int := List.replicate k (-1) ++ List.replicate (n - k) 0
theorem fillL_len {n k : Nat} (h : k ≤ n) : (fillL n k).length = n := by simp [fillL]; omega
theorem fillL_set {n k : Nat} (h : k < n) : (fillL n k).set k (-1) = fillL n (k + 1) := by
  unfold fillL
  rw [List.set_append_right _ _ (by simp)]
  simp only [List.length_replicate, Nat.sub_self]
  rw [show n - k = (n - (k + 1)) + 1 from by omega, List.replicate_succ, List.set_cons_zero, List.replicate_succ', List.append_assoc]
  rfl
theorem fillL_end (n : Nat) : fillL n n = List.replicate n (-1) := by simp [fillL]
theorem fillL_start (n : Nat) : fillL n 0 = List.replicate n 0 := by simp [fillL]

theorem Below.setCell' {B : Nat} {a w : World} (h : Below B a w) {g i : Nat} (hp : B ≤ g) (u : Value) : Below B a (w.setCell ⟨g, i, none⟩ u) := h.setCell (p := ⟨g, i, none⟩) hp u

/-- what the program's joined answers -/
def Joined (w : World) (n : Nat) (r : Option (List Int)) (e : Ending) (w' : World) : Prop :=
  Below w.heap.size w w' ∧
  match r with
  | none => e = .returned (.tuple #[.slice none 0 0, .bool false])
  | some a => ∃ g, e = .returned (.tuple #[.slice (some ⟨g, 0, none⟩) n n, .bool true]) ∧ IBlk w' g a ∧ a.length = n ∧ w.heap.size ≤ g
theorem joined_no {w w' : World} {n : Nat} {r : Option (List Int)} {v : Value} (h : r = none) (hv : v = .tuple #[.slice none 0 0, .bool false]) (hb : Below w.heap.size w w') : Joined w n r (.returned v) w' := by
  subst h; exact ⟨hb, by rw [hv]⟩
theorem joined_yes {w w' : World} {n : Nat} {r : Option (List Int)} {v : Value} {a : List Int} {g : Nat} (h : r = some a) (hv : v = .tuple #[.slice (some ⟨g, 0, none⟩) n n, .bool true]) (hb : Below w.heap.size w w') (hi : IBlk w' g a) (hl : a.length = n) (hg : w.heap.size ≤ g) : Joined w n r (.returned v) w' := by
  subst h; exact ⟨hb, g, by rw [hv], hi, hl, hg⟩

/-- what holds in the loops: the box of the model, the numbers, nothing old has turned -/
structure JW (w : World) (next : Int) (A : Option Addr) (n c : Nat) (a : List Int) (wr : World) : Prop where
  md : Blk wr w.heap.size 24 #[.int .i64 next, .slice A n c]
  ab : IBlk wr (w.heap.size + 1) a
  bel : Below w.heap.size w wr
  len : a.length = n
section
variable {w wr w' : World} {next : Int} {A : Option Addr} {n c : Nat} {a : List Int}
theorem JW.c0 (h : JW w next A n c a wr) : wr.cell? ⟨w.heap.size, 0, none⟩ = some (.int .i64 next) := h.md.cell 0
theorem JW.c1 (h : JW w next A n c a wr) : wr.cell? ⟨w.heap.size, 1, none⟩ = some (.slice A n c) := h.md.cell 1
theorem JW.set_ (h : JW w next A n c a wr) (i : Nat) (x : Int) : JW w next A n c (a.set i x) (wr.setCell ⟨w.heap.size + 1, i, none⟩ (.int .i64 x)) :=
  ⟨h.md.far (p := ⟨_, _, none⟩) (by simp) _, h.ab.set_ i x, Below.setCell' h.bel (by omega) _, by rw [List.length_set]; exact h.len⟩
theorem JW.after (h : JW w next A n c a wr) (hb : Below wr.heap.size wr w') : JW w next A n c a w' :=
  ⟨h.md.after hb, h.ab.after hb, h.bel.trans (hb.mono h.bel.size), h.len⟩
theorem JW.drewN (h : JW w next A n c a wr) (q : Nat) : JW w next A n c a (wr.drewN q) := ⟨h.md, h.ab, below_drewN h.bel q, h.len⟩
end

set_option maxHeartbeats 3200000 in
theorem joined_any (w : World) (hi : Nat) (next : Int) (A : Option Addr) (n c : Nat) (nds : List Nd) (h : NodesIn w 0 hi A n c nds) (hh : hi ≤ w.heap.size) (hr : Rise nds) (hn : n ≤ 4096) :
    Calls Try.prog 92 #[.agg #[.int .i64 next, .slice A n c]] w (Joined w n (joinS nds)) := by
  have hc := h.2.2.1
  have hnc := h.2.1
  have HL := Lib.hid h.1
  unfold maxLen at hc
  have hmk := make_ints n (by omega)
  have J0 : JW w next A n c (List.replicate n 0) ((w.alloc (.cells #[.int .i64 next, .slice A n c] 24)).alloc (.cells (intCells (List.replicate n 0)).toArray 3)) :=
    ⟨(Blk.new _ _ _).alloc _, Blk.new' (by simp), (below_box _ _).alloc (by simp) _, by simp⟩
  have HJ0 := Lib.hid J0
  clear J0
  go_enter Try.func92, Try.ntmps92
  go_wp2_with fail
  clear hmk
  generalize ((w.alloc (.cells #[.int .i64 next, .slice A n c] 24)).alloc (.cells (intCells (List.replicate n 0)).toArray 3)) = W1 at HJ0 ⊢
  go_loopw [18] (fun i wr => ∃ k : Nat, k ≤ n ∧ i = .int .i64 k ∧ JW w next A n c (fillL n k) wr) (fun i _ => n - (intOf i).toNat)
  case atStart => exact ⟨0, by omega, rfl, by rw [fillL_start]; exact HJ0.out⟩
  case round =>
    obtain ⟨k, hk, rfl, J⟩ := hrel
    by_cases hlt : k < n
    · have hck := J.ab.cell (i := k) (by rw [fillL_len hk]; exact hlt)
      have hfk := Blk.frozen J.ab k
      have HJ := Lib.hid (J.set_ k (-1))
      rw [fillL_set hlt] at HJ
      clear J
      go_wp2_with fail
      go_roundw
      case rel => exact ⟨k + 1, by omega, by go_num, HJ.out⟩
      case measure => simp [intOf]; omega
    · have e : k = n := by omega
      rw [e, fillL_end] at J
      have c0 := J.c0
      have c1 := J.c1
      have HJ := Lib.hid J
      clear J e
      go_wp2_with fail
      clear c0 c1
      go_loopw [28] (fun i wo => ∃ (k : Nat) (a : List Int), k ≤ n ∧ i = .int .i64 k ∧ JW w next A n c a wo ∧ Hid (joinN nds 0 (List.replicate n (-1)) nds = joinN nds k a (nds.drop k))) (fun i _ => n - (intOf i).toNat)
      case atStart => exact ⟨0, _, by omega, rfl, HJ.out, Lib.hid rfl⟩
      case round =>
        clear HJ
        obtain ⟨k, a, hk, rfl, J, HK⟩ := hrel
        have c0 := J.c0
        have c1 := J.c1
        have HJ := Lib.hid J
        by_cases hlt : k < n
        · obtain ⟨b, o, rfl, _, hb, V, hV⟩ := h.all (by omega)
          have hbw : b < w.heap.size := Nat.lt_of_lt_of_le hb hh
          have hbel := J.bel
          obtain ⟨nd, hnd⟩ : ∃ nd, nds[k]? = some nd := ⟨nds[k]'(by have := HL.out; omega), List.getElem?_eq_getElem _⟩
          have hd : nds.drop k = nd :: nds.drop (k + 1) := by
            obtain ⟨hl', rfl⟩ := List.getElem?_eq_some_iff.1 hnd
            exact List.drop_eq_getElem_cons hl'
          obtain ⟨hat, hlf⟩ := hV k nd hnd
          obtain ⟨Ak, nk, ck, eL⟩ : ∃ Ak nk ck, (V k).k = ⟨Ak, nk, ck⟩ := ⟨_, _, _, rfl⟩
          have hkr := hlf.k
          have hkn := hlf.kn
          have hk5 := (hat.below hbel hbw).c5
          rw [eL] at hkr hkn hk5
          simp only at hkr hkn hk5
          have HKN := Lib.hid hkn
          have HAT := Lib.hid hat
          have hck := hkr.2.2.1
          have hnck := hkr.2.1
          unfold maxLen at hck
          have HX : Hid (joinN nds 0 (List.replicate n (-1)) nds = match joinK nds k nd.id a (nd.kids.drop 0) with | none => none | some a' => joinN nds (k + 1) a' (nds.drop (k + 1))) := Lib.hid (by rw [HK.out, hd]; rfl)
          have HV := Lib.hid hV
          have HND := Lib.hid hnd
          have HBL := Lib.hid hbel
          clear hkn hat hlf eL hd HK J hV hnd hbel
          go_wp2_with fail
          obtain ⟨wo, rfl⟩ : ∃ wo : World, wo = wr := ⟨_, rfl⟩
          clear c0 c1 hk5
          go_loopw [38] (fun i wr => ∃ (j : Nat) (a' : List Int), j ≤ nk ∧ i = .int .i64 j ∧ JW w next (some ⟨b, o, none⟩) n c a' wr ∧ Hid (joinN nds 0 (List.replicate n (-1)) nds = match joinK nds k nd.id a' (nd.kids.drop j) with | none => none | some a'' => joinN nds (k + 1) a'' (nds.drop (k + 1)))) (fun i _ => nk - (intOf i).toNat)
          case atStart => exact ⟨0, a, by omega, rfl, HJ.out, HX⟩
          case round =>
            clear HX HJ HBL
            obtain ⟨j, a', hj, rfl, J, HK⟩ := hrel
            have c0 := J.c0
            have c1 := J.c1
            by_cases hjl : j < nk
            · obtain ⟨b', o', rfl, _, hb', hcells⟩ := (hkr.below (J.bel.mono hh)).at_ (by omega)
              obtain ⟨kid, hkid⟩ : ∃ kid, nd.kids[j]? = some kid := ⟨nd.kids[j]'(by have := HKN.out; omega), List.getElem?_eq_getElem _⟩
              have hkc := hcells j _ (intCells_get hkid)
              have hkd : nd.kids.drop j = kid :: nd.kids.drop (j + 1) := by
                obtain ⟨hl', rfl⟩ := List.getElem?_eq_some_iff.1 hkid
                exact List.drop_eq_getElem_cons hl'
              have hix := index_any wr hi next kid (some ⟨b, o, none⟩) n c nds (h.below (J.bel.mono hh)) (by have := J.bel.size; omega) hr hn
              cases hx : ixOf nds kid with
              | none =>
                have HZ : Hid (joinS nds = none) := Lib.hid (by
                  unfold joinS
                  rw [HL.out, HK.out, hkd, joinK, hx])
                have hv : ixV nds kid = .tuple #[.int .i64 (rank nds kid), .bool false] := by unfold ixV; rw [hx]; rfl
                rw [hv] at hix
                have HIX := Lib.hid hix
                have HJ := Lib.hid J
                clear hkid hkd hcells hix hx hv J HK
                go_wp2_with (go_at_call 95; refine HIX.out.mono ?_; rintro e w2 ⟨rfl, hb2⟩; obtain ⟨q1, q2⟩ := bcell hb2)
                go_quiet (fail)
                go_wp2_with fail
                go_ret2
                exact joined_no HZ.out rfl (below_drewN (HJ.out.after hb2).bel _)
              | some jx =>
                have hjx := ixOf_lt hx
                rw [HL.out] at hjx
                obtain ⟨kd, hkd', hkid'⟩ := ixOf_some hx
                have hv : ixV nds kid = .tuple #[.int .i64 jx, .bool true] := by unfold ixV; rw [hx, rank_ix hr hx]; rfl
                rw [hv] at hix
                have HIX := Lib.hid hix
                have hp := ((HV.out jx kd hkd').1.below J.bel hbw).c2
                have hi0 := (HAT.out.below J.bel hbw).c0
                have hac := J.ab.cell (i := jx) (by rw [J.len]; exact hjx)
                have haf := Blk.frozen J.ab jx
                have hg1 := J.ab.lt
                have hbr : b < wr.heap.size := by have := J.bel.size; omega
                have hg0 : w.heap.size < wr.heap.size := by omega
                have HS : Hid (joinN nds 0 (List.replicate n (-1)) nds = match (if kd.par = nd.id ∧ a'.getD jx 0 = -1 then joinK nds k nd.id (a'.set jx k) (nd.kids.drop (j + 1)) else none) with | none => none | some a'' => joinN nds (k + 1) a'' (nds.drop (k + 1))) := Lib.hid (by
                  rw [HK.out, hkd, joinK, hx]; simp only [hkd'])
                have HJ := Lib.hid J
                obtain ⟨av, hav⟩ : ∃ av, a'.getD jx 0 = av := ⟨_, rfl⟩
                rw [hav] at hac HS
                clear hkid hkd hcells hix hx hv J HK hkd' hkid' hav
                by_cases e1 : kd.par = nd.id
                · have d1 : (kd.par != nd.id) = false := by rw [bne_eq_false_iff_eq]; exact e1
                  by_cases e2 : av = -1
                  · have d2 : (av != -1) = false := by rw [bne_eq_false_iff_eq]; exact e2
                    have HZ : Hid (joinN nds 0 (List.replicate n (-1)) nds = match joinK nds k nd.id (a'.set jx k) (nd.kids.drop (j + 1)) with | none => none | some a'' => joinN nds (k + 1) a'' (nds.drop (k + 1))) := Lib.hid (by rw [HS.out, if_pos ⟨e1, e2⟩])
                    clear e1 e2 HS
                    go_wp2_with (go_at_call 95; refine HIX.out.mono ?_; rintro e w2 ⟨rfl, hb2⟩; obtain ⟨q1, q2⟩ := bcell hb2)
                    go_quiet (fail)
                    go_wp2_with fail
                    go_roundw
                    case rel => exact ⟨j + 1, _, by omega, by go_num, ((HJ.out.after hb2).set_ jx k).drewN _, HZ⟩
                    case measure => simp [intOf]; omega
                  · have d2 : (av != -1) = true := by rw [bne_iff_ne]; exact e2
                    have HZ : Hid (joinS nds = none) := Lib.hid (by unfold joinS; rw [HL.out, HS.out, if_neg (fun h => e2 h.2)])
                    clear e1 e2 HS
                    go_wp2_with (go_at_call 95; refine HIX.out.mono ?_; rintro e w2 ⟨rfl, hb2⟩; obtain ⟨q1, q2⟩ := bcell hb2)
                    go_quiet (fail)
                    go_wp2_with fail
                    go_ret2
                    exact joined_no HZ.out rfl (below_drewN (HJ.out.after hb2).bel _)
                · have d1 : (kd.par != nd.id) = true := by rw [bne_iff_ne]; exact e1
                  have HZ : Hid (joinS nds = none) := Lib.hid (by unfold joinS; rw [HL.out, HS.out, if_neg (fun h => e1 h.1)])
                  clear e1 HS
                  go_wp2_with (go_at_call 95; refine HIX.out.mono ?_; rintro e w2 ⟨rfl, hb2⟩; obtain ⟨q1, q2⟩ := bcell hb2)
                  go_quiet (fail)
                  go_wp2_with fail
                  go_ret2
                  exact joined_no HZ.out rfl (below_drewN (HJ.out.after hb2).bel _)
            · have HZ : Hid (joinN nds 0 (List.replicate n (-1)) nds = joinN nds (k + 1) a' (nds.drop (k + 1))) := Lib.hid (by rw [HK.out, List.drop_eq_nil_of_le (by have := HKN.out; omega)]; rfl)
              have HJ := Lib.hid J
              clear J HK
              go_wp2_with fail
              go_roundw
              case rel => exact ⟨k + 1, a', by omega, by go_num, HJ.out, HZ⟩
              case measure => simp [intOf]; omega
        · have HX : Hid (joinN nds 0 (List.replicate n (-1)) nds = some a) := Lib.hid (by rw [HK.out, List.drop_eq_nil_of_le (by rw [HL.out]; omega)]; rfl)
          have HS : Hid (joinS nds = if looseB a nds then none else some a) := Lib.hid (by unfold joinS; rw [HL.out, HX.out])
          clear HK J HX
          go_wp2_with fail
          go_loop [81] (fun i => ∃ m : Nat, m ≤ n ∧ i = .int .i64 m ∧ Hid (looseB a nds = looseB (a.drop m) (nds.drop m))) (fun i => n - (intOf i).toNat)
          case atStart => exact ⟨0, by omega, rfl, Lib.hid rfl⟩
          case round =>
            obtain ⟨m, hm, rfl, HM⟩ := hrel
            by_cases hml : m < n
            · obtain ⟨b, o, rfl, _, hb, V, hV⟩ := h.all (by omega)
              have hbw : b < w.heap.size := Nat.lt_of_lt_of_le hb hh
              obtain ⟨nd, hnd⟩ : ∃ nd, nds[m]? = some nd := ⟨nds[m]'(by have := HL.out; omega), List.getElem?_eq_getElem _⟩
              have hp := ((hV m nd hnd).1.below HJ.out.bel hbw).c2
              have hac := HJ.out.ab.cell (i := m) (by rw [HJ.out.len]; exact hml)
              have hd : nds.drop m = nd :: nds.drop (m + 1) := by
                obtain ⟨hl', rfl⟩ := List.getElem?_eq_some_iff.1 hnd
                exact List.drop_eq_getElem_cons hl'
              obtain ⟨av, hav⟩ : ∃ av, a.getD m 0 = av := ⟨_, rfl⟩
              have had : a.drop m = av :: a.drop (m + 1) := by
                have hl' : m < a.length := by rw [HJ.out.len]; exact hml
                rw [List.drop_eq_getElem_cons hl', ← hav, List.getD_eq_getElem?_getD, List.getElem?_eq_getElem hl']
                rfl
              have HY : Hid (looseB a nds = ((av == -1 && nd.par != 0) || looseB (a.drop (m + 1)) (nds.drop (m + 1)))) := Lib.hid (by rw [HM.out, hd, had]; rfl)
              rw [hav] at hac
              clear hav had hd hnd hV HM
              by_cases e1 : av = -1
              · have d1 : (av == -1) = true := by rw [beq_iff_eq]; exact e1
                by_cases e2 : nd.par = 0
                · have d2 : (nd.par != 0) = false := by rw [bne_eq_false_iff_eq]; exact e2
                  have HZ : Hid (looseB a nds = looseB (a.drop (m + 1)) (nds.drop (m + 1))) := Lib.hid (by rw [HY.out, d2]; simp)
                  clear e1 e2 HY
                  go_wp2_with fail
                  go_round
                  case rel => exact ⟨m + 1, by omega, by go_num, HZ⟩
                  case measure => simp [intOf]; omega
                · have d2 : (nd.par != 0) = true := by rw [bne_iff_ne]; exact e2
                  have HZ : Hid (joinS nds = none) := Lib.hid (by rw [HS.out, HY.out, d1, d2]; rfl)
                  clear e1 e2 HY
                  go_wp2_with fail
                  go_ret2
                  exact joined_no HZ.out rfl HJ.out.bel
              · have d1 : (av == -1) = false := by rw [beq_eq_false_iff_ne]; exact e1
                have HZ : Hid (looseB a nds = looseB (a.drop (m + 1)) (nds.drop (m + 1))) := Lib.hid (by rw [HY.out, d1]; simp)
                clear e1 HY
                go_wp2_with fail
                go_round
                case rel => exact ⟨m + 1, by omega, by go_num, HZ⟩
                case measure => simp [intOf]; omega
            · have HZ : Hid (joinS nds = some a) := Lib.hid (by
                have e : looseB a nds = false := by
                  have hl' := HJ.out.len
                  have ha : a.drop m = [] := List.drop_eq_nil_of_le (by omega)
                  rw [HM.out, ha]
                  rfl
                rw [HS.out, e]; rfl)
              clear HM
              go_wp2_with fail
              go_ret2
              exact joined_yes HZ.out rfl HJ.out.bel HJ.out.ab HJ.out.len (by omega)
end Go.Proofs.Ytmjkcbhkmkofjaa

/-
  WALKS: joined of the program.
  PLAIN VALUES: depths, counted up a way and written down. No program stands in it.
  WALKS: count, rooted of the program.
-/
import Derived.Test.YtjjlofaejpnnnaaGreatDoorZO4
import Derived.Deep.OwnRows
import Derived.Deep.LoopGhost
namespace Go.Proofs.YtjjlofaejpnnnaaGreatDoor
open Go Go.RowKit Go.Sort
set_option linter.unusedVariables false
theorem intInfo : (Tryz.prog.info? 3).map (fun i => (i.zero, i.size, i.bytes)) = some (some (.int .i64 0), 1, 8) := by kernel_rfl
theorem made_ints (n : Nat) : madeCells #[.int .i64 0] n = (intCells (List.replicate n 0)).toArray := by
  apply Array.ext_getElem?
  intro i
  by_cases hi : i < n
  · simp [madeCells, intCells, hi, Nat.mod_one]
  · simp [madeCells, intCells, hi]
theorem make_ints (n : Nat) (hn : n ≤ 35184372088832) (w : World) :
    (Instr.makeSlice 40 (.int .i64 (n : Int)) (.int .i64 (n : Int))).run Tryz.prog w = .ok (.slice (some ⟨w.heap.size, 0, none⟩) n n) (w.alloc (.cells (intCells (List.replicate n 0)).toArray 3)) := by
  rw [← made_ints]
  exact run_make_row' (P := Tryz.prog) 40 3 (.int .i64 0) 8 Tryz.underlying40 intInfo rfl .i64 .i64 n (by omega) (by omega) w
def fillL (n k : Nat) : List Int := List.replicate k (-1) ++ List.replicate (n - k) 0
theorem fillL_len {n k : Nat} (h : k ≤ n) : (fillL n k).length = n := by simp [fillL]; omega
theorem fillL_set {n k : Nat} (h : k < n) : (fillL n k).set k (-1) = fillL n (k + 1) := by
  unfold fillL
  rw [List.set_append_right _ _ (by simp)]
  simp only [List.length_replicate, Nat.sub_self]
  rw [show n - k = (n - (k + 1)) + 1 from by omega, List.replicate_succ, List.set_cons_zero, List.replicate_succ', List.append_assoc]
  rfl
theorem fillL_end (n : Nat) : fillL n n = List.replicate n (-1) := by simp [fillL]
theorem fillL_start (n : Nat) : fillL n 0 = List.replicate n 0 := by simp [fillL]
theorem Below.setCell' {B : Nat} {a w : World} (h : Below B a w) {g i : Nat} (hp : B ≤ g) (u : Value) : Below B a (w.setCell ⟨g, i, none⟩ u) := h.setCell (p := ⟨g, i, none⟩) hp u
/-- what the program's joined answers -/
def Joined (w : World) (n : Nat) (r : Option (List Int)) (e : Ending) (w' : World) : Prop :=
  Below w.heap.size w w' ∧
  match r with
  | none => e = .returned (.tuple #[.slice none 0 0, .bool false])
  | some a => ∃ g, e = .returned (.tuple #[.slice (some ⟨g, 0, none⟩) n n, .bool true]) ∧ IBlk w' g a ∧ a.length = n ∧ w.heap.size ≤ g
theorem joined_no {w w' : World} {n : Nat} {r : Option (List Int)} {v : Value} (h : r = none) (hv : v = .tuple #[.slice none 0 0, .bool false]) (hb : Below w.heap.size w w') : Joined w n r (.returned v) w' := by
  subst h; exact ⟨hb, by rw [hv]⟩
theorem joined_yes {w w' : World} {n : Nat} {r : Option (List Int)} {v : Value} {a : List Int} {g : Nat} (h : r = some a) (hv : v = .tuple #[.slice (some ⟨g, 0, none⟩) n n, .bool true]) (hb : Below w.heap.size w w') (hi : IBlk w' g a) (hl : a.length = n) (hg : w.heap.size ≤ g) : Joined w n r (.returned v) w' := by
  subst h; exact ⟨hb, g, by rw [hv], hi, hl, hg⟩
/-- what holds in the loops: the box of the model, the numbers, nothing old has turned -/
structure JW (w : World) (next : Int) (A : Option Addr) (n c : Nat) (a : List Int) (wr : World) : Prop where
  md : Blk wr w.heap.size 25 #[.int .i64 next, .slice A n c]
  ab : IBlk wr (w.heap.size + 1) a
  bel : Below w.heap.size w wr
  len : a.length = n
section
variable {w wr w' : World} {next : Int} {A : Option Addr} {n c : Nat} {a : List Int}
theorem JW.c0 (h : JW w next A n c a wr) : wr.cell? ⟨w.heap.size, 0, none⟩ = some (.int .i64 next) := h.md.cell 0
theorem JW.c1 (h : JW w next A n c a wr) : wr.cell? ⟨w.heap.size, 1, none⟩ = some (.slice A n c) := h.md.cell 1
theorem JW.set_ (h : JW w next A n c a wr) (i : Nat) (x : Int) : JW w next A n c (a.set i x) (wr.setCell ⟨w.heap.size + 1, i, none⟩ (.int .i64 x)) :=
  ⟨h.md.far (p := ⟨_, _, none⟩) (by simp) _, h.ab.set_ i x, Below.setCell' h.bel (by omega) _, by rw [List.length_set]; exact h.len⟩
theorem JW.after (h : JW w next A n c a wr) (hb : Below wr.heap.size wr w') : JW w next A n c a w' :=
  ⟨h.md.after hb, h.ab.after hb, h.bel.trans (hb.mono h.bel.size), h.len⟩
theorem JW.drewN (h : JW w next A n c a wr) (q : Nat) : JW w next A n c a (wr.drewN q) := ⟨h.md, h.ab, below_drewN h.bel q, h.len⟩
end
set_option maxHeartbeats 3200000 in
theorem joined_any (w : World) (hi : Nat) (next : Int) (A : Option Addr) (n c : Nat) (nds : List Nd) (h : NodesIn w 0 hi A n c nds) (hh : hi ≤ w.heap.size) (hr : Rise nds) (hn : n ≤ 4096) :
    Calls Tryz.prog 32 #[.agg #[.int .i64 next, .slice A n c]] w (Joined w n (joinS nds)) := by
  have hc := h.2.2.1
  have hnc := h.2.1
  have HL := Lib.hid h.1
  unfold maxLen at hc
  have hmk := make_ints n (by omega)
  have J0 : JW w next A n c (List.replicate n 0) ((w.alloc (.cells #[.int .i64 next, .slice A n c] 25)).alloc (.cells (intCells (List.replicate n 0)).toArray 3)) :=
    ⟨(Blk.new _ _ _).alloc _, Blk.new' (by simp), (below_box _ _).alloc (by simp) _, by simp⟩
  have HJ0 := Lib.hid J0
  clear J0
  go_enter Tryz.func32, Tryz.ntmps32
  go_wp2_with fail
  clear hmk
  generalize ((w.alloc (.cells #[.int .i64 next, .slice A n c] 25)).alloc (.cells (intCells (List.replicate n 0)).toArray 3)) = W1 at HJ0 ⊢
  go_loopw [18] (fun i wr => ∃ k : Nat, k ≤ n ∧ i = .int .i64 k ∧ JW w next A n c (fillL n k) wr) (fun i _ => n - (intOf i).toNat)
  case atStart => exact ⟨0, by omega, rfl, by rw [fillL_start]; exact HJ0.out⟩
  case round =>
    obtain ⟨k, hk, rfl, J⟩ := hrel
    by_cases hlt : k < n
    · have hck := J.ab.cell (i := k) (by rw [fillL_len hk]; exact hlt)
      have hfk := Blk.frozen J.ab k
      have HJ := Lib.hid (J.set_ k (-1))
      rw [fillL_set hlt] at HJ
      clear J
      go_wp2_with fail
      go_roundw
      case rel => exact ⟨k + 1, by omega, by go_num, HJ.out⟩
      case measure => simp [intOf]; omega
    · have e : k = n := by omega
      rw [e, fillL_end] at J
      have c0 := J.c0
      have c1 := J.c1
      have HJ := Lib.hid J
      clear J e
      go_wp2_with fail
      clear c0 c1
      go_loopw [28] (fun i wo => ∃ (k : Nat) (a : List Int), k ≤ n ∧ i = .int .i64 k ∧ JW w next A n c a wo ∧ Hid (joinN nds 0 (List.replicate n (-1)) nds = joinN nds k a (nds.drop k))) (fun i _ => n - (intOf i).toNat)
      case atStart => exact ⟨0, _, by omega, rfl, HJ.out, Lib.hid rfl⟩
      case round =>
        clear HJ
        obtain ⟨k, a, hk, rfl, J, HK⟩ := hrel
        have c0 := J.c0
        have c1 := J.c1
        have HJ := Lib.hid J
        by_cases hlt : k < n
        · obtain ⟨b, o, rfl, _, hb, V, hV⟩ := h.all (by omega)
          have hbw : b < w.heap.size := Nat.lt_of_lt_of_le hb hh
          have hbel := J.bel
          obtain ⟨nd, hnd⟩ : ∃ nd, nds[k]? = some nd := ⟨nds[k]'(by have := HL.out; omega), List.getElem?_eq_getElem _⟩
          have hd : nds.drop k = nd :: nds.drop (k + 1) := by
            obtain ⟨hl', rfl⟩ := List.getElem?_eq_some_iff.1 hnd
            exact List.drop_eq_getElem_cons hl'
          obtain ⟨hat, hlf⟩ := hV k nd hnd
          obtain ⟨Ak, nk, ck, eL⟩ : ∃ Ak nk ck, (V k).k = ⟨Ak, nk, ck⟩ := ⟨_, _, _, rfl⟩
          have hkr := hlf.k
          have hkn := hlf.kn
          have hk5 := (hat.below hbel hbw).c5
          rw [eL] at hkr hkn hk5
          simp only at hkr hkn hk5
          have HKN := Lib.hid hkn
          have HAT := Lib.hid hat
          have hck := hkr.2.2.1
          have hnck := hkr.2.1
          unfold maxLen at hck
          have HX : Hid (joinN nds 0 (List.replicate n (-1)) nds = match joinK nds k nd.id a (nd.kids.drop 0) with | none => none | some a' => joinN nds (k + 1) a' (nds.drop (k + 1))) := Lib.hid (by rw [HK.out, hd]; rfl)
          have HV := Lib.hid hV
          have HND := Lib.hid hnd
          have HBL := Lib.hid hbel
          clear hkn hat hlf eL hd HK J hV hnd hbel
          go_wp2_with fail
          obtain ⟨wo, rfl⟩ : ∃ wo : World, wo = wr := ⟨_, rfl⟩
          clear c0 c1 hk5
          go_loopw [38] (fun i wr => ∃ (j : Nat) (a' : List Int), j ≤ nk ∧ i = .int .i64 j ∧ JW w next (some ⟨b, o, none⟩) n c a' wr ∧ Hid (joinN nds 0 (List.replicate n (-1)) nds = match joinK nds k nd.id a' (nd.kids.drop j) with | none => none | some a'' => joinN nds (k + 1) a'' (nds.drop (k + 1)))) (fun i _ => nk - (intOf i).toNat)
          case atStart => exact ⟨0, a, by omega, rfl, HJ.out, HX⟩
          case round =>
            clear HX HJ HBL
            obtain ⟨j, a', hj, rfl, J, HK⟩ := hrel
            have c0 := J.c0
            have c1 := J.c1
            by_cases hjl : j < nk
            · obtain ⟨b', o', rfl, _, hb', hcells⟩ := (hkr.below (J.bel.mono hh)).at_ (by omega)
              obtain ⟨kid, hkid⟩ : ∃ kid, nd.kids[j]? = some kid := ⟨nd.kids[j]'(by have := HKN.out; omega), List.getElem?_eq_getElem _⟩
              have hkc := hcells j _ (intCells_get hkid)
              have hkd : nd.kids.drop j = kid :: nd.kids.drop (j + 1) := by
                obtain ⟨hl', rfl⟩ := List.getElem?_eq_some_iff.1 hkid
                exact List.drop_eq_getElem_cons hl'
              have hix := index_any wr hi next kid (some ⟨b, o, none⟩) n c nds (h.below (J.bel.mono hh)) (by have := J.bel.size; omega) hr hn
              cases hx : ixOf nds kid with
              | none =>
                have HZ : Hid (joinS nds = none) := Lib.hid (by
                  unfold joinS
                  rw [HL.out, HK.out, hkd, joinK, hx])
                have hv : ixV nds kid = .tuple #[.int .i64 (rank nds kid), .bool false] := by unfold ixV; rw [hx]; rfl
                rw [hv] at hix
                have HIX := Lib.hid hix
                have HJ := Lib.hid J
                clear hkid hkd hcells hix hx hv J HK
                go_wp2_with (go_at_call 68; refine HIX.out.mono ?_; rintro e w2 ⟨rfl, hb2⟩; obtain ⟨q1, q2⟩ := bcell hb2)
                go_quiet (fail)
                go_wp2_with fail
                go_ret2
                exact joined_no HZ.out rfl (below_drewN (HJ.out.after hb2).bel _)
              | some jx =>
                have hjx := ixOf_lt hx
                rw [HL.out] at hjx
                obtain ⟨kd, hkd', hkid'⟩ := ixOf_some hx
                have hv : ixV nds kid = .tuple #[.int .i64 jx, .bool true] := by unfold ixV; rw [hx, rank_ix hr hx]; rfl
                rw [hv] at hix
                have HIX := Lib.hid hix
                have hp := ((HV.out jx kd hkd').1.below J.bel hbw).c2
                have hi0 := (HAT.out.below J.bel hbw).c0
                have hac := J.ab.cell (i := jx) (by rw [J.len]; exact hjx)
                have haf := Blk.frozen J.ab jx
                have hg1 := J.ab.lt
                have hbr : b < wr.heap.size := by have := J.bel.size; omega
                have hg0 : w.heap.size < wr.heap.size := by omega
                have HS : Hid (joinN nds 0 (List.replicate n (-1)) nds = match (if kd.par = nd.id ∧ a'.getD jx 0 = -1 then joinK nds k nd.id (a'.set jx k) (nd.kids.drop (j + 1)) else none) with | none => none | some a'' => joinN nds (k + 1) a'' (nds.drop (k + 1))) := Lib.hid (by
                  rw [HK.out, hkd, joinK, hx]; simp only [hkd'])
                have HJ := Lib.hid J
                obtain ⟨av, hav⟩ : ∃ av, a'.getD jx 0 = av := ⟨_, rfl⟩
                rw [hav] at hac HS
                clear hkid hkd hcells hix hx hv J HK hkd' hkid' hav
                by_cases e1 : kd.par = nd.id
                · have d1 : (kd.par != nd.id) = false := by rw [bne_eq_false_iff_eq]; exact e1
                  by_cases e2 : av = -1
                  · have d2 : (av != -1) = false := by rw [bne_eq_false_iff_eq]; exact e2
                    have HZ : Hid (joinN nds 0 (List.replicate n (-1)) nds = match joinK nds k nd.id (a'.set jx k) (nd.kids.drop (j + 1)) with | none => none | some a'' => joinN nds (k + 1) a'' (nds.drop (k + 1))) := Lib.hid (by rw [HS.out, if_pos ⟨e1, e2⟩])
                    clear e1 e2 HS
                    go_wp2_with (go_at_call 68; refine HIX.out.mono ?_; rintro e w2 ⟨rfl, hb2⟩; obtain ⟨q1, q2⟩ := bcell hb2)
                    go_quiet (fail)
                    go_wp2_with fail
                    go_roundw
                    case rel => exact ⟨j + 1, _, by omega, by go_num, ((HJ.out.after hb2).set_ jx k).drewN _, HZ⟩
                    case measure => simp [intOf]; omega
                  · have d2 : (av != -1) = true := by rw [bne_iff_ne]; exact e2
                    have HZ : Hid (joinS nds = none) := Lib.hid (by unfold joinS; rw [HL.out, HS.out, if_neg (fun h => e2 h.2)])
                    clear e1 e2 HS
                    go_wp2_with (go_at_call 68; refine HIX.out.mono ?_; rintro e w2 ⟨rfl, hb2⟩; obtain ⟨q1, q2⟩ := bcell hb2)
                    go_quiet (fail)
                    go_wp2_with fail
                    go_ret2
                    exact joined_no HZ.out rfl (below_drewN (HJ.out.after hb2).bel _)
                · have d1 : (kd.par != nd.id) = true := by rw [bne_iff_ne]; exact e1
                  have HZ : Hid (joinS nds = none) := Lib.hid (by unfold joinS; rw [HL.out, HS.out, if_neg (fun h => e1 h.1)])
                  clear e1 HS
                  go_wp2_with (go_at_call 68; refine HIX.out.mono ?_; rintro e w2 ⟨rfl, hb2⟩; obtain ⟨q1, q2⟩ := bcell hb2)
                  go_quiet (fail)
                  go_wp2_with fail
                  go_ret2
                  exact joined_no HZ.out rfl (below_drewN (HJ.out.after hb2).bel _)
            · have HZ : Hid (joinN nds 0 (List.replicate n (-1)) nds = joinN nds (k + 1) a' (nds.drop (k + 1))) := Lib.hid (by rw [HK.out, List.drop_eq_nil_of_le (by have := HKN.out; omega)]; rfl)
              have HJ := Lib.hid J
              clear J HK
              go_wp2_with fail
              go_roundw
              case rel => exact ⟨k + 1, a', by omega, by go_num, HJ.out, HZ⟩
              case measure => simp [intOf]; omega
        · have HX : Hid (joinN nds 0 (List.replicate n (-1)) nds = some a) := Lib.hid (by rw [HK.out, List.drop_eq_nil_of_le (by rw [HL.out]; omega)]; rfl)
          have HS : Hid (joinS nds = if looseB a nds then none else some a) := Lib.hid (by unfold joinS; rw [HL.out, HX.out])
          clear HK J HX
          go_wp2_with fail
          go_loop [81] (fun i => ∃ m : Nat, m ≤ n ∧ i = .int .i64 m ∧ Hid (looseB a nds = looseB (a.drop m) (nds.drop m))) (fun i => n - (intOf i).toNat)
          case atStart => exact ⟨0, by omega, rfl, Lib.hid rfl⟩
          case round =>
            obtain ⟨m, hm, rfl, HM⟩ := hrel
            by_cases hml : m < n
            · obtain ⟨b, o, rfl, _, hb, V, hV⟩ := h.all (by omega)
              have hbw : b < w.heap.size := Nat.lt_of_lt_of_le hb hh
              obtain ⟨nd, hnd⟩ : ∃ nd, nds[m]? = some nd := ⟨nds[m]'(by have := HL.out; omega), List.getElem?_eq_getElem _⟩
              have hp := ((hV m nd hnd).1.below HJ.out.bel hbw).c2
              have hac := HJ.out.ab.cell (i := m) (by rw [HJ.out.len]; exact hml)
              have hd : nds.drop m = nd :: nds.drop (m + 1) := by
                obtain ⟨hl', rfl⟩ := List.getElem?_eq_some_iff.1 hnd
                exact List.drop_eq_getElem_cons hl'
              obtain ⟨av, hav⟩ : ∃ av, a.getD m 0 = av := ⟨_, rfl⟩
              have had : a.drop m = av :: a.drop (m + 1) := by
                have hl' : m < a.length := by rw [HJ.out.len]; exact hml
                rw [List.drop_eq_getElem_cons hl', ← hav, List.getD_eq_getElem?_getD, List.getElem?_eq_getElem hl']
                rfl
              have HY : Hid (looseB a nds = ((av == -1 && nd.par != 0) || looseB (a.drop (m + 1)) (nds.drop (m + 1)))) := Lib.hid (by rw [HM.out, hd, had]; rfl)
              rw [hav] at hac
              clear hav had hd hnd hV HM
              by_cases e1 : av = -1
              · have d1 : (av == -1) = true := by rw [beq_iff_eq]; exact e1
                by_cases e2 : nd.par = 0
                · have d2 : (nd.par != 0) = false := by rw [bne_eq_false_iff_eq]; exact e2
                  have HZ : Hid (looseB a nds = looseB (a.drop (m + 1)) (nds.drop (m + 1))) := Lib.hid (by rw [HY.out, d2]; simp)
                  clear e1 e2 HY
                  go_wp2_with fail
                  go_round
                  case rel => exact ⟨m + 1, by omega, by go_num, HZ⟩
                  case measure => simp [intOf]; omega
                · have d2 : (nd.par != 0) = true := by rw [bne_iff_ne]; exact e2
                  have HZ : Hid (joinS nds = none) := Lib.hid (by rw [HS.out, HY.out, d1, d2]; rfl)
                  clear e1 e2 HY
                  go_wp2_with fail
                  go_ret2
                  exact joined_no HZ.out rfl HJ.out.bel
              · have d1 : (av == -1) = false := by rw [beq_eq_false_iff_ne]; exact e1
                have HZ : Hid (looseB a nds = looseB (a.drop (m + 1)) (nds.drop (m + 1))) := Lib.hid (by rw [HY.out, d1]; simp)
                clear e1 HY
                go_wp2_with fail
                go_round
                case rel => exact ⟨m + 1, by omega, by go_num, HZ⟩
                case measure => simp [intOf]; omega
            · have HZ : Hid (joinS nds = some a) := Lib.hid (by
                have e : looseB a nds = false := by
                  have hl' := HJ.out.len
                  have ha : a.drop m = [] := List.drop_eq_nil_of_le (by omega)
                  rw [HM.out, ha]
                  rfl
                rw [HS.out, e]; rfl)
              clear HM
              go_wp2_with fail
              go_ret2
              exact joined_yes HZ.out rfl HJ.out.bel HJ.out.ab HJ.out.len (by omega)
end Go.Proofs.YtjjlofaejpnnnaaGreatDoor
namespace Go.Proofs.YtjjlofaejpnnnaaGreatDoor
open Go Go.RowKit
set_option linter.unusedVariables false
def countF (tot : Int) : Nat → List Int → List Int → List Int
  | _, dl, [] => dl
  | i, dl, at_ :: r => countF tot (i + 1) (dl.set at_.toNat (tot - i)) r
theorem countF_len (tot : Int) : ∀ (r : List Int) (i : Nat) (dl : List Int), (countF tot i dl r).length = dl.length
  | [], _, _ => rfl
  | x :: r, i, dl => by rw [countF, countF_len tot r, List.length_set]
theorem countF_get (tot : Int) : ∀ (r : List Int) (i : Nat) (dl : List Int) (j : Nat), j < dl.length → (countF tot i dl r).getD j 0 = dl.getD j 0 ∨ ∃ (m : Nat) (x : Int), r[m]? = some x ∧ x.toNat = j ∧ (countF tot i dl r).getD j 0 = tot - (i + m : Nat)
  | [], _, _, _, _ => .inl rfl
  | x :: r, i, dl, j, hj => by
    rw [countF]
    rcases countF_get tot r (i + 1) (dl.set x.toNat (tot - i)) j (by rw [List.length_set]; exact hj) with h | ⟨m, y, h1, h2, h3⟩
    · by_cases e : x.toNat = j
      · right
        refine ⟨0, x, rfl, e, ?_⟩
        rw [h, getD_set (by omega), if_pos e]
        simp
      · left
        rw [h, List.getD_eq_getElem?_getD, List.getD_eq_getElem?_getD, List.getElem?_set, if_neg e]
    · right
      exact ⟨m + 1, y, by simpa using h1, h2, by rw [h3]; congr 1; omega⟩
/-- so many steps up -/
def up (a : List Int) : Nat → Int → Int
  | 0, x => x
  | m + 1, x => up a m (a.getD x.toNat (-1))
theorem up_succ (a : List Int) : ∀ (m : Nat) (x : Int), up a (m + 1) x = a.getD (up a m x).toNat (-1)
  | 0, x => rfl
  | m + 1, x => by rw [up, up_succ a m]; rfl
def chain (a : List Int) (i : Int) (L : Nat) : List Int := (List.range L).map fun m => up a m i
theorem chain_len (a : List Int) (i : Int) (L : Nat) : (chain a i L).length = L := by simp [chain]
theorem chain_get {a : List Int} {i : Int} {L m : Nat} {x : Int} (h : (chain a i L)[m]? = some x) : m < L ∧ x = up a m i := by
  simp only [chain, List.getElem?_map, List.getElem?_range'] at h
  by_cases hm : m < L
  · rw [List.getElem?_range hm] at h
    injection h with h
    exact ⟨hm, h.symm⟩
  · rw [List.getElem?_eq_none (by simp; omega)] at h
    cases h
theorem chain_snoc (a : List Int) (i : Int) (L : Nat) : chain a i (L + 1) = chain a i L ++ [up a L i] := by
  simp [chain, List.range_succ]
theorem lvl_step {a : List Int} {f : Nat} {x : Int} (h : x ≠ -1) : lvl a (f + 1) x = (lvl a f (a.getD x.toNat (-1))).map (· + 1) := by rw [lvl, if_neg h]
theorem lvl_end (a : List Int) (f : Nat) : lvl a f (-1) = some 0 := by cases f <;> simp [lvl]
theorem lvl_more {a : List Int} : ∀ {f d : Nat} {x : Int}, lvl a f x = some d → d ≤ f ∧ ∀ f', (d ≤ f' → lvl a f' x = some d) ∧ (f' < d → lvl a f' x = none)
  | f, d, x, h => by
    by_cases hx : x = -1
    · subst hx
      rw [lvl_end] at h
      injection h with h
      subst h
      exact ⟨Nat.zero_le _, fun f' => ⟨fun _ => lvl_end a f', fun h => absurd h (by omega)⟩⟩
    · match f, h with
      | 0, h => rw [lvl, if_neg hx] at h; cases h
      | f + 1, h =>
        rw [lvl_step hx] at h
        obtain ⟨d', h1, rfl⟩ := Option.map_eq_some_iff.1 h
        obtain ⟨g1, g2⟩ := lvl_more h1
        refine ⟨by omega, fun f' => ?_⟩
        match f' with
        | 0 => exact ⟨fun h => absurd h (by omega), fun _ => by rw [lvl, if_neg hx]⟩
        | f' + 1 =>
          rw [lvl_step hx]
          exact ⟨fun h => by rw [(g2 f').1 (by omega)]; rfl, fun h => by rw [(g2 f').2 (by omega)]; rfl⟩
/-- a way up of L nodes, then a node of which the depth is known -/
theorem lvl_chain {a : List Int} {d : Nat} : ∀ {L : Nat} {i : Int}, (∀ m, m < L → up a m i ≠ -1) → (∃ f, lvl a f (up a L i) = some d) → ∀ m, m ≤ L → ∀ f, (d + (L - m) ≤ f → lvl a f (up a m i) = some (d + (L - m))) ∧ (f < d + (L - m) → lvl a f (up a m i) = none)
  | 0, i, h, ⟨f0, h0⟩, m, hm, f => by
    obtain rfl : m = 0 := by omega
    have := (lvl_more h0).2 f
    simpa using this
  | L + 1, i, h, h0, m, hm, f => by
    match m, hm with
    | m + 1, hm =>
      have := lvl_chain (L := L) (i := a.getD i.toNat (-1)) (fun k hk => h (k + 1) (by omega)) h0 m (by omega) f
      rw [show L + 1 - (m + 1) = L - m from by omega]
      exact this
    | 0, hm =>
      have hi := h 0 (by omega)
      have hi : i ≠ -1 := hi
      have ih := lvl_chain (L := L) (i := a.getD i.toNat (-1)) (fun k hk => h (k + 1) (by omega)) h0 0 (by omega)
      simp only [Nat.sub_zero, up] at ih ⊢
      match f with
      | 0 => exact ⟨fun h => absurd h (by omega), fun _ => by rw [lvl, if_neg hi]⟩
      | f + 1 =>
        rw [lvl_step hi]
        exact ⟨fun h => by rw [(ih f).1 (by omega)]; rfl, fun h => by rw [(ih f).2 (by omega)]; rfl⟩
/-- a way up that is too long -/
theorem lvl_long {a : List Int} : ∀ {L : Nat} {i : Int}, (∀ m, m ≤ L → up a m i ≠ -1) → lvl a L i = none
  | 0, i, h => by
    have hi : i ≠ -1 := h 0 (by omega)
    rw [lvl, if_neg hi]
  | L + 1, i, h => by
    have hi : i ≠ -1 := h 0 (by omega)
    rw [lvl_step hi, lvl_long (fun m hm => h (m + 1) (by omega))]
    rfl
/-- the depths that are written down so far are right -/
def DInv (a dl : List Int) : Prop := dl.length = a.length ∧ ∀ j, j < a.length → ∃ d : Nat, dl.getD j 0 = d ∧ (d = 0 ∨ lvl a 64 j = some d)
theorem DInv.start (a : List Int) : DInv a (List.replicate a.length 0) :=
  ⟨by simp, fun j hj => ⟨0, by rw [List.getD_eq_getElem?_getD, List.getElem?_replicate, if_pos hj]; rfl, .inl rfl⟩⟩
theorem DInv.count {a dl : List Int} (h : DInv a dl) {i : Int} {L d : Nat} (hup : ∀ m, m < L → 0 ≤ up a m i) (hd : ∃ f, lvl a f (up a L i) = some d) (h64 : d + L ≤ 64) :
    DInv a (countF ((d : Int) + L) 0 dl (chain a i L)) := by
  refine ⟨by rw [countF_len]; exact h.1, fun j hj => ?_⟩
  rcases countF_get ((d : Int) + L) (chain a i L) 0 dl j (by rw [h.1]; exact hj) with e | ⟨m, x, h1, h2, h3⟩
  · obtain ⟨d', g1, g2⟩ := h.2 j hj
    exact ⟨d', by rw [e]; exact g1, g2⟩
  · obtain ⟨hm, rfl⟩ := chain_get h1
    refine ⟨d + (L - m), by rw [h3]; omega, .inr ?_⟩
    have hx := hup m hm
    have := (lvl_chain (fun k hk => by have := hup k hk; omega) hd m (by omega) 64).1 (by omega)
    rw [← this]
    congr 1
    omega
end Go.Proofs.YtjjlofaejpnnnaaGreatDoor
namespace Go.Proofs.YtjjlofaejpnnnaaGreatDoor
open Go Go.RowKit Go.Sort
set_option linter.unusedVariables false
theorem only_cell {w w' : World} {g : Nat} (h : w.grownBy w' (some g)) {b o : Nat} (hb : b < w.heap.size) (hne : b ≠ g) : w'.cell? ⟨b, o, none⟩ = w.cell? ⟨b, o, none⟩ :=
  World.cell?_of_block (h.block b hb (fun e => hne (by injection e)))
theorem only_set {a w : World} {g : Nat} (h : a.grownBy w (some g)) (i : Nat) (u : Value) : a.grownBy (w.setCell ⟨g, i, none⟩ u) (some g) :=
  ⟨h.os, h.tape, h.output, by simpa [World.setCell] using h.size, fun k hk hne => (Below.heap_setCell w ⟨g, i, none⟩ u k (by rintro rfl; exact hne rfl)).trans (h.block k hk hne)⟩
theorem Below.only {B : Nat} {a w w' : World} (h : Below B a w) {g : Nat} (hg : w.grownBy w' (some g)) (hB : B ≤ w.heap.size) (hBg : B ≤ g) : Below B a w' :=
  h.grown hg hB (fun k hk => by injection hk with hk; omega)
/-- what count answers -/
def Counted (w : World) (g : Nat) (b : Bool) (dl : List Int) (e : Ending) (w' : World) : Prop := e = .returned (.bool b) ∧ IBlk w' g dl ∧ w.grownBy w' (some g)
set_option maxHeartbeats 1600000 in
theorem count_any (w : World) (g h n c L cw : Nat) (dl wl : List Int) (from_ : Int) (hd : IBlk w g dl) (hn : dl.length = n) (hne : h ≠ g) (hh : h < w.heap.size) (hL : wl.length = L) (hL64 : L ≤ 64) (hcw : L ≤ cw) (hcm : cw ≤ maxLen) (hnc : n ≤ c) (hcm' : c ≤ maxLen)
    (hw : ∀ (j : Nat) x, wl[j]? = some x → w.cell? ⟨h, j, none⟩ = some (.int .i64 x) ∧ 0 ≤ x ∧ x < n) (h0 : 0 ≤ from_) (h1 : from_ ≤ 64) :
    Calls Tryz.prog 69 #[.slice (some ⟨g, 0, none⟩) n c, .slice (some ⟨h, 0, none⟩) L cw, .int .i64 from_] w (Counted w g (decide (from_ + L ≤ 64)) (countF (from_ + L) 0 dl wl)) := by
  unfold maxLen at hcm hcm'
  have HN := Lib.hid hn
  have HL := Lib.hid hL
  have HW := Lib.hid hw
  have HD := Lib.hid hd
  clear hn hL hw hd
  go_enter Tryz.func69, Tryz.ntmps69
  go_wp2_with fail
  go_loopw [11] (fun i wr => ∃ (k : Nat) (d : List Int), k ≤ L ∧ i = .int .i64 k ∧ IBlk wr g d ∧ w.grownBy wr (some g) ∧ Hid (countF (from_ + L) 0 dl wl = countF (from_ + L) k d (wl.drop k)) ∧ Hid (d.length = n)) (fun i _ => L - (intOf i).toNat)
  case atStart => exact ⟨0, dl, by omega, rfl, HD.out, World.grownBy.refl _ _, Lib.hid rfl, HN⟩
  case round =>
    obtain ⟨k, d, hk, rfl, hb, hg, HK, HDL⟩ := hrel
    have HB := Lib.hid hb
    have HG := Lib.hid hg
    by_cases hlt : k < L
    · obtain ⟨x, hx⟩ : ∃ x, wl[k]? = some x := ⟨wl[k]'(by have := HL.out; omega), List.getElem?_eq_getElem _⟩
      obtain ⟨q1, q2, q3⟩ := HW.out k x hx
      have hc1 : wr.cell? ⟨h, k, none⟩ = some (.int .i64 x) := (only_cell hg hh hne).trans q1
      obtain ⟨m, rfl⟩ : ∃ m : Nat, x = (m : Int) := ⟨x.toNat, by omega⟩
      have hck := hb.cell (i := m) (by have := HDL.out; omega)
      have hfk := Blk.frozen hb m
      have hwd : wl.drop k = (m : Int) :: wl.drop (k + 1) := by
        obtain ⟨hl', e⟩ := List.getElem?_eq_some_iff.1 hx
        rw [← e]
        exact List.drop_eq_getElem_cons hl'
      have HZ : Hid (countF (from_ + L) 0 dl wl = countF (from_ + L) (k + 1) (d.set m (from_ + L - k)) (wl.drop (k + 1))) := Lib.hid (by rw [HK.out, hwd, countF]; simp)
      clear hx hwd HK q1 hb hg
      go_wp2_with fail
      go_roundw
      case rel => exact ⟨k + 1, _, by omega, by go_num, HB.out.set_ m _, only_set HG.out _ _, HZ, Lib.hid (by rw [List.length_set]; exact HDL.out)⟩
      case measure => simp [intOf]; omega
    · have HZ : Hid (countF (from_ + L) 0 dl wl = d) := Lib.hid (by rw [HK.out, List.drop_eq_nil_of_le (by have := HL.out; omega)]; rfl)
      clear HK hb hg
      go_wp2_with fail
      go_ret
      exact ⟨rfl, by rw [HZ.out]; exact HB.out, HG.out⟩
def nought64 : List Int := List.replicate 64 0
theorem make_ints2 (w : World) :
    (Instr.makeSlice 40 (.int .i64 0) (.int .i64 64)).run Tryz.prog w = .ok (.slice (some ⟨w.heap.size, 0, none⟩) 0 64) (w.alloc (.cells (intCells (nought64)).toArray 3)) := by
  obtain ⟨i, hi, hzz⟩ := Option.map_eq_some_iff.1 intInfo
  simp only [Prod.mk.injEq] at hzz
  obtain ⟨hz, hs, hb⟩ := hzz
  have hr := run_make (P := Tryz.prog) w 40 3 i (.int .i64 0) Tryz.underlying40 hi hz .i64 .i64 0 64 (by omega) (by omega) (by rw [hb]; omega) (by omega)
  unfold nought64
  rw [← made_ints]
  simp only [hs, Nat.mul_one] at hr
  exact hr
/-- the slice of 64 places of which L are filled -/
def WayIn (w : World) (g L : Nat) (wl : List Int) : Prop := w.ownsRow g 3 1 (.slice (some ⟨g, 0, none⟩) L 64) L (intCells wl)
theorem WayIn.zero {w : World} {g L : Nat} {wl : List Int} (h : WayIn w g L wl) : WayIn w g 0 [] := by
  rcases h.2 with ⟨h, _⟩ | ⟨g', cap, cur, e, hb, hg, h1, h2, h3, h4⟩
  · cases h
  · injection e with e1 e2 e3
    injection e1 with e1
    injection e1 with e1
    subst e1 e3
    exact ⟨by simp [intCells], .inr ⟨g, 64, cur, rfl, hb, hg, Nat.zero_le _, h2, h3, by simp [intCells]⟩⟩
theorem WayIn.start (w : World) : WayIn (w.alloc (.cells (intCells (nought64)).toArray 3)) w.heap.size 0 [] :=
  World.ownsRow_made w (intCells nought64).toArray 64 (Nat.le_refl _) (by simp [maxLen]) (by simp [intCells, nought64])
theorem WayIn.cell {w : World} {g L : Nat} {wl : List Int} (h : WayIn w g L wl) {j : Nat} {x : Int} (hx : wl[j]? = some x) : w.cell? ⟨g, j, none⟩ = some (.int .i64 x) := by
  have := World.ownsRow.cells h (g := g) rfl j _ (intCells_get hx)
  rwa [Addr.add_lit, Nat.zero_add] at this
theorem WayIn.len {w : World} {g L : Nat} {wl : List Int} (h : WayIn w g L wl) : wl.length = L := by
  have := h.1; rw [intCells_length] at this; omega
theorem WayIn.lt {w : World} {g L : Nat} {wl : List Int} (h : WayIn w g L wl) : g < w.heap.size := (World.ownsRow.lt h g rfl).2
theorem WayIn.kept {w w' : World} {g L r : Nat} {wl : List Int} (h : WayIn w g L wl) (hg : w.grownBy w' (some r)) (hne : g ≠ r) : WayIn w' g L wl :=
  World.ownsRow.kept h hg (.inr (by simp [Value.ownBlock, hne]))
theorem WayIn.alloc {w : World} {g L : Nat} {wl : List Int} (h : WayIn w g L wl) (o : Obj) : WayIn (w.alloc o) g L wl := World.ownsRow.alloc h o
theorem new_one (w : World) (x : Value) (t : TypeId) : ∀ j u, [x][j]? = some u → (w.alloc (.cells #[x] t)).cell? ((⟨w.heap.size, 0, none⟩ : Addr).add j) = some u := by
  intro j u hj
  match j, hj with
  | 0, hj =>
    obtain rfl : x = u := by simpa using hj
    exact World.cell?_alloc_at (hn := rfl) ..
theorem one_one (k : IntKind) (m : Int) : ∀ u ∈ [Value.int k m], u.oneCell' = true := by
  intro u hu
  obtain rfl : u = .int k m := by simpa using hu
  rfl
/-- what holds in the loops of rooted -/
structure RW (w : World) (n L : Nat) (dl wl : List Int) (wr : World) : Prop where
  deep : IBlk wr w.heap.size dl
  way : WayIn wr (w.heap.size + 1) L wl
  bel : Below w.heap.size w wr
  len : dl.length = n
theorem RW.start {w wr : World} {n L : Nat} {dl wl : List Int} (h : RW w n L dl wl wr) : RW w n 0 dl [] wr := ⟨h.deep, h.way.zero, h.bel, h.len⟩
theorem RW.count {w wr w' : World} {n L : Nat} {dl wl dl' : List Int} (h : RW w n L dl wl wr) (hi : IBlk w' w.heap.size dl') (hg : wr.grownBy w' (some w.heap.size)) (hl : dl'.length = n) : RW w n L dl' wl w' :=
  ⟨hi, h.way.kept hg (by omega), Below.only h.bel hg h.bel.size (Nat.le_refl _), hl⟩
set_option maxHeartbeats 3200000 in
theorem rooted_any (w : World) (hi : Nat) (A : Option Addr) (n c : Nat) (av : List Int) (h : Row w 0 hi 1 A n c (intCells av)) (hh : hi ≤ w.heap.size) (hn : n ≤ 4096) (hl : av.length = n) (hav : ∀ j, j < n → -1 ≤ av.getD j (-1) ∧ av.getD j (-1) < n) :
    Calls Tryz.prog 33 #[.slice A n c] w (Ret w (.bool (rootedB av))) := by
  have hc := h.2.2.1
  have hnc := h.2.1
  have HL := Lib.hid hl
  have HAV := Lib.hid hav
  unfold maxLen at hc
  have hmk := make_ints n (by omega)
  have hmk2 := make_ints2
  have R0 : RW w n 0 (List.replicate n 0) [] ((w.alloc (.cells (intCells (List.replicate n 0)).toArray 3)).alloc (.cells (intCells (nought64)).toArray 3)) :=
    ⟨(Blk.new _ _ _).alloc _, by have := WayIn.start (w.alloc (.cells (intCells (List.replicate n 0)).toArray 3)); simpa using this, (below_box _ _).alloc (by simp) _, by simp⟩
  have HR0 := Lib.hid R0
  have HD0 : Hid (DInv av (List.replicate n 0)) := Lib.hid (by have := DInv.start av; rwa [hl] at this)
  clear R0 hl hav
  go_enter Tryz.func33, Tryz.ntmps33
  go_wp2_with fail
  go_step3
  go_wp2_with fail
  go_step3
  go_wp2_with fail
  clear hmk hmk2
  generalize ((w.alloc (.cells (intCells (List.replicate n 0)).toArray 3)).alloc (.cells (intCells (nought64)).toArray 3)) = W1 at HR0 ⊢
  go_loopg [4, 13] n (fun gk v i wo => ∃ (k L : Nat) (dl wl : List Int), k ≤ n ∧ gk = n - k ∧ i = .int .i64 k ∧ v = .slice (some ⟨w.heap.size + 1, 0, none⟩) L 64 ∧ L ≤ 64 ∧ RW w n L dl wl wo ∧ Hid (DInv av dl) ∧ Hid (∀ j : Nat, j < k → (lvl av 64 j).isSome = true))
  case atStart => exact ⟨0, 0, _, [], by omega, by omega, rfl, rfl, by omega, HR0.out, HD0, Lib.hid (fun j hj => absurd hj (by omega))⟩
  case round =>
    clear HR0 HD0
    obtain ⟨k, L, dl, wl, hk, hgk, rfl, rfl, hL, R, HD, HK⟩ := hrel
    have HR := Lib.hid R.start
    have HGK := Lib.hid hgk
    clear R hgk
    by_cases hlt : k < n
    · go_wp2_with fail
      obtain ⟨wo, rfl⟩ : ∃ wo : World, wo = wr := ⟨_, rfl⟩
      go_loopg [4, 6] 65 (fun gl v x wr => ∃ (M : Nat) (y : Int), M ≤ 64 ∧ Hid (gl = 65 - M) ∧ x = .int .i64 y ∧ v = .slice (some ⟨w.heap.size + 1, 0, none⟩) M 64 ∧ RW w n M dl (chain av k M) wr ∧ Hid (y = up av M k) ∧ Hid (∀ m, m < M → 0 ≤ up av m k ∧ up av m k < n) ∧ -1 ≤ y ∧ y < n)
      case atStart => exact ⟨0, k, by omega, Lib.hid rfl, rfl, rfl, HR.out, Lib.hid rfl, Lib.hid (fun m hm => absurd hm (by omega)), by omega, by omega⟩
      case round =>
        obtain ⟨M, y, hM, HGL, rfl, rfl, R, HY, HUP, hy1, hy2⟩ := hrel
        have HRr := Lib.hid R
        have hzr : w.heap.size + 1 < wr.heap.size := R.way.lt
        have hCN : ∀ (f : Nat), f ≤ 64 → Calls Tryz.prog 69 #[.slice (some ⟨w.heap.size, 0, none⟩) n n, .slice (some ⟨w.heap.size + 1, 0, none⟩) M 64, .int .i64 (f : Int)] wr (Counted wr w.heap.size (decide (f + M ≤ 64)) (countF ((f : Int) + M) 0 dl (chain av k M))) := by
          intro f hf
          have := count_any wr w.heap.size (w.heap.size + 1) n n M 64 dl (chain av k M) f R.deep R.len (by omega) hzr (chain_len av k M) hM hM (by simp [maxLen]) (Nat.le_refl _) (by unfold maxLen; omega) (fun j x hx => by
            obtain ⟨hj, rfl⟩ := chain_get hx
            exact ⟨R.way.cell hx, (HUP.out j hj).1, (HUP.out j hj).2⟩) (by omega) (by omega)
          rwa [show decide ((f : Int) + M ≤ 64) = decide (f + M ≤ 64) from by rw [Bool.eq_iff_iff]; simp; omega] at this
        have HCN := Lib.hid hCN
        clear hCN R
        by_cases hy : y = -1
        · have d1 : (y != -1) = false := by rw [bne_eq_false_iff_eq]; exact hy
          have HE : Hid (∃ f, lvl av f (up av M k) = some 0) := Lib.hid ⟨0, by rw [← HY.out, hy]; exact lvl_end _ _⟩
          have hC0 := HCN.out 0 (by omega)
          have HC0 := Lib.hid hC0
          clear hy hC0
          go_wp2_with (go_at_call 69; refine HC0.out.mono ?_; rintro e w2 ⟨rfl, hib, hg2⟩; have HIB := Lib.hid hib; have HG2 := Lib.hid hg2; clear hib hg2)
          have hD2 : DInv av (countF (((0 : Nat) : Int) + M) 0 dl (chain av k M)) := HD.out.count (d := 0) (fun m hm => (HUP.out m hm).1) HE.out (by omega)
          go_roundg (n - (k + 1))
          case measure => have := HGK.out; omega
          case rel =>
            refine ⟨k + 1, M, _, _, by omega, rfl, by go_num, rfl, hM, HRr.out.count HIB.out HG2.out ?_, Lib.hid hD2, Lib.hid (fun j hj => ?_)⟩
            · rw [countF_len]; exact HRr.out.len
            · by_cases e : j = k
              · subst e
                have := (lvl_chain (fun m hm => by have := HUP.out m hm; omega) HE.out 0 (by omega) 64).1 (by omega)
                have : lvl av 64 (j : Int) = _ := this
                rw [this]; rfl
              · exact HK.out j (by omega)
        · have d1 : (y != -1) = true := by rw [bne_iff_ne]; exact hy
          obtain ⟨m, rfl⟩ : ∃ m : Nat, y = (m : Int) := ⟨y.toNat, by omega⟩
          have hm : m < n := by omega
          obtain ⟨d, hdm, hdl⟩ := HD.out.2 m (by rw [HL.out]; exact hm)
          have hck := HRr.out.deep.cell (i := m) (by rw [HRr.out.len]; exact hm)
          rw [hdm] at hck
          clear hy
          by_cases h0 : 0 < d
          · have hlv : lvl av 64 (m : Int) = some d := by rcases hdl with e | e; (omega); exact e
            have h64 := (lvl_more hlv).1
            have HE : Hid (∃ f, lvl av f (up av M k) = some d) := Lib.hid ⟨64, by rw [← HY.out]; exact hlv⟩
            have HCH := Lib.hid (lvl_chain (fun m hm => by have := HUP.out m hm; omega) HE.out 0 (by omega) 64)
            have HC0 := Lib.hid (HCN.out d h64)
            by_cases hs : d + M ≤ 64
            · rw [decide_eq_true hs] at HC0
              clear hlv hdm hdl
              go_wp2_with (go_at_call 69; refine HC0.out.mono ?_; rintro e w2 ⟨rfl, hib, hg2⟩; have HIB := Lib.hid hib; have HG2 := Lib.hid hg2; clear hib hg2)
              have hD2 : DInv av (countF ((d : Int) + M) 0 dl (chain av k M)) := HD.out.count (fun m hm => (HUP.out m hm).1) HE.out hs
              go_roundg (n - (k + 1))
              case measure => have := HGK.out; omega
              case rel =>
                refine ⟨k + 1, M, _, _, by omega, rfl, by go_num, rfl, hM, HRr.out.count HIB.out HG2.out ?_, Lib.hid hD2, Lib.hid (fun j hj => ?_)⟩
                · rw [countF_len]; exact HRr.out.len
                · by_cases e : j = k
                  · subst e
                    have := HCH.out.1 (by omega)
                    have : lvl av 64 (j : Int) = _ := this
                    rw [this]; rfl
                  · exact HK.out j (by omega)
            · rw [decide_eq_false hs] at HC0
              have HZ : Hid (rootedB av = false) := Lib.hid (by
                unfold rootedB
                rw [List.all_eq_false]
                refine ⟨k, by rw [List.mem_range, HL.out]; exact hlt, ?_⟩
                have := HCH.out.2 (by omega)
                have : lvl av 64 (k : Int) = _ := this
                rw [this]; simp)
              clear hlv hdm hdl
              go_wp2_with (go_at_call 69; refine HC0.out.mono ?_; rintro e w2 ⟨rfl, hib, hg2⟩; have HIB := Lib.hid hib; have HG2 := Lib.hid hg2; clear hib hg2)
              try rw [Exit.noGoto_ret]
              go_ret
              exact ret_b HZ.out rfl (Below.only HRr.out.bel HG2.out (by omega) (Nat.le_refl _))
          · obtain rfl : d = 0 := by omega
            have d2 : decide ((0 : Int) < ((0 : Nat) : Int)) = false := rfl
            by_cases h64 : M = 64
            · have HZ : Hid (rootedB av = false) := Lib.hid (by
                unfold rootedB
                rw [List.all_eq_false]
                refine ⟨k, by rw [List.mem_range, HL.out]; exact hlt, ?_⟩
                have := lvl_long (a := av) (L := 64) (i := k) (fun j hj => by
                  by_cases e : j = 64
                  · subst e; have := HY.out; rw [h64] at this; omega
                  · have := HUP.out j (by omega); omega)
                rw [this]; simp)
              have d3 : ((M : Int) == 64) = true := by rw [beq_iff_eq]; omega
              clear hdm hdl h64
              go_wp2_with fail
              try rw [Exit.noGoto_ret]
              go_ret
              exact ret_b HZ.out rfl HRr.out.bel
            · have d3 : ((M : Int) == 64) = false := by rw [beq_eq_false_iff_ne]; omega
              have hM1 : M + 1 ≤ 64 := by omega
              obtain ⟨b, o, rfl, _, hb, hcells⟩ := h.at_ (by omega)
              have hx : av[m]? = some (av.getD m (-1)) := by
                rw [List.getD_eq_getElem?_getD, List.getElem?_eq_getElem (by rw [HL.out]; exact hm)]; rfl
              have HCW := Lib.hid (hcells m _ (intCells_get hx))
              have HAB := Lib.hid (HAV.out m hm)
              obtain ⟨i0, hi0, hzz⟩ := Option.map_eq_some_iff.1 intInfo
              simp only [Prod.mk.injEq] at hzz
              have HSZ := Lib.hid hzz.2.1
              have HI0 := Lib.hid hi0
              have HWY := Lib.hid HRr.out.way
              obtain ⟨z, hz⟩ : ∃ z, av.getD m (-1) = z := ⟨_, rfl⟩
              rw [hz] at HCW HAB
              have HZD := Lib.hid hz
              clear hzz hi0 hx hz hcells hdm hdl h64
              go_wp2_with (at_builtin; refine wpList_append_fits _ rfl _ _ 40 rfl (w.heap.size + 1) 3 i0 1 Tryz.underlying40 HI0.out HSZ.out (w.heap.size + 1) M 64 (intCells (chain av k M)) rfl (HWY.out.alloc _) ⟨wr.heap.size, 0, none⟩ 1 1 [.int .i64 (m : Int)] rfl rfl (new_one wr _ _) (one_one _ _) (by omega) ?_; intro w2 hown2 hg2; have hbw2 : Below w.heap.size w w2 := Below.only (HRr.out.bel.alloc (by omega) _) hg2 (by simp; omega) (by omega); have hc2 : w2.cell? ⟨b, o + m, none⟩ = some (.int .i64 z) := (hbw2.cell (p := ⟨b, _, none⟩) (Nat.lt_of_lt_of_le hb hh)).trans HCW.out; have HO2 := Lib.hid hown2; have HG2 := Lib.hid hg2; clear hown2 hg2)
              go_roundg (65 - (M + 1))
              case measure => have := HGL.out; omega
              case rel =>
                refine ⟨M + 1, z, by omega, Lib.hid rfl, rfl, rfl, ⟨?_, ?_, hbw2, HRr.out.len⟩, Lib.hid ?_, Lib.hid (fun j hj => ?_), HAB.out.1, HAB.out.2⟩
                · exact (Blk.alloc HRr.out.deep _).grown HG2.out (by simp)
                · have := HO2.out
                  unfold WayIn
                  rw [chain_snoc, ← HY.out]
                  simpa [intCells] using this
                · rw [up_succ, ← HY.out, Int.toNat_natCast]; exact HZD.out.symm
                · by_cases e : j = M
                  · subst e; rw [← HY.out]; omega
                  · exact HUP.out j (by omega)
    · have e : k = n := by omega
      have HZ : Hid (rootedB av = true) := Lib.hid (by
        unfold rootedB
        rw [List.all_eq_true]
        intro j hj
        rw [List.mem_range, HL.out] at hj
        exact HK.out j (by omega))
      clear e
      go_wp2_with fail
      try rw [Exit.noGoto_ret]
      go_ret
      exact ret_b HZ.out rfl HR.out.bel
end Go.Proofs.YtjjlofaejpnnnaaGreatDoor

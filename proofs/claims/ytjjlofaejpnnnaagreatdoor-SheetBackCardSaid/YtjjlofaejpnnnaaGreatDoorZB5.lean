/-
  WALKS: spelt of the program.
  WALKS: joined of the program.
  PLAIN VALUES: depths, counted up a way and written down. No program stands in it.
-/
import Derived.Test.YtjjlofaejpnnnaaGreatDoorZB4
import Derived.Deep.OwnRows
namespace Go.Proofs.YtjjlofaejpnnnaaGreatDoor
open Go Go.RowKit Go.Sort
set_option linter.unusedVariables false
theorem regrown_ret {P : Program} {f : FuncId} {args : Array Value} {w : World} {d : Nat} {os : Array Obj} {v : Value} (h : Calls P f args (grow (redrawn w d) os) (Ret (grow (redrawn w d) os) v)) :
    Calls P f args (grow (redrawn w d) os) fun e w'' => e = .returned v ∧ ∃ p : Regrown, w'' = grow (redrawn w p.d) p.os := Calls.regrown_of h
theorem size_mdObj (w : World) (next : Int) (A : Option Addr) (n c : Nat) : (w.alloc (mdObj next A n c)).heap.size = w.heap.size + 1 := by simp
theorem md_cells (w : World) (next : Int) (A : Option Addr) (n c : Nat) : (w.alloc (mdObj next A n c)).cell? ⟨w.heap.size, 0, none⟩ = some (.int .i64 next) ∧ (w.alloc (mdObj next A n c)).cell? ⟨w.heap.size, 1, none⟩ = some (.slice A n c) :=
  ⟨World.cell?_alloc_at (hn := rfl) .., World.cell?_alloc_at (hn := rfl) ..⟩
set_option maxHeartbeats 3200000 in
theorem spelt_any (w : World) (hi : Nat) (next : Int) (A : Option Addr) (n c : Nat) (nds : List Nd) (h : NodesIn w 0 hi A n c nds) (hh : hi ≤ w.heap.size) :
    Calls Tryz.prog 31 #[.agg #[.int .i64 next, .slice A n c]] w (Ret w (.bool (nds.all (speltB next)))) := by
  have hbx := below_box w (mdObj next A n c)
  have hmc := md_cells w next A n c
  have hsz := size_mdObj w next A n c
  have HSZ := Lib.hid hsz
  have hc := h.2.2.1
  have hnc := h.2.1
  have HL := Lib.hid h.1
  unfold maxLen at hc
  have HB0 := Lib.hid hbx
  have HMC := Lib.hid hmc
  obtain ⟨W0, hW0⟩ : ∃ W0, W0 = w.alloc (mdObj next A n c) := ⟨_, rfl⟩
  rw [← hW0] at HB0 HMC HSZ
  unfold mdObj at hW0
  clear hbx hmc hsz
  go_enter Tryz.func31, Tryz.ntmps31
  go_wp2_with fail
  rw [← hW0]
  have HW0 := Lib.hid hW0
  clear hW0
  go_loopw [8] (fun i wr => ∃ k : Nat, k ≤ n ∧ i = .int .i64 k ∧ Hid (nds.all (speltB next) = (nds.drop k).all (speltB next)) ∧ Below W0.heap.size W0 wr) (fun i _ => n - (intOf i).toNat)
  case atStart => exact ⟨0, by omega, rfl, Lib.hid rfl, Below.refl _ _⟩
  case round =>
    obtain ⟨k, hk, rfl, HK, hbel⟩ := hrel
    have HBel := Lib.hid hbel
    have hz0 := HSZ.out
    have hm0 : wr.cell? ⟨w.heap.size, 0, none⟩ = some (.int .i64 next) := (hbel.cell (p := ⟨_, _, none⟩) (by show w.heap.size < _; omega)).trans HMC.out.1
    have hm1 : wr.cell? ⟨w.heap.size, 1, none⟩ = some (.slice A n c) := (hbel.cell (p := ⟨_, _, none⟩) (by show w.heap.size < _; omega)).trans HMC.out.2
    by_cases hlt : k < n
    · have hin := (h.below (HB0.out.mono hh)).below (hbel.mono (by omega))
      obtain ⟨b, o, nd, L, rfl, _, hb, hnd, hat, hlf⟩ := hin.at_ hlt
      have hd : nds.drop k = nd :: nds.drop (k + 1) := by
        obtain ⟨hl', rfl⟩ := List.getElem?_eq_some_iff.1 hnd
        exact List.drop_eq_getElem_cons hl'
      have hwz : W0.heap.size ≤ wr.heap.size := hbel.size
      have q0 := cell_regrown hm0
      have q1 := cell_regrown hm1
      have q2 := cell_regrown hat.c1
      have q4 := cell_regrown hat.c4
      have q6 := cell_regrown hat.c6
      have hRo : ∀ d os, Calls Tryz.prog 65 #[.pointer (some ⟨b, o + k * 7, none⟩)] (grow (redrawn wr d) os) (Says (grow (redrawn wr d) os) (roleB nd)) := fun d os => roleSpelt_any _ b (o + k * 7) nd L (hat.below (below_regrown wr d os) (by omega)) hlf.sz.role
      have hPr : ∀ d os, Calls Tryz.prog 66 #[.slice L.p.A L.p.n L.p.c] (grow (redrawn wr d) os) (Ret (grow (redrawn wr d) os) (.bool (propsB none nd.props))) := fun d os => propsSpelt_any _ hi L.p.A L.p.n L.p.c nd.props (hlf.p.below ((below_regrown wr d os).mono (by omega))) (by have := (below_regrown wr d os).size; omega) hlf.sz.props
      have hRe : ∀ d os, Calls Tryz.prog 67 #[.slice L.r.A L.r.n L.r.c, .int .i64 next] (grow (redrawn wr d) os) (Ret (grow (redrawn wr d) os) (.bool (refsB next none nd.refs))) := fun d os => refsSpelt_any _ hi next L.r.A L.r.n L.r.c nd.refs (hlf.r.below ((below_regrown wr d os).mono (by omega))) (by have := (below_regrown wr d os).size; omega) hlf.sz.refs
      have HS1 := Lib.hid hlf.sz.con
      have HD : Hid (nds.all (speltB next) = (wordB nd.con && roleB nd && propsB none nd.props && refsB next none nd.refs && (nds.drop (k + 1)).all (speltB next))) := Lib.hid (by rw [HK.out, hd, List.all_cons]; rfl)
      obtain ⟨cw, hw⟩ : ∃ x, wordB nd.con = x := ⟨_, rfl⟩
      obtain ⟨cr, hr⟩ : ∃ x, roleB nd = x := ⟨_, rfl⟩
      obtain ⟨cp, hp⟩ : ∃ x, propsB none nd.props = x := ⟨_, rfl⟩
      obtain ⟨cf, hf⟩ : ∃ x, refsB next none nd.refs = x := ⟨_, rfl⟩
      rw [hr] at hRo
      rw [hp] at hPr
      rw [hf] at hRe
      rw [hw, hr, hp, hf] at HD
      have HW := Lib.hid hw
      have HRo := Lib.hid hRo
      have HPr := Lib.hid hPr
      have HRe := Lib.hid hRe
      clear hw hr hp hf hRo hPr hRe hd hnd hat hlf hin HK hbel
      cases cw with
      | false =>
        have HZ : Hid (nds.all (speltB next) = false) := Lib.hid (by rw [HD.out]; simp)
        clear HD
        go_wp2_with fail
        refine wp_region_quiet_below (by kernel_rfl) (by kernel_rfl) ?_
        repeat (go_big_quiet_step (first | (go_at_call 64; exact regrown_ret (says_ret (word_is _ _ _ HS1.out HW.out))) | (go_at_call 65; exact regrown_ret (says_ret (HRo.out _ _))) | (go_at_call 66; exact regrown_ret (HPr.out _ _)) | (go_at_call 67; exact regrown_ret (HRe.out _ _))))
        refine wpQuiet_nil ?_
        intro _ hw'
        obtain ⟨⟨dq, osq⟩, hw''⟩ := hw'
        subst hw''
        have hb2 := below_regrown wr dq osq
        generalize grow (redrawn wr dq) osq = w2 at hb2 ⊢
        go_wp2_with fail
        go_ret
        exact ret_b HZ.out rfl (HB0.out.trans ((HBel.out.trans (hb2.mono HBel.out.size)).mono (by omega)))
      | true =>
        cases cr with
        | false =>
          have HZ : Hid (nds.all (speltB next) = false) := Lib.hid (by rw [HD.out]; simp)
          clear HD
          go_wp2_with fail
          refine wp_region_quiet_below (by kernel_rfl) (by kernel_rfl) ?_
          repeat (go_big_quiet_step (first | (go_at_call 64; exact regrown_ret (says_ret (word_is _ _ _ HS1.out HW.out))) | (go_at_call 65; exact regrown_ret (says_ret (HRo.out _ _))) | (go_at_call 66; exact regrown_ret (HPr.out _ _)) | (go_at_call 67; exact regrown_ret (HRe.out _ _))))
          refine wpQuiet_nil ?_
          intro _ hw'
          obtain ⟨⟨dq, osq⟩, hw''⟩ := hw'
          subst hw''
          have hb2 := below_regrown wr dq osq
          generalize grow (redrawn wr dq) osq = w2 at hb2 ⊢
          go_wp2_with fail
          go_ret
          exact ret_b HZ.out rfl (HB0.out.trans ((HBel.out.trans (hb2.mono HBel.out.size)).mono (by omega)))
        | true =>
          cases cp with
          | false =>
            have HZ : Hid (nds.all (speltB next) = false) := Lib.hid (by rw [HD.out]; simp)
            clear HD
            go_wp2_with fail
            refine wp_region_quiet_below (by kernel_rfl) (by kernel_rfl) ?_
            repeat (go_big_quiet_step (first | (go_at_call 64; exact regrown_ret (says_ret (word_is _ _ _ HS1.out HW.out))) | (go_at_call 65; exact regrown_ret (says_ret (HRo.out _ _))) | (go_at_call 66; exact regrown_ret (HPr.out _ _)) | (go_at_call 67; exact regrown_ret (HRe.out _ _))))
            refine wpQuiet_nil ?_
            intro _ hw'
            obtain ⟨⟨dq, osq⟩, hw''⟩ := hw'
            subst hw''
            have hb2 := below_regrown wr dq osq
            generalize grow (redrawn wr dq) osq = w2 at hb2 ⊢
            go_wp2_with fail
            go_ret
            exact ret_b HZ.out rfl (HB0.out.trans ((HBel.out.trans (hb2.mono HBel.out.size)).mono (by omega)))
          | true =>
            cases cf with
            | false =>
              have HZ : Hid (nds.all (speltB next) = false) := Lib.hid (by rw [HD.out]; simp)
              clear HD
              go_wp2_with fail
              refine wp_region_quiet_below (by kernel_rfl) (by kernel_rfl) ?_
              repeat (go_big_quiet_step (first | (go_at_call 64; exact regrown_ret (says_ret (word_is _ _ _ HS1.out HW.out))) | (go_at_call 65; exact regrown_ret (says_ret (HRo.out _ _))) | (go_at_call 66; exact regrown_ret (HPr.out _ _)) | (go_at_call 67; exact regrown_ret (HRe.out _ _))))
              refine wpQuiet_nil ?_
              intro _ hw'
              obtain ⟨⟨dq, osq⟩, hw''⟩ := hw'
              subst hw''
              have hb2 := below_regrown wr dq osq
              generalize grow (redrawn wr dq) osq = w2 at hb2 ⊢
              go_wp2_with fail
              go_ret
              exact ret_b HZ.out rfl (HB0.out.trans ((HBel.out.trans (hb2.mono HBel.out.size)).mono (by omega)))
            | true =>
              have HZ : Hid (nds.all (speltB next) = (nds.drop (k + 1)).all (speltB next)) := Lib.hid (by rw [HD.out]; simp)
              clear HD
              go_wp2_with fail
              refine wp_region_quiet_below (by kernel_rfl) (by kernel_rfl) ?_
              repeat (go_big_quiet_step (first | (go_at_call 64; exact regrown_ret (says_ret (word_is _ _ _ HS1.out HW.out))) | (go_at_call 65; exact regrown_ret (says_ret (HRo.out _ _))) | (go_at_call 66; exact regrown_ret (HPr.out _ _)) | (go_at_call 67; exact regrown_ret (HRe.out _ _))))
              refine wpQuiet_nil ?_
              intro _ hw'
              obtain ⟨⟨dq, osq⟩, hw''⟩ := hw'
              subst hw''
              have hb2 := below_regrown wr dq osq
              generalize grow (redrawn wr dq) osq = w2 at hb2 ⊢
              go_wp2_with fail
              go_roundw
              case rel => exact ⟨k + 1, by omega, by go_num, HZ, HBel.out.trans (hb2.mono HBel.out.size)⟩
              case measure => simp [intOf]; omega
    · have HZ : Hid (nds.all (speltB next) = true) := Lib.hid (by rw [HK.out, List.drop_eq_nil_of_le (by rw [HL.out]; omega)]; rfl)
      clear HK hbel
      go_wp2_with fail
      go_ret
      exact ret_b HZ.out rfl (HB0.out.trans (HBel.out.mono (by omega)))
end Go.Proofs.YtjjlofaejpnnnaaGreatDoor
namespace Go.Proofs.YtjjlofaejpnnnaaGreatDoor
open Go Go.RowKit Go.Sort
set_option linter.unusedVariables false
theorem intInfo : (Tryz.prog.info? 3).map (fun i => (i.zero, i.size, i.bytes)) = some (some (.int .i64 0), 1, 8) := by kernel_rfl
theorem made_ints (n : Nat) : madeCells #[.int .i64 0] n = (intCells (List.replicate n 0)).toArray := by
  apply Array.ext_getElem?
  intro i
  by_cases hi : i < n
  · simp [madeCells, intCells, hi, Nat.mod_one]
  · simp [madeCells, intCells, hi]
theorem make_ints (n : Nat) (hn : n ≤ 35184372088832) (w : World) :
    (Instr.makeSlice 40 (.int .i64 (n : Int)) (.int .i64 (n : Int))).run Tryz.prog w = .ok (.slice (some ⟨w.heap.size, 0, none⟩) n n) (w.alloc (.cells (intCells (List.replicate n 0)).toArray 3)) := by
  rw [← made_ints]
  exact run_make_row' (P := Tryz.prog) 40 3 (.int .i64 0) 8 Tryz.underlying40 intInfo rfl .i64 .i64 n (by omega) (by omega) w
def fillL (n k : Nat) : List Int := List.replicate k (-1) ++ List.replicate (n - k) 0
theorem fillL_len {n k : Nat} (h : k ≤ n) : (fillL n k).length = n := by simp [fillL]; omega
theorem fillL_set {n k : Nat} (h : k < n) : (fillL n k).set k (-1) = fillL n (k + 1) := by
  unfold fillL
  rw [List.set_append_right _ _ (by simp)]
  simp only [List.length_replicate, Nat.sub_self]
  rw [show n - k = (n - (k + 1)) + 1 from by omega, List.replicate_succ, List.set_cons_zero, List.replicate_succ', List.append_assoc]
  rfl
theorem fillL_end (n : Nat) : fillL n n = List.replicate n (-1) := by simp [fillL]
theorem fillL_start (n : Nat) : fillL n 0 = List.replicate n 0 := by simp [fillL]
theorem Below.setCell' {B : Nat} {a w : World} (h : Below B a w) {g i : Nat} (hp : B ≤ g) (u : Value) : Below B a (w.setCell ⟨g, i, none⟩ u) := h.setCell (p := ⟨g, i, none⟩) hp u
/-- what the program's joined answers -/
def Joined (w : World) (n : Nat) (r : Option (List Int)) (e : Ending) (w' : World) : Prop :=
  Below w.heap.size w w' ∧
  match r with
  | none => e = .returned (.tuple #[.slice none 0 0, .bool false])
  | some a => ∃ g, e = .returned (.tuple #[.slice (some ⟨g, 0, none⟩) n n, .bool true]) ∧ IBlk w' g a ∧ a.length = n ∧ w.heap.size ≤ g
theorem joined_no {w w' : World} {n : Nat} {r : Option (List Int)} {v : Value} (h : r = none) (hv : v = .tuple #[.slice none 0 0, .bool false]) (hb : Below w.heap.size w w') : Joined w n r (.returned v) w' := by
  subst h; exact ⟨hb, by rw [hv]⟩
theorem joined_yes {w w' : World} {n : Nat} {r : Option (List Int)} {v : Value} {a : List Int} {g : Nat} (h : r = some a) (hv : v = .tuple #[.slice (some ⟨g, 0, none⟩) n n, .bool true]) (hb : Below w.heap.size w w') (hi : IBlk w' g a) (hl : a.length = n) (hg : w.heap.size ≤ g) : Joined w n r (.returned v) w' := by
  subst h; exact ⟨hb, g, by rw [hv], hi, hl, hg⟩
/-- what holds in the loops: the box of the model, the numbers, nothing old has turned -/
structure JW (w : World) (next : Int) (A : Option Addr) (n c : Nat) (a : List Int) (wr : World) : Prop where
  md : Blk wr w.heap.size 25 #[.int .i64 next, .slice A n c]
  ab : IBlk wr (w.heap.size + 1) a
  bel : Below w.heap.size w wr
  len : a.length = n
section
variable {w wr w' : World} {next : Int} {A : Option Addr} {n c : Nat} {a : List Int}
theorem JW.c0 (h : JW w next A n c a wr) : wr.cell? ⟨w.heap.size, 0, none⟩ = some (.int .i64 next) := h.md.cell 0
theorem JW.c1 (h : JW w next A n c a wr) : wr.cell? ⟨w.heap.size, 1, none⟩ = some (.slice A n c) := h.md.cell 1
theorem JW.set_ (h : JW w next A n c a wr) (i : Nat) (x : Int) : JW w next A n c (a.set i x) (wr.setCell ⟨w.heap.size + 1, i, none⟩ (.int .i64 x)) :=
  ⟨h.md.far (p := ⟨_, _, none⟩) (by simp) _, h.ab.set_ i x, Below.setCell' h.bel (by omega) _, by rw [List.length_set]; exact h.len⟩
theorem JW.after (h : JW w next A n c a wr) (hb : Below wr.heap.size wr w') : JW w next A n c a w' :=
  ⟨h.md.after hb, h.ab.after hb, h.bel.trans (hb.mono h.bel.size), h.len⟩
theorem JW.drewN (h : JW w next A n c a wr) (q : Nat) : JW w next A n c a (wr.drewN q) := ⟨h.md, h.ab, below_drewN h.bel q, h.len⟩
end
set_option maxHeartbeats 3200000 in
theorem joined_any (w : World) (hi : Nat) (next : Int) (A : Option Addr) (n c : Nat) (nds : List Nd) (h : NodesIn w 0 hi A n c nds) (hh : hi ≤ w.heap.size) (hr : Rise nds) (hn : n ≤ 4096) :
    Calls Tryz.prog 32 #[.agg #[.int .i64 next, .slice A n c]] w (Joined w n (joinS nds)) := by
  have hc := h.2.2.1
  have hnc := h.2.1
  have HL := Lib.hid h.1
  unfold maxLen at hc
  have hmk := make_ints n (by omega)
  have J0 : JW w next A n c (List.replicate n 0) ((w.alloc (.cells #[.int .i64 next, .slice A n c] 25)).alloc (.cells (intCells (List.replicate n 0)).toArray 3)) :=
    ⟨(Blk.new _ _ _).alloc _, Blk.new' (by simp), (below_box _ _).alloc (by simp) _, by simp⟩
  have HJ0 := Lib.hid J0
  clear J0
  go_enter Tryz.func32, Tryz.ntmps32
  go_wp2_with fail
  clear hmk
  generalize ((w.alloc (.cells #[.int .i64 next, .slice A n c] 25)).alloc (.cells (intCells (List.replicate n 0)).toArray 3)) = W1 at HJ0 ⊢
  go_loopw [18] (fun i wr => ∃ k : Nat, k ≤ n ∧ i = .int .i64 k ∧ JW w next A n c (fillL n k) wr) (fun i _ => n - (intOf i).toNat)
  case atStart => exact ⟨0, by omega, rfl, by rw [fillL_start]; exact HJ0.out⟩
  case round =>
    obtain ⟨k, hk, rfl, J⟩ := hrel
    by_cases hlt : k < n
    · have hck := J.ab.cell (i := k) (by rw [fillL_len hk]; exact hlt)
      have hfk := Blk.frozen J.ab k
      have HJ := Lib.hid (J.set_ k (-1))
      rw [fillL_set hlt] at HJ
      clear J
      go_wp2_with fail
      go_roundw
      case rel => exact ⟨k + 1, by omega, by go_num, HJ.out⟩
      case measure => simp [intOf]; omega
    · have e : k = n := by omega
      rw [e, fillL_end] at J
      have c0 := J.c0
      have c1 := J.c1
      have HJ := Lib.hid J
      clear J e
      go_wp2_with fail
      clear c0 c1
      go_loopw [28] (fun i wo => ∃ (k : Nat) (a : List Int), k ≤ n ∧ i = .int .i64 k ∧ JW w next A n c a wo ∧ Hid (joinN nds 0 (List.replicate n (-1)) nds = joinN nds k a (nds.drop k))) (fun i _ => n - (intOf i).toNat)
      case atStart => exact ⟨0, _, by omega, rfl, HJ.out, Lib.hid rfl⟩
      case round =>
        clear HJ
        obtain ⟨k, a, hk, rfl, J, HK⟩ := hrel
        have c0 := J.c0
        have c1 := J.c1
        have HJ := Lib.hid J
        by_cases hlt : k < n
        · obtain ⟨b, o, rfl, _, hb, V, hV⟩ := h.all (by omega)
          have hbw : b < w.heap.size := Nat.lt_of_lt_of_le hb hh
          have hbel := J.bel
          obtain ⟨nd, hnd⟩ : ∃ nd, nds[k]? = some nd := ⟨nds[k]'(by have := HL.out; omega), List.getElem?_eq_getElem _⟩
          have hd : nds.drop k = nd :: nds.drop (k + 1) := by
            obtain ⟨hl', rfl⟩ := List.getElem?_eq_some_iff.1 hnd
            exact List.drop_eq_getElem_cons hl'
          obtain ⟨hat, hlf⟩ := hV k nd hnd
          obtain ⟨Ak, nk, ck, eL⟩ : ∃ Ak nk ck, (V k).k = ⟨Ak, nk, ck⟩ := ⟨_, _, _, rfl⟩
          have hkr := hlf.k
          have hkn := hlf.kn
          have hk5 := (hat.below hbel hbw).c5
          rw [eL] at hkr hkn hk5
          simp only at hkr hkn hk5
          have HKN := Lib.hid hkn
          have HAT := Lib.hid hat
          have hck := hkr.2.2.1
          have hnck := hkr.2.1
          unfold maxLen at hck
          have HX : Hid (joinN nds 0 (List.replicate n (-1)) nds = match joinK nds k nd.id a (nd.kids.drop 0) with | none => none | some a' => joinN nds (k + 1) a' (nds.drop (k + 1))) := Lib.hid (by rw [HK.out, hd]; rfl)
          have HV := Lib.hid hV
          have HND := Lib.hid hnd
          have HBL := Lib.hid hbel
          clear hkn hat hlf eL hd HK J hV hnd hbel
          go_wp2_with fail
          obtain ⟨wo, rfl⟩ : ∃ wo : World, wo = wr := ⟨_, rfl⟩
          clear c0 c1 hk5
          go_loopw [38] (fun i wr => ∃ (j : Nat) (a' : List Int), j ≤ nk ∧ i = .int .i64 j ∧ JW w next (some ⟨b, o, none⟩) n c a' wr ∧ Hid (joinN nds 0 (List.replicate n (-1)) nds = match joinK nds k nd.id a' (nd.kids.drop j) with | none => none | some a'' => joinN nds (k + 1) a'' (nds.drop (k + 1)))) (fun i _ => nk - (intOf i).toNat)
          case atStart => exact ⟨0, a, by omega, rfl, HJ.out, HX⟩
          case round =>
            clear HX HJ HBL
            obtain ⟨j, a', hj, rfl, J, HK⟩ := hrel
            have c0 := J.c0
            have c1 := J.c1
            by_cases hjl : j < nk
            · obtain ⟨b', o', rfl, _, hb', hcells⟩ := (hkr.below (J.bel.mono hh)).at_ (by omega)
              obtain ⟨kid, hkid⟩ : ∃ kid, nd.kids[j]? = some kid := ⟨nd.kids[j]'(by have := HKN.out; omega), List.getElem?_eq_getElem _⟩
              have hkc := hcells j _ (intCells_get hkid)
              have hkd : nd.kids.drop j = kid :: nd.kids.drop (j + 1) := by
                obtain ⟨hl', rfl⟩ := List.getElem?_eq_some_iff.1 hkid
                exact List.drop_eq_getElem_cons hl'
              have hix := index_any wr hi next kid (some ⟨b, o, none⟩) n c nds (h.below (J.bel.mono hh)) (by have := J.bel.size; omega) hr hn
              cases hx : ixOf nds kid with
              | none =>
                have HZ : Hid (joinS nds = none) := Lib.hid (by
                  unfold joinS
                  rw [HL.out, HK.out, hkd, joinK, hx])
                have hv : ixV nds kid = .tuple #[.int .i64 (rank nds kid), .bool false] := by unfold ixV; rw [hx]; rfl
                rw [hv] at hix
                have HIX := Lib.hid hix
                have HJ := Lib.hid J
                clear hkid hkd hcells hix hx hv J HK
                go_wp2_with (go_at_call 68; refine HIX.out.mono ?_; rintro e w2 ⟨rfl, hb2⟩; obtain ⟨q1, q2⟩ := bcell hb2)
                go_quiet (fail)
                go_wp2_with fail
                go_ret2
                exact joined_no HZ.out rfl (below_drewN (HJ.out.after hb2).bel _)
              | some jx =>
                have hjx := ixOf_lt hx
                rw [HL.out] at hjx
                obtain ⟨kd, hkd', hkid'⟩ := ixOf_some hx
                have hv : ixV nds kid = .tuple #[.int .i64 jx, .bool true] := by unfold ixV; rw [hx, rank_ix hr hx]; rfl
                rw [hv] at hix
                have HIX := Lib.hid hix
                have hp := ((HV.out jx kd hkd').1.below J.bel hbw).c2
                have hi0 := (HAT.out.below J.bel hbw).c0
                have hac := J.ab.cell (i := jx) (by rw [J.len]; exact hjx)
                have haf := Blk.frozen J.ab jx
                have hg1 := J.ab.lt
                have hbr : b < wr.heap.size := by have := J.bel.size; omega
                have hg0 : w.heap.size < wr.heap.size := by omega
                have HS : Hid (joinN nds 0 (List.replicate n (-1)) nds = match (if kd.par = nd.id ∧ a'.getD jx 0 = -1 then joinK nds k nd.id (a'.set jx k) (nd.kids.drop (j + 1)) else none) with | none => none | some a'' => joinN nds (k + 1) a'' (nds.drop (k + 1))) := Lib.hid (by
                  rw [HK.out, hkd, joinK, hx]; simp only [hkd'])
                have HJ := Lib.hid J
                obtain ⟨av, hav⟩ : ∃ av, a'.getD jx 0 = av := ⟨_, rfl⟩
                rw [hav] at hac HS
                clear hkid hkd hcells hix hx hv J HK hkd' hkid' hav
                by_cases e1 : kd.par = nd.id
                · have d1 : (kd.par != nd.id) = false := by rw [bne_eq_false_iff_eq]; exact e1
                  by_cases e2 : av = -1
                  · have d2 : (av != -1) = false := by rw [bne_eq_false_iff_eq]; exact e2
                    have HZ : Hid (joinN nds 0 (List.replicate n (-1)) nds = match joinK nds k nd.id (a'.set jx k) (nd.kids.drop (j + 1)) with | none => none | some a'' => joinN nds (k + 1) a'' (nds.drop (k + 1))) := Lib.hid (by rw [HS.out, if_pos ⟨e1, e2⟩])
                    clear e1 e2 HS
                    go_wp2_with (go_at_call 68; refine HIX.out.mono ?_; rintro e w2 ⟨rfl, hb2⟩; obtain ⟨q1, q2⟩ := bcell hb2)
                    go_quiet (fail)
                    go_wp2_with fail
                    go_roundw
                    case rel => exact ⟨j + 1, _, by omega, by go_num, ((HJ.out.after hb2).set_ jx k).drewN _, HZ⟩
                    case measure => simp [intOf]; omega
                  · have d2 : (av != -1) = true := by rw [bne_iff_ne]; exact e2
                    have HZ : Hid (joinS nds = none) := Lib.hid (by unfold joinS; rw [HL.out, HS.out, if_neg (fun h => e2 h.2)])
                    clear e1 e2 HS
                    go_wp2_with (go_at_call 68; refine HIX.out.mono ?_; rintro e w2 ⟨rfl, hb2⟩; obtain ⟨q1, q2⟩ := bcell hb2)
                    go_quiet (fail)
                    go_wp2_with fail
                    go_ret2
                    exact joined_no HZ.out rfl (below_drewN (HJ.out.after hb2).bel _)
                · have d1 : (kd.par != nd.id) = true := by rw [bne_iff_ne]; exact e1
                  have HZ : Hid (joinS nds = none) := Lib.hid (by unfold joinS; rw [HL.out, HS.out, if_neg (fun h => e1 h.1)])
                  clear e1 HS
                  go_wp2_with (go_at_call 68; refine HIX.out.mono ?_; rintro e w2 ⟨rfl, hb2⟩; obtain ⟨q1, q2⟩ := bcell hb2)
                  go_quiet (fail)
                  go_wp2_with fail
                  go_ret2
                  exact joined_no HZ.out rfl (below_drewN (HJ.out.after hb2).bel _)
            · have HZ : Hid (joinN nds 0 (List.replicate n (-1)) nds = joinN nds (k + 1) a' (nds.drop (k + 1))) := Lib.hid (by rw [HK.out, List.drop_eq_nil_of_le (by have := HKN.out; omega)]; rfl)
              have HJ := Lib.hid J
              clear J HK
              go_wp2_with fail
              go_roundw
              case rel => exact ⟨k + 1, a', by omega, by go_num, HJ.out, HZ⟩
              case measure => simp [intOf]; omega
        · have HX : Hid (joinN nds 0 (List.replicate n (-1)) nds = some a) := Lib.hid (by rw [HK.out, List.drop_eq_nil_of_le (by rw [HL.out]; omega)]; rfl)
          have HS : Hid (joinS nds = if looseB a nds then none else some a) := Lib.hid (by unfold joinS; rw [HL.out, HX.out])
          clear HK J HX
          go_wp2_with fail
          go_loop [81] (fun i => ∃ m : Nat, m ≤ n ∧ i = .int .i64 m ∧ Hid (looseB a nds = looseB (a.drop m) (nds.drop m))) (fun i => n - (intOf i).toNat)
          case atStart => exact ⟨0, by omega, rfl, Lib.hid rfl⟩
          case round =>
            obtain ⟨m, hm, rfl, HM⟩ := hrel
            by_cases hml : m < n
            · obtain ⟨b, o, rfl, _, hb, V, hV⟩ := h.all (by omega)
              have hbw : b < w.heap.size := Nat.lt_of_lt_of_le hb hh
              obtain ⟨nd, hnd⟩ : ∃ nd, nds[m]? = some nd := ⟨nds[m]'(by have := HL.out; omega), List.getElem?_eq_getElem _⟩
              have hp := ((hV m nd hnd).1.below HJ.out.bel hbw).c2
              have hac := HJ.out.ab.cell (i := m) (by rw [HJ.out.len]; exact hml)
              have hd : nds.drop m = nd :: nds.drop (m + 1) := by
                obtain ⟨hl', rfl⟩ := List.getElem?_eq_some_iff.1 hnd
                exact List.drop_eq_getElem_cons hl'
              obtain ⟨av, hav⟩ : ∃ av, a.getD m 0 = av := ⟨_, rfl⟩
              have had : a.drop m = av :: a.drop (m + 1) := by
                have hl' : m < a.length := by rw [HJ.out.len]; exact hml
                rw [List.drop_eq_getElem_cons hl', ← hav, List.getD_eq_getElem?_getD, List.getElem?_eq_getElem hl']
                rfl
              have HY : Hid (looseB a nds = ((av == -1 && nd.par != 0) || looseB (a.drop (m + 1)) (nds.drop (m + 1)))) := Lib.hid (by rw [HM.out, hd, had]; rfl)
              rw [hav] at hac
              clear hav had hd hnd hV HM
              by_cases e1 : av = -1
              · have d1 : (av == -1) = true := by rw [beq_iff_eq]; exact e1
                by_cases e2 : nd.par = 0
                · have d2 : (nd.par != 0) = false := by rw [bne_eq_false_iff_eq]; exact e2
                  have HZ : Hid (looseB a nds = looseB (a.drop (m + 1)) (nds.drop (m + 1))) := Lib.hid (by rw [HY.out, d2]; simp)
                  clear e1 e2 HY
                  go_wp2_with fail
                  go_round
                  case rel => exact ⟨m + 1, by omega, by go_num, HZ⟩
                  case measure => simp [intOf]; omega
                · have d2 : (nd.par != 0) = true := by rw [bne_iff_ne]; exact e2
                  have HZ : Hid (joinS nds = none) := Lib.hid (by rw [HS.out, HY.out, d1, d2]; rfl)
                  clear e1 e2 HY
                  go_wp2_with fail
                  go_ret2
                  exact joined_no HZ.out rfl HJ.out.bel
              · have d1 : (av == -1) = false := by rw [beq_eq_false_iff_ne]; exact e1
                have HZ : Hid (looseB a nds = looseB (a.drop (m + 1)) (nds.drop (m + 1))) := Lib.hid (by rw [HY.out, d1]; simp)
                clear e1 HY
                go_wp2_with fail
                go_round
                case rel => exact ⟨m + 1, by omega, by go_num, HZ⟩
                case measure => simp [intOf]; omega
            · have HZ : Hid (joinS nds = some a) := Lib.hid (by
                have e : looseB a nds = false := by
                  have hl' := HJ.out.len
                  have ha : a.drop m = [] := List.drop_eq_nil_of_le (by omega)
                  rw [HM.out, ha]
                  rfl
                rw [HS.out, e]; rfl)
              clear HM
              go_wp2_with fail
              go_ret2
              exact joined_yes HZ.out rfl HJ.out.bel HJ.out.ab HJ.out.len (by omega)
end Go.Proofs.YtjjlofaejpnnnaaGreatDoor
namespace Go.Proofs.YtjjlofaejpnnnaaGreatDoor
open Go Go.RowKit
set_option linter.unusedVariables false
def countF (tot : Int) : Nat → List Int → List Int → List Int
  | _, dl, [] => dl
  | i, dl, at_ :: r => countF tot (i + 1) (dl.set at_.toNat (tot - i)) r
theorem countF_len (tot : Int) : ∀ (r : List Int) (i : Nat) (dl : List Int), (countF tot i dl r).length = dl.length
  | [], _, _ => rfl
  | x :: r, i, dl => by rw [countF, countF_len tot r, List.length_set]
theorem countF_get (tot : Int) : ∀ (r : List Int) (i : Nat) (dl : List Int) (j : Nat), j < dl.length → (countF tot i dl r).getD j 0 = dl.getD j 0 ∨ ∃ (m : Nat) (x : Int), r[m]? = some x ∧ x.toNat = j ∧ (countF tot i dl r).getD j 0 = tot - (i + m : Nat)
  | [], _, _, _, _ => .inl rfl
  | x :: r, i, dl, j, hj => by
    rw [countF]
    rcases countF_get tot r (i + 1) (dl.set x.toNat (tot - i)) j (by rw [List.length_set]; exact hj) with h | ⟨m, y, h1, h2, h3⟩
    · by_cases e : x.toNat = j
      · right
        refine ⟨0, x, rfl, e, ?_⟩
        rw [h, getD_set (by omega), if_pos e]
        simp
      · left
        rw [h, List.getD_eq_getElem?_getD, List.getD_eq_getElem?_getD, List.getElem?_set, if_neg e]
    · right
      exact ⟨m + 1, y, by simpa using h1, h2, by rw [h3]; congr 1; omega⟩
/-- so many steps up -/
def up (a : List Int) : Nat → Int → Int
  | 0, x => x
  | m + 1, x => up a m (a.getD x.toNat (-1))
theorem up_succ (a : List Int) : ∀ (m : Nat) (x : Int), up a (m + 1) x = a.getD (up a m x).toNat (-1)
  | 0, x => rfl
  | m + 1, x => by rw [up, up_succ a m]; rfl
def chain (a : List Int) (i : Int) (L : Nat) : List Int := (List.range L).map fun m => up a m i
theorem chain_len (a : List Int) (i : Int) (L : Nat) : (chain a i L).length = L := by simp [chain]
theorem chain_get {a : List Int} {i : Int} {L m : Nat} {x : Int} (h : (chain a i L)[m]? = some x) : m < L ∧ x = up a m i := by
  simp only [chain, List.getElem?_map, List.getElem?_range'] at h
  by_cases hm : m < L
  · rw [List.getElem?_range hm] at h
    injection h with h
    exact ⟨hm, h.symm⟩
  · rw [List.getElem?_eq_none (by simp; omega)] at h
    cases h
theorem chain_snoc (a : List Int) (i : Int) (L : Nat) : chain a i (L + 1) = chain a i L ++ [up a L i] := by
  simp [chain, List.range_succ]
theorem lvl_step {a : List Int} {f : Nat} {x : Int} (h : x ≠ -1) : lvl a (f + 1) x = (lvl a f (a.getD x.toNat (-1))).map (· + 1) := by rw [lvl, if_neg h]
theorem lvl_end (a : List Int) (f : Nat) : lvl a f (-1) = some 0 := by cases f <;> simp [lvl]
theorem lvl_more {a : List Int} : ∀ {f d : Nat} {x : Int}, lvl a f x = some d → d ≤ f ∧ ∀ f', (d ≤ f' → lvl a f' x = some d) ∧ (f' < d → lvl a f' x = none)
  | f, d, x, h => by
    by_cases hx : x = -1
    · subst hx
      rw [lvl_end] at h
      injection h with h
      subst h
      exact ⟨Nat.zero_le _, fun f' => ⟨fun _ => lvl_end a f', fun h => absurd h (by omega)⟩⟩
    · match f, h with
      | 0, h => rw [lvl, if_neg hx] at h; cases h
      | f + 1, h =>
        rw [lvl_step hx] at h
        obtain ⟨d', h1, rfl⟩ := Option.map_eq_some_iff.1 h
        obtain ⟨g1, g2⟩ := lvl_more h1
        refine ⟨by omega, fun f' => ?_⟩
        match f' with
        | 0 => exact ⟨fun h => absurd h (by omega), fun _ => by rw [lvl, if_neg hx]⟩
        | f' + 1 =>
          rw [lvl_step hx]
          exact ⟨fun h => by rw [(g2 f').1 (by omega)]; rfl, fun h => by rw [(g2 f').2 (by omega)]; rfl⟩
/-- a way up of L nodes, then a node of which the depth is known -/
theorem lvl_chain {a : List Int} {d : Nat} : ∀ {L : Nat} {i : Int}, (∀ m, m < L → up a m i ≠ -1) → (∃ f, lvl a f (up a L i) = some d) → ∀ m, m ≤ L → ∀ f, (d + (L - m) ≤ f → lvl a f (up a m i) = some (d + (L - m))) ∧ (f < d + (L - m) → lvl a f (up a m i) = none)
  | 0, i, h, ⟨f0, h0⟩, m, hm, f => by
    obtain rfl : m = 0 := by omega
    have := (lvl_more h0).2 f
    simpa using this
  | L + 1, i, h, h0, m, hm, f => by
    match m, hm with
    | m + 1, hm =>
      have := lvl_chain (L := L) (i := a.getD i.toNat (-1)) (fun k hk => h (k + 1) (by omega)) h0 m (by omega) f
      rw [show L + 1 - (m + 1) = L - m from by omega]
      exact this
    | 0, hm =>
      have hi := h 0 (by omega)
      have hi : i ≠ -1 := hi
      have ih := lvl_chain (L := L) (i := a.getD i.toNat (-1)) (fun k hk => h (k + 1) (by omega)) h0 0 (by omega)
      simp only [Nat.sub_zero, up] at ih ⊢
      match f with
      | 0 => exact ⟨fun h => absurd h (by omega), fun _ => by rw [lvl, if_neg hi]⟩
      | f + 1 =>
        rw [lvl_step hi]
        exact ⟨fun h => by rw [(ih f).1 (by omega)]; rfl, fun h => by rw [(ih f).2 (by omega)]; rfl⟩
/-- a way up that is too long -/
theorem lvl_long {a : List Int} : ∀ {L : Nat} {i : Int}, (∀ m, m ≤ L → up a m i ≠ -1) → lvl a L i = none
  | 0, i, h => by
    have hi : i ≠ -1 := h 0 (by omega)
    rw [lvl, if_neg hi]
  | L + 1, i, h => by
    have hi : i ≠ -1 := h 0 (by omega)
    rw [lvl_step hi, lvl_long (fun m hm => h (m + 1) (by omega))]
    rfl
/-- the depths that are written down so far are right -/
def DInv (a dl : List Int) : Prop := dl.length = a.length ∧ ∀ j, j < a.length → ∃ d : Nat, dl.getD j 0 = d ∧ (d = 0 ∨ lvl a 64 j = some d)
theorem DInv.start (a : List Int) : DInv a (List.replicate a.length 0) :=
  ⟨by simp, fun j hj => ⟨0, by rw [List.getD_eq_getElem?_getD, List.getElem?_replicate, if_pos hj]; rfl, .inl rfl⟩⟩
theorem DInv.count {a dl : List Int} (h : DInv a dl) {i : Int} {L d : Nat} (hup : ∀ m, m < L → 0 ≤ up a m i) (hd : ∃ f, lvl a f (up a L i) = some d) (h64 : d + L ≤ 64) :
    DInv a (countF ((d : Int) + L) 0 dl (chain a i L)) := by
  refine ⟨by rw [countF_len]; exact h.1, fun j hj => ?_⟩
  rcases countF_get ((d : Int) + L) (chain a i L) 0 dl j (by rw [h.1]; exact hj) with e | ⟨m, x, h1, h2, h3⟩
  · obtain ⟨d', g1, g2⟩ := h.2 j hj
    exact ⟨d', by rw [e]; exact g1, g2⟩
  · obtain ⟨hm, rfl⟩ := chain_get h1
    refine ⟨d + (L - m), by rw [h3]; omega, .inr ?_⟩
    have hx := hup m hm
    have := (lvl_chain (fun k hk => by have := hup k hk; omega) hd m (by omega) 64).1 (by omega)
    rw [← this]
    congr 1
    omega
end Go.Proofs.YtjjlofaejpnnnaaGreatDoor

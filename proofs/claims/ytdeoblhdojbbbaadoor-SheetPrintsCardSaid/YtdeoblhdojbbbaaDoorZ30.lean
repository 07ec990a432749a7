/-
  WALKS over package sheet: Print.
-/
import Derived.Test.YtdeoblhdojbbbaaDoorZ29
import Derived.Laws.EntriesVeiled
namespace Go.Proofs.YtdeoblhdojbbbaaDoor
open Go Go.RowKit
set_option linter.unusedVariables false
theorem name_sz : ∀ l : List UInt8, nameL l = true → l.length ≤ 32
  | [], _ => by simp
  | c :: r, h => by
    simp only [nameL, Bool.and_eq_true, decide_eq_true_eq] at h
    rw [List.length_cons]; have := h.1.1; omega
theorem word_sz {s : ByteArray} (h : wordB s = true) : s.size ≤ 4096 := by
  unfold wordB wordL at h
  have h1 := name_sz _ h
  rw [← toList_eq]
  unfold stripL at h1
  split at h1
  · rename_i e; rw [e]; simp
  · rename_i c r e
    rw [e, List.length_cons]
    split at h1
    · omega
    · rw [List.length_cons] at h1; omega
theorem props_sz : ∀ (l : List (ByteArray × ByteArray)) (q : Option ByteArray), propsB q l = true → ∀ p ∈ l, p.1.size ≤ 4096 ∧ p.2.size ≤ 4096
  | [], _, _, p, hp => by cases hp
  | x :: l, q, h, p, hp => by
    unfold propsB at h
    simp only [Bool.and_eq_true, decide_eq_true_eq] at h
    rcases List.mem_cons.1 hp with rfl | hp
    · exact ⟨word_sz h.1.1.1, h.1.1.2⟩
    · exact props_sz l _ h.2 p hp
theorem refs_sz (next : Int) : ∀ (l : List (ByteArray × Int)) (q : Option ByteArray), refsB next q l = true → ∀ p ∈ l, p.1.size ≤ 4096 ∧ 1 ≤ p.2 ∧ p.2 < next
  | [], _, _, p, hp => by cases hp
  | x :: l, q, h, p, hp => by
    unfold refsB at h
    simp only [Bool.and_eq_true, decide_eq_true_eq] at h
    rcases List.mem_cons.1 hp with rfl | hp
    · exact ⟨word_sz h.1.1.1.1, h.1.1.1.2, h.1.1.2⟩
    · exact refs_sz next l _ h.2 p hp
theorem nd_ok {next : Int} {nds : List Nd} (hr : RightM next nds) {nd : Nd} (h : nd ∈ nds) : NdOk nd := by
  have h1 := hr.plain nd h
  unfold plainB at h1
  simp only [Bool.and_eq_true, decide_eq_true_eq] at h1
  obtain ⟨i, hi⟩ := List.getElem?_of_mem h
  have h2 := hr.rise.pos i nd hi
  have h3 := hr.lt i nd hi
  have h4 := hr.hi
  have h5 := hr.below nd h
  refine ⟨by omega, by omega, word_sz h1.1.1.1.1, ?_, props_sz _ _ h1.1.1.2, fun r hr2 => ?_⟩
  · unfold belowB at h5
    split at h5
    · rw [Lib.toList_data] at h5
      have : nd.role.size = 0 := by
        have h6 := List.isEmpty_iff.1 h5
        have := congrArg List.length h6
        rw [Array.length_toList] at this
        exact this
      omega
    · split at h5
      · cases h5
      · simp only [Bool.and_eq_true] at h5
        exact word_sz h5.1.1
  · have := refs_sz next _ _ h1.1.2 r hr2
    exact ⟨this.1, by omega, by omega⟩
theorem roots_take' {nds : List Nd} {j : Nat} {nd : Nd} (h : nds[j]? = some nd) : rootsV (nds.take (j + 1)) = rootsV (nds.take j) ++ if nd.par == 0 then [nd.id] else [] := by
  unfold rootsV
  rw [List.take_add_one, h, List.filter_append, List.map_append]
  cases hp : (nd.par == 0) <;> simp [hp]
theorem PB.far {gp B : Nat} {L : List UInt8} {v : Value} {X : World} (h : PB gp B L v X) {g i : Nat} {u : Value} {T : TypeId} {cs : Array Value} (hb : Blk X g T cs) (hg : g ≠ gp) (hT : (T != 5) = true := by rfl) : PB gp B L v (X.setCell ⟨g, i, none⟩ u) := by
  refine ⟨h.t.far (p := ⟨g, i, none⟩) (by show gp ≠ g; omega) u, ⟨h.o.1, ?_⟩, h.lt, Nat.le_trans h.sz ((Below.refl 0 X).setCell (p := ⟨g, i, none⟩) (Nat.zero_le _) u).size⟩
  rcases h.o.2 with hn | ⟨k, cap, cur, hv, hk, hgg, rest⟩
  · exact .inl hn
  · refine .inr ⟨k, cap, cur, hv, hk, (Below.heap_setCell X ⟨g, i, none⟩ u k (fun he => ?_)).trans hgg, rest⟩
    have he2 : k = g := he
    subst he2
    unfold Blk at hb
    rw [hgg] at hb
    injection hb with hb
    injection hb with _ h2 _
    subst h2
    simp at hT
def PrintP (w : World) (r : List UInt8 × Int) (e : Ending) (w' : World) : Prop := e = .returned (.tuple #[.string ⟨r.1.toArray⟩, .int .i64 r.2]) ∧ Below w.heap.size w w'
theorem printP {w w' : World} {r : List UInt8 × Int} {T : List UInt8} {x : Int} (hr : r = (T, x)) (hb : Below w.heap.size w w') : PrintP w r (.returned (.tuple #[.string ⟨T.toArray⟩, .int .i64 x])) w' := by subst hr; exact ⟨rfl, hb⟩
theorem checkV_no' {next : Int} {nds : List Nd} (h : rightB next nds = false) : checkV next nds = 29 := by unfold checkV; rw [h]; rfl
theorem checkV_yes' {next : Int} {nds : List Nd} (h : rightB next nds = true) : checkV next nds = 0 := by unfold checkV; rw [h]; rfl
set_option maxRecDepth 20000 in
set_option maxHeartbeats 6400000 in
theorem print_any (w : World) (hi : Nat) (next : Int) (A : Option Addr) (n c : Nat) (nds : List Nd) (h : NodesIn w 0 hi A n c nds) (hh : hi ≤ w.heap.size) (hE : TabEnv w) :
    Calls Tryd.prog 6 #[.agg #[.int .i64 next, .slice A n c]] w (PrintP w (printV next nds)) := by
  have HH := Lib.hid h
  have HE := Lib.hid hE
  have hgt : 0 < w.heap.size := var_lt gTab hE
  have HM0 : Hid (Blk (w.alloc (.cells #[.int .i64 next, .slice A n c] 24)) w.heap.size 24 #[.int .i64 next, .slice A n c]) := Lib.hid (Blk.new _ _ _)
  have HB0 : Hid (Below w.heap.size w (w.alloc (.cells #[.int .i64 next, .slice A n c] 24))) := Lib.hid ((Below.refl _ _).alloc (Nat.le_refl _) _)
  have hc := h.2.2.1
  have hnc := h.2.1
  unfold maxLen at hc
  clear h hE
  generalize hpv : printV next nds = pv
  have HPV := Lib.hid hpv
  clear hpv
  go_enter Tryd.func6, Tryd.ntmps6
  go_upto_region 1 with (fail)
  generalize w.alloc (.cells #[.int .i64 next, .slice A n c] 24) = W0 at HM0 HB0 ⊢
  have a0 := (HM0.out.cell 0).trans (show _ = some (.int .i64 next) from rfl)
  have a1 := (HM0.out.cell 1).trans (show _ = some (.slice A n c) from rfl)
  have HCh := Lib.hid (check_any W0 hi next A n c nds (HH.out.below (HB0.out.mono hh)) (Nat.le_trans hh HB0.out.size))
  cases hrt : rightB next nds with
  | false =>
    have HX : Hid (pv = ([], 29)) := Lib.hid (by rw [← HPV.out]; unfold printV; rw [hrt]; rfl)
    rw [checkV_no' hrt] at HCh
    clear hrt
    go_wp2_with (go_at_call 10; refine HCh.out.mono ?_; rintro e w2 ⟨rfl, hb2⟩; have HB2 := Lib.hid (HB0.out.trans (hb2.mono HB0.out.size)); clear hb2)
    go_ret2
    exact printP HX.out HB2.out
  | true =>
    have hR := rightM hrt
    have HR := Lib.hid hR
    have hn4 : n ≤ 4096 := by rw [← HH.out.1]; exact hR.len
    have HX : Hid (pv = toldV ((headL next :: (pre nds 64 1 (rootsV nds)).flatMap (nodeT nds)).flatten)) := Lib.hid (by rw [← HPV.out]; unfold printV; rw [hrt]; rfl)
    rw [checkV_yes' hrt] at HCh
    obtain ⟨T, hT, hTs, hTe⟩ := itoa_text next (by have := hR.lo; omega) (by have := hR.hi; omega)
    have hlo := hR.lo
    have hhi2 := hR.hi
    clear hrt hR
    go_upto_region 4 with (go_at_call 10; refine HCh.out.mono ?_; rintro e w2 ⟨rfl, hb2⟩; have HB2 := Lib.hid (HB0.out.trans (hb2.mono HB0.out.size)); have HM2 := Lib.hid (HM0.out.after hb2); clear hb2)
    have HP3 : Hid (PB w2.heap.size (w2.heap.size + 1) [] (.slice none 0 0) (w2.alloc (.cells #[.slice none 0 0] 42))) := Lib.hid ⟨Blk.new _ _ _, ownB.nil _ _, by omega, by simp⟩
    have HM3 := Lib.hid (HM2.out.alloc (.cells #[.slice none 0 0] 42))
    have HB3 : Hid (Below w.heap.size w (w2.alloc (.cells #[.slice none 0 0] 42))) := Lib.hid (HB2.out.alloc HB2.out.size _)
    have HGP : Hid (w.heap.size < w2.heap.size) := Lib.hid HM2.out.lt
    generalize w2.alloc (.cells #[.slice none 0 0] 42) = W3 at HP3 HM3 HB3 ⊢
    generalize w2.heap.size = gp at HP3 HGP ⊢
    have hgp := HGP.out
    have a3 := (HM3.out.cell 0).trans (show _ = some (.int .i64 next) from rfl)
    have HSH : Hid (∀ Y, Below w.heap.size w Y → Calls Tryd.prog 12 #[.int .i64 next] Y fun e w' => e = .returned (.string T) ∧ Below Y.heap.size Y w') := Lib.hid fun Y hY => (show_s next Y (by omega) (by omega) (tab_keep HE.out hY hgt)).mono fun e w' he => ⟨by rw [he.1, hTe], he.2⟩
    have z1 : ¬ 9223372036854775807 < 5 + T.size := by omega
    have HHL : Hid (pageA [] (bl 0 ++ ((⟨#[110, 101, 120, 116, 32]⟩ : ByteArray) ++ T).data.toList ++ [10]) = headL next) := Lib.hid (by
      unfold pageA headL
      rw [if_neg (by simp), append_list, hT]
      simp [bl])
    have HLI : Hid (∀ Y, Below W3.heap.size W3 Y → Calls Tryd.prog 11 #[.pointer (some ⟨gp, 0, none⟩), .int .i64 0, .string (⟨#[110, 101, 120, 116, 32]⟩ ++ T)] Y (LineP gp (gp + 1) Y (headL next))) := Lib.hid fun Y hY => by
      rw [← HHL.out]
      exact line_any Y gp (gp + 1) [] _ 0 _ (HP3.out.after hY) (by omega) (by rw [ByteArray.size_append]; have : (⟨#[110, 101, 120, 116, 32]⟩ : ByteArray).size = 5 := rfl; omega)
    clear a0 a1 HCh
    go_upto_region 5 with (first | (go_at_call 12; refine (HSH.out _ HB3.out).mono ?_; rintro e w4 ⟨rfl, hb4⟩; have HB34 := Lib.hid hb4; clear hb4) | (go_at_call 11; refine (HLI.out _ HB34.out).mono ?_; rintro e w5 ⟨rfl, hp5, hk5⟩; have HP5 := Lib.hid hp5; have HK5 : Hid (KeepP gp (gp + 1) W3 w5) := Lib.hid ((KeepP.after HB34.out).trans hk5); clear hp5 hk5))
    have HW3 : Hid (gp < W3.heap.size) := Lib.hid HP3.out.t.lt
    have HB5 : Hid (Below w.heap.size w w5) := Lib.hid (HB3.out.trans ((HK5.out.below (by omega) (by have := HW3.out; omega)).mono (by omega)))
    have HM5 := Lib.hid (HK5.out.blk HM3.out (by omega))
    have a5 := (HM5.out.cell 1).trans (show _ = some (.slice A n c) from rfl)
    obtain ⟨v5, hv5⟩ := HP5.out
    have HV5 : Hid (PB gp (gp + 1) (headL next) v5 (w5.alloc (.cells #[.nilFunc] 45))) := Lib.hid (hv5.alloc _)
    have HD6 : Hid (Blk (w5.alloc (.cells #[.nilFunc] 45)) w5.heap.size 45 #[.nilFunc]) := Lib.hid (Blk.new _ _ _)
    have HM6 := Lib.hid (HM5.out.alloc (.cells #[.nilFunc] 45))
    have HB6 : Hid (Below w.heap.size w (w5.alloc (.cells #[.nilFunc] 45))) := Lib.hid (HB5.out.alloc HB5.out.size _)
    have hgd : gp < w5.heap.size := hv5.t.lt
    clear hv5 a3 a5
    go_upto_region 6 with (fail)
    generalize w5.alloc (.cells #[.nilFunc] 45) = W6 at HV5 HD6 HM6 HB6 ⊢
    generalize w5.heap.size = gd at HD6 hgd ⊢
    have cz := (HD6.out.cell 0).trans (show _ = some .nilFunc from rfl)
    have fz := HD6.out.frozen 0
    have HP7 : Hid (PB gp (gp + 1) (headL next) v5 (W6.setCell ⟨gd, 0, none⟩ (.func (.func 13) #[] #[.pointer (some ⟨gp, 0, none⟩), .pointer (some ⟨gd, 0, none⟩), .pointer (some ⟨w.heap.size, 0, none⟩)]))) := Lib.hid (HV5.out.far HD6.out (by omega))
    have HD7 : Hid (Blk (W6.setCell ⟨gd, 0, none⟩ (.func (.func 13) #[] #[.pointer (some ⟨gp, 0, none⟩), .pointer (some ⟨gd, 0, none⟩), .pointer (some ⟨w.heap.size, 0, none⟩)])) gd 45 #[.func (.func 13) #[] #[.pointer (some ⟨gp, 0, none⟩), .pointer (some ⟨gd, 0, none⟩), .pointer (some ⟨w.heap.size, 0, none⟩)]]) := Lib.hid (by
      have := HD6.out.set_ 0 (.func (.func 13) #[] #[.pointer (some ⟨gp, 0, none⟩), .pointer (some ⟨gd, 0, none⟩), .pointer (some ⟨w.heap.size, 0, none⟩)])
      simpa using this)
    have HM7 : Hid (Blk (W6.setCell ⟨gd, 0, none⟩ (.func (.func 13) #[] #[.pointer (some ⟨gp, 0, none⟩), .pointer (some ⟨gd, 0, none⟩), .pointer (some ⟨w.heap.size, 0, none⟩)])) w.heap.size 24 #[.int .i64 next, .slice A n c]) := Lib.hid (HM6.out.far (p := ⟨gd, 0, none⟩) (by show w.heap.size ≠ gd; omega) _)
    have HB7 : Hid (Below w.heap.size w (W6.setCell ⟨gd, 0, none⟩ (.func (.func 13) #[] #[.pointer (some ⟨gp, 0, none⟩), .pointer (some ⟨gd, 0, none⟩), .pointer (some ⟨w.heap.size, 0, none⟩)]))) := Lib.hid (HB6.out.setCell (p := ⟨gd, 0, none⟩) (by show w.heap.size ≤ gd; omega) _)
    go_upto_region 7 with (fail)
    generalize W6.setCell ⟨gd, 0, none⟩ (.func (.func 13) #[] #[.pointer (some ⟨gp, 0, none⟩), .pointer (some ⟨gd, 0, none⟩), .pointer (some ⟨w.heap.size, 0, none⟩)]) = X0 at HP7 HD7 HM7 HB7 ⊢
    clear cz fz
    have HDE : Hid (0 < n → ∃ (b0 o0 : Nat) (V : Nat → Leaf), A = some ⟨b0, o0, none⟩ ∧ DE X0 gp (gp + 1) w.heap.size gd hi next b0 o0 n c nds V) := Lib.hid fun hn0 => by
      obtain ⟨b0, o0, hA, _, hb0, V, hV⟩ := HH.out.2.2.2 hn0
      have hbl := HB7.out.mono hh
      subst hA
      exact ⟨b0, o0, V, rfl, ⟨HH.out.below hbl, fun i nd hnd => ⟨(hV i nd hnd).1.below hbl hb0, (hV i nd hnd).2.below hbl⟩, hb0, by omega, by omega, HP7.out.sz, HM7.out, by omega, HD7.out, by omega, HR.out, fun nd hnd => nd_ok HR.out hnd, tab_keep HE.out HB7.out hgt, by omega⟩⟩
    have HNN : Hid (n = nds.length) := Lib.hid HH.out.1.symm
    have a7 := (HM7.out.cell 1).trans (show _ = some (.slice A n c) from rfl)
    go_wp2_with fail
    go_loopw [20] (fun i wr => ∃ j : Nat, j ≤ n ∧ i = .int .i64 j ∧ Hid (WrP gp (gp + 1) X0 (pageV (headL next) ((pre nds 64 1 (rootsV (nds.take j))).flatMap (nodeT nds))) wr)) (fun i _ => n - (intOf i).toNat)
    case atStart => exact ⟨0, Nat.zero_le _, rfl, Lib.hid (by rw [List.take_zero, show rootsV [] = [] from rfl, pre_nil, List.flatMap_nil]; exact ⟨⟨_, HP7.out⟩, KeepP.refl _ _ _⟩)⟩
    case round =>
      clear a7
      rename World => wr
      obtain ⟨j, hj, rfl, HWr⟩ := hrel
      have a8 := ((HWr.out.k.blk HM7.out (by omega)).cell 1).trans (show _ = some (.slice A n c) from rfl)
      by_cases hjn : j < n
      · obtain ⟨b0, o0, V, hA, E⟩ := HDE.out (by omega)
        subst hA
        have HDn := Lib.hid (down_any E 63 1 (by omega) (by omega))
        obtain ⟨nd, hnd⟩ : ∃ nd, nds[j]? = some nd := ⟨nds[j]'(by have := HNN.out; omega), List.getElem?_eq_getElem _⟩
        have hlow := HWr.out.k.below (by omega) (by have := E.hB; omega)
        have x2 := ((E.at_ j nd hnd).1.below hlow (by have := E.b0h; omega)).c2
        have hRT := roots_take' hnd
        have HND := Lib.hid hnd
        have cd := ((HWr.out.k.blk E.d E.gdne).cell 0).trans (show _ = some (.func (.func 13) #[] #[.pointer (some ⟨gp, 0, none⟩), .pointer (some ⟨gd, 0, none⟩), .pointer (some ⟨w.heap.size, 0, none⟩)]) from rfl)
        cases d1 : (nd.par == 0) with
        | false =>
          have HN : Hid (rootsV (nds.take (j + 1)) = rootsV (nds.take j)) := Lib.hid (by rw [hRT, d1]; simp)
          clear hRT hnd E hlow
          go_wp2_with fail
          go_roundw
          case rel => exact ⟨j + 1, by omega, by go_num, Lib.hid (by rw [HN.out]; exact HWr.out)⟩
          case measure => simp [intOf]; omega
        | true =>
          have HN : Hid (rootsV (nds.take (j + 1)) = rootsV (nds.take j) ++ [nd.id]) := Lib.hid (by rw [hRT, d1]; simp)
          have hdep : depthV nds nd.id = 1 := by
            refine (roots_at HR.out nd.id ?_).2
            unfold rootsV
            exact List.mem_map.2 ⟨nd, List.mem_filter.2 ⟨List.mem_of_getElem? hnd, d1⟩, rfl⟩
          have HCL : Hid (Calls Tryd.prog 13 #[.pointer (some ⟨b0, o0 + j * 7, none⟩), .int .i64 1, .pointer (some ⟨gp, 0, none⟩), .pointer (some ⟨gd, 0, none⟩), .pointer (some ⟨w.heap.size, 0, none⟩)] wr fun e Y => e = .returned (.tuple #[]) ∧ WrP gp (gp + 1) X0 (pageV (headL next) ((pre nds 64 1 (rootsV (nds.take (j + 1)))).flatMap (nodeT nds))) Y) := Lib.hid (by
            have := HDn.out j nd hnd hdep wr _ HWr.out
            rw [HN.out, pre_append, List.flatMap_append, pageV_append]
            exact this)
          clear hRT hnd E hlow hdep
          go_wp2_with (go_at_call 13; refine HCL.out.mono ?_; rintro e Y ⟨rfl, hwy⟩; have HWY := Lib.hid hwy; clear hwy)
          go_roundw
          case rel => exact ⟨j + 1, by omega, by go_num, HWY⟩
          case measure => simp [intOf]; omega
      · have HFI : Hid (WrP gp (gp + 1) X0 (pageV (headL next) ((pre nds 64 1 (rootsV nds)).flatMap (nodeT nds))) wr) := Lib.hid (by have := HWr.out; rw [List.take_of_length_le (by have := HNN.out; omega)] at this; exact this)
        have hjn2 : ¬ (j : Int) < (n : Int) := by omega
        have HTO := Lib.hid (toldV_page (headL next) ((pre nds 64 1 (rootsV nds)).flatMap (nodeT nds)))
        have HX2 : Hid (pv = toldV (headL next ++ ((pre nds 64 1 (rootsV nds)).flatMap (nodeT nds)).flatten)) := Lib.hid (by rw [HX.out, List.flatten_cons])
        generalize pageV (headL next) ((pre nds 64 1 (rootsV nds)).flatMap (nodeT nds)) = L at HFI HTO
        obtain ⟨v9, hv9⟩ := HFI.out.p
        have HBW : Hid (Below w.heap.size w wr) := Lib.hid (HB7.out.trans ((HFI.out.k.below (by omega) (by have := HP7.out.sz; omega)).mono (by omega)))
        have HLG := Lib.hid (long_any wr gp (gp + 1) L v9 hv9)
        have c9 := (hv9.t.cell 0).trans (show _ = some v9 from rfl)
        have hcv := conv_own hv9.o
        clear hv9
        by_cases hlg : 1048576 < L.length
        · have h1 : decide (1048576 < L.length) = true := by simpa using hlg
          rw [h1] at HLG
          have HPR : Hid (pv = ([], 3)) := Lib.hid (by rw [HX2.out, ← HTO.out, if_pos hlg])
          clear h1 hlg
          go_wp2_with (go_at_call 16; refine HLG.out.mono ?_; rintro e X9 ⟨rfl, rfl⟩)
          go_ret2
          exact printP HPR.out HBW.out
        · have h1 : decide (1048576 < L.length) = false := by simpa using hlg
          rw [h1] at HLG
          have HPR : Hid (pv = (L, 0)) := Lib.hid (by rw [HX2.out, ← HTO.out, if_neg hlg])
          clear h1 hlg
          go_wp2_with (go_at_call 16; refine HLG.out.mono ?_; rintro e X9 ⟨rfl, rfl⟩)
          go_ret2
          exact printP HPR.out HBW.out
end Go.Proofs.YtdeoblhdojbbbaaDoor

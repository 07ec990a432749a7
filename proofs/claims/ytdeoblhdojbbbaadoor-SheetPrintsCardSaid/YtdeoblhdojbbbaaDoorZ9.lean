/-
  WALKS: count, rooted of the program.
-/
import Derived.Test.YtdeoblhdojbbbaaDoorZ8
import Derived.Deep.LoopGhost
namespace Go.Proofs.YtdeoblhdojbbbaaDoor
open Go Go.RowKit Go.Sort
set_option linter.unusedVariables false
theorem only_cell {w w' : World} {g : Nat} (h : w.grownBy w' (some g)) {b o : Nat} (hb : b < w.heap.size) (hne : b ≠ g) : w'.cell? ⟨b, o, none⟩ = w.cell? ⟨b, o, none⟩ :=
  World.cell?_of_block (h.block b hb (fun e => hne (by injection e)))
theorem only_set {a w : World} {g : Nat} (h : a.grownBy w (some g)) (i : Nat) (u : Value) : a.grownBy (w.setCell ⟨g, i, none⟩ u) (some g) :=
  ⟨h.os, h.tape, h.output, by simpa [World.setCell] using h.size, fun k hk hne => (Below.heap_setCell w ⟨g, i, none⟩ u k (by rintro rfl; exact hne rfl)).trans (h.block k hk hne)⟩
theorem Below.only {B : Nat} {a w w' : World} (h : Below B a w) {g : Nat} (hg : w.grownBy w' (some g)) (hB : B ≤ w.heap.size) (hBg : B ≤ g) : Below B a w' :=
  h.grown hg hB (fun k hk => by injection hk with hk; omega)
/-- what count answers -/
def Counted (w : World) (g : Nat) (b : Bool) (dl : List Int) (e : Ending) (w' : World) : Prop := e = .returned (.bool b) ∧ IBlk w' g dl ∧ w.grownBy w' (some g)
set_option maxHeartbeats 1600000 in
theorem count_any (w : World) (g h n c L cw : Nat) (dl wl : List Int) (from_ : Int) (hd : IBlk w g dl) (hn : dl.length = n) (hne : h ≠ g) (hh : h < w.heap.size) (hL : wl.length = L) (hL64 : L ≤ 64) (hcw : L ≤ cw) (hcm : cw ≤ maxLen) (hnc : n ≤ c) (hcm' : c ≤ maxLen)
    (hw : ∀ (j : Nat) x, wl[j]? = some x → w.cell? ⟨h, j, none⟩ = some (.int .i64 x) ∧ 0 ≤ x ∧ x < n) (h0 : 0 ≤ from_) (h1 : from_ ≤ 64) :
    Calls Tryd.prog 49 #[.slice (some ⟨g, 0, none⟩) n c, .slice (some ⟨h, 0, none⟩) L cw, .int .i64 from_] w (Counted w g (decide (from_ + L ≤ 64)) (countF (from_ + L) 0 dl wl)) := by
  unfold maxLen at hcm hcm'
  have HN := Lib.hid hn
  have HL := Lib.hid hL
  have HW := Lib.hid hw
  have HD := Lib.hid hd
  clear hn hL hw hd
  go_enter Tryd.func49, Tryd.ntmps49
  go_wp2_with fail
  go_loopw [11] (fun i wr => ∃ (k : Nat) (d : List Int), k ≤ L ∧ i = .int .i64 k ∧ IBlk wr g d ∧ w.grownBy wr (some g) ∧ Hid (countF (from_ + L) 0 dl wl = countF (from_ + L) k d (wl.drop k)) ∧ Hid (d.length = n)) (fun i _ => L - (intOf i).toNat)
  case atStart => exact ⟨0, dl, by omega, rfl, HD.out, World.grownBy.refl _ _, Lib.hid rfl, HN⟩
  case round =>
    obtain ⟨k, d, hk, rfl, hb, hg, HK, HDL⟩ := hrel
    have HB := Lib.hid hb
    have HG := Lib.hid hg
    by_cases hlt : k < L
    · obtain ⟨x, hx⟩ : ∃ x, wl[k]? = some x := ⟨wl[k]'(by have := HL.out; omega), List.getElem?_eq_getElem _⟩
      obtain ⟨q1, q2, q3⟩ := HW.out k x hx
      have hc1 : wr.cell? ⟨h, k, none⟩ = some (.int .i64 x) := (only_cell hg hh hne).trans q1
      obtain ⟨m, rfl⟩ : ∃ m : Nat, x = (m : Int) := ⟨x.toNat, by omega⟩
      have hck := hb.cell (i := m) (by have := HDL.out; omega)
      have hfk := Blk.frozen hb m
      have hwd : wl.drop k = (m : Int) :: wl.drop (k + 1) := by
        obtain ⟨hl', e⟩ := List.getElem?_eq_some_iff.1 hx
        rw [← e]
        exact List.drop_eq_getElem_cons hl'
      have HZ : Hid (countF (from_ + L) 0 dl wl = countF (from_ + L) (k + 1) (d.set m (from_ + L - k)) (wl.drop (k + 1))) := Lib.hid (by rw [HK.out, hwd, countF]; simp)
      clear hx hwd HK q1 hb hg
      go_wp2_with fail
      go_roundw
      case rel => exact ⟨k + 1, _, by omega, by go_num, HB.out.set_ m _, only_set HG.out _ _, HZ, Lib.hid (by rw [List.length_set]; exact HDL.out)⟩
      case measure => simp [intOf]; omega
    · have HZ : Hid (countF (from_ + L) 0 dl wl = d) := Lib.hid (by rw [HK.out, List.drop_eq_nil_of_le (by have := HL.out; omega)]; rfl)
      clear HK hb hg
      go_wp2_with fail
      go_ret
      exact ⟨rfl, by rw [HZ.out]; exact HB.out, HG.out⟩
def nought64 : List Int := List.replicate 64 0
theorem make_ints2 (w : World) :
    (Instr.makeSlice 34 (.int .i64 0) (.int .i64 64)).run Tryd.prog w = .ok (.slice (some ⟨w.heap.size, 0, none⟩) 0 64) (w.alloc (.cells (intCells (nought64)).toArray 3)) := by
  obtain ⟨i, hi, hzz⟩ := Option.map_eq_some_iff.1 intInfo
  simp only [Prod.mk.injEq] at hzz
  obtain ⟨hz, hs, hb⟩ := hzz
  have hr := run_make (P := Tryd.prog) w 34 3 i (.int .i64 0) Tryd.underlying34 hi hz .i64 .i64 0 64 (by omega) (by omega) (by rw [hb]; omega) (by omega)
  unfold nought64
  rw [← made_ints]
  simp only [hs, Nat.mul_one] at hr
  exact hr
/-- the slice of 64 places of which L are filled -/
def WayIn (w : World) (g L : Nat) (wl : List Int) : Prop := w.ownsRow g 3 1 (.slice (some ⟨g, 0, none⟩) L 64) L (intCells wl)
theorem WayIn.zero {w : World} {g L : Nat} {wl : List Int} (h : WayIn w g L wl) : WayIn w g 0 [] := by
  rcases h.2 with ⟨h, _⟩ | ⟨g', cap, cur, e, hb, hg, h1, h2, h3, h4⟩
  · cases h
  · injection e with e1 e2 e3
    injection e1 with e1
    injection e1 with e1
    subst e1 e3
    exact ⟨by simp [intCells], .inr ⟨g, 64, cur, rfl, hb, hg, Nat.zero_le _, h2, h3, by simp [intCells]⟩⟩
theorem WayIn.start (w : World) : WayIn (w.alloc (.cells (intCells (nought64)).toArray 3)) w.heap.size 0 [] :=
  World.ownsRow_made w (intCells nought64).toArray 64 (Nat.le_refl _) (by simp [maxLen]) (by simp [intCells, nought64])
theorem WayIn.cell {w : World} {g L : Nat} {wl : List Int} (h : WayIn w g L wl) {j : Nat} {x : Int} (hx : wl[j]? = some x) : w.cell? ⟨g, j, none⟩ = some (.int .i64 x) := by
  have := World.ownsRow.cells h (g := g) rfl j _ (intCells_get hx)
  rwa [Addr.add_lit, Nat.zero_add] at this
theorem WayIn.len {w : World} {g L : Nat} {wl : List Int} (h : WayIn w g L wl) : wl.length = L := by
  have := h.1; rw [intCells_length] at this; omega
theorem WayIn.lt {w : World} {g L : Nat} {wl : List Int} (h : WayIn w g L wl) : g < w.heap.size := (World.ownsRow.lt h g rfl).2
theorem WayIn.kept {w w' : World} {g L r : Nat} {wl : List Int} (h : WayIn w g L wl) (hg : w.grownBy w' (some r)) (hne : g ≠ r) : WayIn w' g L wl :=
  World.ownsRow.kept h hg (.inr (by simp [Value.ownBlock, hne]))
theorem WayIn.alloc {w : World} {g L : Nat} {wl : List Int} (h : WayIn w g L wl) (o : Obj) : WayIn (w.alloc o) g L wl := World.ownsRow.alloc h o
theorem new_one (w : World) (x : Value) (t : TypeId) : ∀ j u, [x][j]? = some u → (w.alloc (.cells #[x] t)).cell? ((⟨w.heap.size, 0, none⟩ : Addr).add j) = some u := by
  intro j u hj
  match j, hj with
  | 0, hj =>
    obtain rfl : x = u := by simpa using hj
    exact World.cell?_alloc_at (hn := rfl) ..
theorem one_one (k : IntKind) (m : Int) : ∀ u ∈ [Value.int k m], u.oneCell' = true := by
  intro u hu
  obtain rfl : u = .int k m := by simpa using hu
  rfl
/-- what holds in the loops of rooted -/
structure RW (w : World) (n L : Nat) (dl wl : List Int) (wr : World) : Prop where
  deep : IBlk wr w.heap.size dl
  way : WayIn wr (w.heap.size + 1) L wl
  bel : Below w.heap.size w wr
  len : dl.length = n
theorem RW.start {w wr : World} {n L : Nat} {dl wl : List Int} (h : RW w n L dl wl wr) : RW w n 0 dl [] wr := ⟨h.deep, h.way.zero, h.bel, h.len⟩
theorem RW.count {w wr w' : World} {n L : Nat} {dl wl dl' : List Int} (h : RW w n L dl wl wr) (hi : IBlk w' w.heap.size dl') (hg : wr.grownBy w' (some w.heap.size)) (hl : dl'.length = n) : RW w n L dl' wl w' :=
  ⟨hi, h.way.kept hg (by omega), Below.only h.bel hg h.bel.size (Nat.le_refl _), hl⟩
set_option maxHeartbeats 3200000 in
theorem rooted_any (w : World) (hi : Nat) (A : Option Addr) (n c : Nat) (av : List Int) (h : Row w 0 hi 1 A n c (intCells av)) (hh : hi ≤ w.heap.size) (hn : n ≤ 4096) (hl : av.length = n) (hav : ∀ j, j < n → -1 ≤ av.getD j (-1) ∧ av.getD j (-1) < n) :
    Calls Tryd.prog 29 #[.slice A n c] w (Ret w (.bool (rootedB av))) := by
  have hc := h.2.2.1
  have hnc := h.2.1
  have HL := Lib.hid hl
  have HAV := Lib.hid hav
  unfold maxLen at hc
  have hmk := make_ints n (by omega)
  have hmk2 := make_ints2
  have R0 : RW w n 0 (List.replicate n 0) [] ((w.alloc (.cells (intCells (List.replicate n 0)).toArray 3)).alloc (.cells (intCells (nought64)).toArray 3)) :=
    ⟨(Blk.new _ _ _).alloc _, by have := WayIn.start (w.alloc (.cells (intCells (List.replicate n 0)).toArray 3)); simpa using this, (below_box _ _).alloc (by simp) _, by simp⟩
  have HR0 := Lib.hid R0
  have HD0 : Hid (DInv av (List.replicate n 0)) := Lib.hid (by have := DInv.start av; rwa [hl] at this)
  clear R0 hl hav
  go_enter Tryd.func29, Tryd.ntmps29
  go_wp2_with fail
  go_step3
  go_wp2_with fail
  go_step3
  go_wp2_with fail
  clear hmk hmk2
  generalize ((w.alloc (.cells (intCells (List.replicate n 0)).toArray 3)).alloc (.cells (intCells (nought64)).toArray 3)) = W1 at HR0 ⊢
  go_loopg [4, 13] n (fun gk v i wo => ∃ (k L : Nat) (dl wl : List Int), k ≤ n ∧ gk = n - k ∧ i = .int .i64 k ∧ v = .slice (some ⟨w.heap.size + 1, 0, none⟩) L 64 ∧ L ≤ 64 ∧ RW w n L dl wl wo ∧ Hid (DInv av dl) ∧ Hid (∀ j : Nat, j < k → (lvl av 64 j).isSome = true))
  case atStart => exact ⟨0, 0, _, [], by omega, by omega, rfl, rfl, by omega, HR0.out, HD0, Lib.hid (fun j hj => absurd hj (by omega))⟩
  case round =>
    clear HR0 HD0
    obtain ⟨k, L, dl, wl, hk, hgk, rfl, rfl, hL, R, HD, HK⟩ := hrel
    have HR := Lib.hid R.start
    have HGK := Lib.hid hgk
    clear R hgk
    by_cases hlt : k < n
    · go_wp2_with fail
      obtain ⟨wo, rfl⟩ : ∃ wo : World, wo = wr := ⟨_, rfl⟩
      go_loopg [4, 6] 65 (fun gl v x wr => ∃ (M : Nat) (y : Int), M ≤ 64 ∧ Hid (gl = 65 - M) ∧ x = .int .i64 y ∧ v = .slice (some ⟨w.heap.size + 1, 0, none⟩) M 64 ∧ RW w n M dl (chain av k M) wr ∧ Hid (y = up av M k) ∧ Hid (∀ m, m < M → 0 ≤ up av m k ∧ up av m k < n) ∧ -1 ≤ y ∧ y < n)
      case atStart => exact ⟨0, k, by omega, Lib.hid rfl, rfl, rfl, HR.out, Lib.hid rfl, Lib.hid (fun m hm => absurd hm (by omega)), by omega, by omega⟩
      case round =>
        obtain ⟨M, y, hM, HGL, rfl, rfl, R, HY, HUP, hy1, hy2⟩ := hrel
        have HRr := Lib.hid R
        have hzr : w.heap.size + 1 < wr.heap.size := R.way.lt
        have hCN : ∀ (f : Nat), f ≤ 64 → Calls Tryd.prog 49 #[.slice (some ⟨w.heap.size, 0, none⟩) n n, .slice (some ⟨w.heap.size + 1, 0, none⟩) M 64, .int .i64 (f : Int)] wr (Counted wr w.heap.size (decide (f + M ≤ 64)) (countF ((f : Int) + M) 0 dl (chain av k M))) := by
          intro f hf
          have := count_any wr w.heap.size (w.heap.size + 1) n n M 64 dl (chain av k M) f R.deep R.len (by omega) hzr (chain_len av k M) hM hM (by simp [maxLen]) (Nat.le_refl _) (by unfold maxLen; omega) (fun j x hx => by
            obtain ⟨hj, rfl⟩ := chain_get hx
            exact ⟨R.way.cell hx, (HUP.out j hj).1, (HUP.out j hj).2⟩) (by omega) (by omega)
          rwa [show decide ((f : Int) + M ≤ 64) = decide (f + M ≤ 64) from by rw [Bool.eq_iff_iff]; simp; omega] at this
        have HCN := Lib.hid hCN
        clear hCN R
        by_cases hy : y = -1
        · have d1 : (y != -1) = false := by rw [bne_eq_false_iff_eq]; exact hy
          have HE : Hid (∃ f, lvl av f (up av M k) = some 0) := Lib.hid ⟨0, by rw [← HY.out, hy]; exact lvl_end _ _⟩
          have hC0 := HCN.out 0 (by omega)
          have HC0 := Lib.hid hC0
          clear hy hC0
          go_wp2_with (go_at_call 49; refine HC0.out.mono ?_; rintro e w2 ⟨rfl, hib, hg2⟩; have HIB := Lib.hid hib; have HG2 := Lib.hid hg2; clear hib hg2)
          have hD2 : DInv av (countF (((0 : Nat) : Int) + M) 0 dl (chain av k M)) := HD.out.count (d := 0) (fun m hm => (HUP.out m hm).1) HE.out (by omega)
          go_roundg (n - (k + 1))
          case measure => have := HGK.out; omega
          case rel =>
            refine ⟨k + 1, M, _, _, by omega, rfl, by go_num, rfl, hM, HRr.out.count HIB.out HG2.out ?_, Lib.hid hD2, Lib.hid (fun j hj => ?_)⟩
            · rw [countF_len]; exact HRr.out.len
            · by_cases e : j = k
              · subst e
                have := (lvl_chain (fun m hm => by have := HUP.out m hm; omega) HE.out 0 (by omega) 64).1 (by omega)
                have : lvl av 64 (j : Int) = _ := this
                rw [this]; rfl
              · exact HK.out j (by omega)
        · have d1 : (y != -1) = true := by rw [bne_iff_ne]; exact hy
          obtain ⟨m, rfl⟩ : ∃ m : Nat, y = (m : Int) := ⟨y.toNat, by omega⟩
          have hm : m < n := by omega
          obtain ⟨d, hdm, hdl⟩ := HD.out.2 m (by rw [HL.out]; exact hm)
          have hck := HRr.out.deep.cell (i := m) (by rw [HRr.out.len]; exact hm)
          rw [hdm] at hck
          clear hy
          by_cases h0 : 0 < d
          · have hlv : lvl av 64 (m : Int) = some d := by rcases hdl with e | e; (omega); exact e
            have h64 := (lvl_more hlv).1
            have HE : Hid (∃ f, lvl av f (up av M k) = some d) := Lib.hid ⟨64, by rw [← HY.out]; exact hlv⟩
            have HCH := Lib.hid (lvl_chain (fun m hm => by have := HUP.out m hm; omega) HE.out 0 (by omega) 64)
            have HC0 := Lib.hid (HCN.out d h64)
            by_cases hs : d + M ≤ 64
            · rw [decide_eq_true hs] at HC0
              clear hlv hdm hdl
              go_wp2_with (go_at_call 49; refine HC0.out.mono ?_; rintro e w2 ⟨rfl, hib, hg2⟩; have HIB := Lib.hid hib; have HG2 := Lib.hid hg2; clear hib hg2)
              have hD2 : DInv av (countF ((d : Int) + M) 0 dl (chain av k M)) := HD.out.count (fun m hm => (HUP.out m hm).1) HE.out hs
              go_roundg (n - (k + 1))
              case measure => have := HGK.out; omega
              case rel =>
                refine ⟨k + 1, M, _, _, by omega, rfl, by go_num, rfl, hM, HRr.out.count HIB.out HG2.out ?_, Lib.hid hD2, Lib.hid (fun j hj => ?_)⟩
                · rw [countF_len]; exact HRr.out.len
                · by_cases e : j = k
                  · subst e
                    have := HCH.out.1 (by omega)
                    have : lvl av 64 (j : Int) = _ := this
                    rw [this]; rfl
                  · exact HK.out j (by omega)
            · rw [decide_eq_false hs] at HC0
              have HZ : Hid (rootedB av = false) := Lib.hid (by
                unfold rootedB
                rw [List.all_eq_false]
                refine ⟨k, by rw [List.mem_range, HL.out]; exact hlt, ?_⟩
                have := HCH.out.2 (by omega)
                have : lvl av 64 (k : Int) = _ := this
                rw [this]; simp)
              clear hlv hdm hdl
              go_wp2_with (go_at_call 49; refine HC0.out.mono ?_; rintro e w2 ⟨rfl, hib, hg2⟩; have HIB := Lib.hid hib; have HG2 := Lib.hid hg2; clear hib hg2)
              try rw [Exit.noGoto_ret]
              go_ret
              exact ret_b HZ.out rfl (Below.only HRr.out.bel HG2.out (by omega) (Nat.le_refl _))
          · obtain rfl : d = 0 := by omega
            have d2 : decide ((0 : Int) < ((0 : Nat) : Int)) = false := rfl
            by_cases h64 : M = 64
            · have HZ : Hid (rootedB av = false) := Lib.hid (by
                unfold rootedB
                rw [List.all_eq_false]
                refine ⟨k, by rw [List.mem_range, HL.out]; exact hlt, ?_⟩
                have := lvl_long (a := av) (L := 64) (i := k) (fun j hj => by
                  by_cases e : j = 64
                  · subst e; have := HY.out; rw [h64] at this; omega
                  · have := HUP.out j (by omega); omega)
                rw [this]; simp)
              have d3 : ((M : Int) == 64) = true := by rw [beq_iff_eq]; omega
              clear hdm hdl h64
              go_wp2_with fail
              try rw [Exit.noGoto_ret]
              go_ret
              exact ret_b HZ.out rfl HRr.out.bel
            · have d3 : ((M : Int) == 64) = false := by rw [beq_eq_false_iff_ne]; omega
              have hM1 : M + 1 ≤ 64 := by omega
              obtain ⟨b, o, rfl, _, hb, hcells⟩ := h.at_ (by omega)
              have hx : av[m]? = some (av.getD m (-1)) := by
                rw [List.getD_eq_getElem?_getD, List.getElem?_eq_getElem (by rw [HL.out]; exact hm)]; rfl
              have HCW := Lib.hid (hcells m _ (intCells_get hx))
              have HAB := Lib.hid (HAV.out m hm)
              obtain ⟨i0, hi0, hzz⟩ := Option.map_eq_some_iff.1 intInfo
              simp only [Prod.mk.injEq] at hzz
              have HSZ := Lib.hid hzz.2.1
              have HI0 := Lib.hid hi0
              have HWY := Lib.hid HRr.out.way
              obtain ⟨z, hz⟩ : ∃ z, av.getD m (-1) = z := ⟨_, rfl⟩
              rw [hz] at HCW HAB
              have HZD := Lib.hid hz
              clear hzz hi0 hx hz hcells hdm hdl h64
              go_wp2_with (at_builtin; refine wpList_append_fits _ rfl _ _ 34 rfl (w.heap.size + 1) 3 i0 1 Tryd.underlying34 HI0.out HSZ.out (w.heap.size + 1) M 64 (intCells (chain av k M)) rfl (HWY.out.alloc _) ⟨wr.heap.size, 0, none⟩ 1 1 [.int .i64 (m : Int)] rfl rfl (new_one wr _ _) (one_one _ _) (by omega) ?_; intro w2 hown2 hg2; have hbw2 : Below w.heap.size w w2 := Below.only (HRr.out.bel.alloc (by omega) _) hg2 (by simp; omega) (by omega); have hc2 : w2.cell? ⟨b, o + m, none⟩ = some (.int .i64 z) := (hbw2.cell (p := ⟨b, _, none⟩) (Nat.lt_of_lt_of_le hb hh)).trans HCW.out; have HO2 := Lib.hid hown2; have HG2 := Lib.hid hg2; clear hown2 hg2)
              go_roundg (65 - (M + 1))
              case measure => have := HGL.out; omega
              case rel =>
                refine ⟨M + 1, z, by omega, Lib.hid rfl, rfl, rfl, ⟨?_, ?_, hbw2, HRr.out.len⟩, Lib.hid ?_, Lib.hid (fun j hj => ?_), HAB.out.1, HAB.out.2⟩
                · exact (Blk.alloc HRr.out.deep _).grown HG2.out (by simp)
                · have := HO2.out
                  unfold WayIn
                  rw [chain_snoc, ← HY.out]
                  simpa [intCells] using this
                · rw [up_succ, ← HY.out, Int.toNat_natCast]; exact HZD.out.symm
                · by_cases e : j = M
                  · subst e; rw [← HY.out]; omega
                  · exact HUP.out j (by omega)
    · have e : k = n := by omega
      have HZ : Hid (rootedB av = true) := Lib.hid (by
        unfold rootedB
        rw [List.all_eq_true]
        intro j hj
        rw [List.mem_range, HL.out] at hj
        exact HK.out j (by omega))
      clear e
      go_wp2_with fail
      try rw [Exit.noGoto_ret]
      go_ret
      exact ret_b HZ.out rfl HR.out.bel
end Go.Proofs.YtdeoblhdojbbbaaDoor
